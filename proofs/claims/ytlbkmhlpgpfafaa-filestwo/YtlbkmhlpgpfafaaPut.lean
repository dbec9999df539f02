/-
  Contract of (*Disk).put: the map of a disk's files has one under a name.
-/
import Derived.Test.YtlbkmhlpgpfafaaOpC
import Derived.BigRegion
import Derived.Deep.RegionLaw
import Derived.WalkSpells
import Derived.Carry
namespace Go.Proofs.Ytlbkmhlpgpfafaa
open Go.RowKit Go.Maps Go.Joins
theorem wp_put {w : World} {m : Nat} {L : List Fl} {o : Oper} {a : Act} {K : Act → World → Prop} {Q : Exit → Act → World → Prop} (mo x v : Operand) (hop : o.op = Op.mapUpdate 50 mo x v)
    (s : ByteArray) (f : Fl) (h : MapAt w m L) (hm : a.eval mo = .map (some m)) (hx : a.eval x = .string s) (hv : a.eval v = .pointer (some ⟨f.blk, 0, none⟩)) (hs : s.size ≤ maxLen) (hL : L.length ≤ 64) (hf : f.pf.nm = s.data.toList)
    (hK : ∀ w', MapAt w' m (putK fk f L) → w.mapTurned w' m → K (a.put o.dst undef) w') : o.wp Try.prog a w K Q := by
  obtain ⟨w', hr, h1, h2⟩ := h.put hs hL f hf
  unfold Oper.wp
  simp [execOp, hop, hm, hx, hv, hr, Result.andThen]
  exact hK w' h1 h2
theorem turned_fr {w w' : World} {m : Nat} (h : w.mapTurned w' m) : Fr (fun k => k = m) w w' := by
  have g := h.grown
  exact ⟨g.os, g.tape, g.output, g.size, fun k hk hn => g.block k hk (fun e => hn (by injection e))⟩
theorem turned_size {w w' : World} {m : Nat} (h : w.mapTurned w' m) : w'.heap.size = w.heap.size := by
  obtain ⟨es, clock, es', clock', hb, rfl⟩ := h
  simp [Go.ChangeMaps.setBlock]
/-- What put leaves. -/
structure PutAt (w w' : World) (d : Nat) (mb : Option Nat) (m : Nat) (L : List Fl) (dn fu : Bool) (n : Int) (f : Fl) : Prop where
  hd : w'.heap[d]? = some (.cells #[.map (some m), .bool dn, .bool fu, .int .i64 n] 52 (0, 0))
  which : mb = some m ∨ (mb = none ∧ w.heap.size ≤ m)
  map : MapAt w' m (putK fk f L)
  fr : Fr (fun k => k = d ∨ mb = some k) w w'
section
variable {w : World} {d : Nat} {mb : Option Nat} {L : List Fl} {dn fu : Bool} {n : Int}
theorem put_fin {w w3 w4 : World} {m : Nat} {f : Fl} (hd : w.heap[d]? = some (.cells #[.map (some m), .bool dn, .bool fu, .int .i64 n] 52 (0, 0))) (hdm : m ≠ d) (hb : Below w.drew.heap.size w.drew w3) (hm : MapAt w4 m (putK fk f L)) (ht : w3.mapTurned w4 m) : PutAt w w4 d (some m) m L dn fu n f := by
  have hb' : Below w.heap.size w w3 := (⟨rfl, rfl, rfl, Nat.le_refl _, fun _ _ => rfl⟩ : Below w.heap.size w w.drew).trans hb
  have hdl := lt_of_block hd
  have f4 := turned_fr ht
  refine ⟨?_, Or.inl rfl, hm, (Fr.of hb').then (f4.mono (fun k hk => Or.inr (by rw [hk])))⟩
  rw [f4.block d (by have := hb'.size; omega) (fun e => hdm e.symm), hb'.block d hdl]
  exact hd
theorem put_fin1 {w W1 w4 : World} {m : Nat} {f : Fl} (hm : w.heap.size = m) (hf : Fr (fun k => k = d) w W1) (h : PutAt W1 w4 d (some m) m L dn fu n f) : PutAt w w4 d none m L dn fu n f := by
  refine ⟨h.hd, Or.inr ⟨rfl, by omega⟩, h.map, ?_⟩
  refine (hf.trans h.fr (fun x hx => ?_)).mono (fun k hk => Or.inl hk)
  rcases hx with hx | hx
  · exact Or.inl hx
  · injection hx with hx
    exact Or.inr (by omega)
set_option maxRecDepth 100000 in
set_option maxHeartbeats 1600000 in
theorem put_any (hd : w.heap[d]? = some (.cells #[.map mb, .bool dn, .bool fu, .int .i64 n] 52 (0, 0))) (hmb : MB w mb L) (hL : L.length ≤ 64) (s : ByteArray) (hs : s.size ≤ 64) (f : Fl) (hf : f.pf.nm = s.data.toList) :
    Calls Try.prog 40 #[.pointer (some ⟨d, 0, none⟩), .string s, .pointer (some ⟨f.blk, 0, none⟩)] w fun e w' => e = .returned (.tuple #[]) ∧ ∃ m, PutAt w w' d mb m L dn fu n f := by
  obtain ⟨⟨c0, c1, c2, c3⟩, f0, f1, f2, f3⟩ := cells4 hd
  have HCL := Lib.hid (fun W : World => sclone_any s (by omega) W)
  have HFN := Lib.hid hf
  rcases hmb with ⟨rfl, rfl⟩ | ⟨m, rfl, hm⟩
  · have hdl := lt_of_block hd
    have hq := run_eql_map_nil (P := Try.prog) w 50 9 62 none Try.underlying50
    rw [show (none : Option Nat).isNone = true from rfl] at hq
    have hdm : w.heap.size ≠ d := by omega
    have hd1 : ((w.setCell ⟨d, 0, none⟩ (.map (some w.heap.size))).alloc (.map #[] 0)).heap[d]? = some (.cells #[.map (some w.heap.size), .bool dn, .bool fu, .int .i64 n] 52 (0, 0)) := by
      rw [Below.heap_alloc _ _ d (by simpa using hdl), setD hd]
      simp
    have hm1 : MapAt ((w.setCell ⟨d, 0, none⟩ (.map (some w.heap.size))).alloc (.map #[] 0)) w.heap.size [] := by
      have := World.ownsMap_made (w.setCell ⟨d, 0, none⟩ (.map (some w.heap.size))) Try.prog 9 ptrR
      have e : (w.setCell ⟨d, 0, none⟩ (.map (some w.heap.size))).heap.size = w.heap.size := by simp
      rw [e] at this
      exact this
    have hf1 : Fr (fun k => k = d) w ((w.setCell ⟨d, 0, none⟩ (.map (some w.heap.size))).alloc (.map #[] 0)) := ((Fr.refl (fun k => k = d) w).setCell ⟨d, 0, none⟩ _ (Or.inl rfl)).alloc _
    have HM := Lib.hid hm1
    have HD := Lib.hid hd1
    have HF1 := Lib.hid hf1
    have hL : ([] : List Fl).length ≤ 64 := by simp
    have hdl1 : d < ((w.setCell ⟨d, 0, none⟩ (.map (some w.heap.size))).alloc (.map #[] 0)).heap.size := by simp; omega
    have hmk := run_makeMap (P := Try.prog) 50 w
    clear hm1 hd hd1 hf1 hf
    go_enter Try.func40, Try.ntmps40
    go_wp2_with fail
    generalize (w.setCell ⟨d, 0, none⟩ (.map (some w.heap.size))).alloc (.map #[] 0) = W1 at *
    generalize hmw : w.heap.size = m at *
    have HMW := Lib.hid hmw
    have HDM := Lib.hid hdm
    clear hmw c0 c1 c2 c3 f0 f1 f2 f3 hdl hdm hmk hq
    have hdl := hdl1
    clear hdl1
    obtain ⟨⟨c0, c1, c2, c3⟩, f0, f1, f2, f3⟩ := cells4 HD.out
    go_region_law (rw [if_pos (by rfl)]; go_simp; go_at_call 54; refine (HCL.out _).mono ?_; rintro e w3 ⟨rfl, hb3⟩; have q0 := (hb3.cell (p := ⟨d, 0, none⟩) hdl).trans c0; have HB3 := Lib.hid hb3; obtain ⟨w4, hup, hm4, ht4⟩ := MapAt.put (HM.out.same (HB3.out.block m HM.out.lt)) (show s.size ≤ maxLen by unfold maxLen; omega) hL f HFN.out; have HR4 := Lib.hid (And.intro hm4 ht4); clear hb3 hm4 ht4)
    all_goals
      go_wp2_with fail
      go_end0
      exact ⟨rfl, m, put_fin1 HMW.out HF1.out (put_fin HD.out HDM.out HB3.out HR4.out.1 HR4.out.2)⟩
  · have hdm : m ≠ d := by
      intro e
      obtain ⟨es, clock, hk⟩ := hm.kind
      rw [e, hd] at hk
      cases hk
    have HM := Lib.hid hm
    have hdl := lt_of_block hd
    have HD := Lib.hid hd
    have hq := run_eql_map_nil (P := Try.prog) w 50 9 62 (some m) Try.underlying50
    rw [show (some m).isNone = false from rfl] at hq
    clear hm hd hf
    go_enter Try.func40, Try.ntmps40
    go_wp2_with fail
    go_region_law (rw [if_pos (by rfl)]; go_simp; go_at_call 54; refine (HCL.out _).mono ?_; rintro e w3 ⟨rfl, hb3⟩; have q0 := (hb3.cell (p := ⟨d, 0, none⟩) hdl).trans c0; have HB3 := Lib.hid hb3; obtain ⟨w4, hup, hm4, ht4⟩ := MapAt.put (HM.out.same (HB3.out.block m HM.out.lt)) (show s.size ≤ maxLen by unfold maxLen; omega) hL f HFN.out; have HR4 := Lib.hid (And.intro hm4 ht4); clear hb3 hm4 ht4)
    all_goals
      go_wp2_with fail
      go_end0
      exact ⟨rfl, m, put_fin HD.out hdm HB3.out HR4.out.1 HR4.out.2⟩
end
end Go.Proofs.Ytlbkmhlpgpfafaa
