/-
  Contracts of graph.neighbours and graph.Neighbours.
-/
import Derived.Test.YtgkpmcpkobphpaaTNear
namespace Go.Proofs.Ytgkpmcpkobphpaa.T3
open Go.RowKit
/-- The neighbours. -/
def nbs (n : Nat) (l : List A) (v : Nat) : List Int := hits (mk (nbM v n l)) n
theorem not3b {c : Array Value} : ∀ cur, Obj.cells c 4 (0, 0) ≠ .cells cur 3 (0, 0) := by
  intro cur e
  injection e with e1 e2 e3
  exact absurd e2 (by decide)
theorem OwnB.block {w : World} {g n : Nat} {L : List Bool} (h : OwnB w g n L) : ∃ cur, w.heap[g]? = some (.cells cur 4 (0, 0)) := by
  unfold OwnB at h
  rcases h.2 with ⟨h', _⟩ | ⟨g', c, cur, h', _, hg, _⟩
  · cases h'
  · injection h' with e1 e2 e3
    injection e1 with e4
    injection e4 with e5
    subst e5
    exact ⟨cur, hg⟩
set_option maxRecDepth 100000 in
set_option maxHeartbeats 1600000 in
theorem neighbours_any (m n v : Nat) (a : Option Addr) (l : List A) (cap : Nat) (w : World) (hn : n ≤ 1024) (hv : v < n) (hl : l.length ≤ 8192) (hall : ∀ x ∈ l, (0 ≤ x.f ∧ x.f < n) ∧ (0 ≤ x.t ∧ x.t < n)) (hr : ArcsB m w a l) (hf : Filled w m []) :
    Calls Try.prog 50 #[.agg #[.int .i64 n, .slice a l.length cap], .int .i64 v, .func (.func 44) #[.pointer (some ⟨m, 0, none⟩)] #[]] w fun e w' => e = .returned (.tuple #[]) ∧ FilB w' m (m + 1) (nbs n l v) ∧ Below m w w' := by
  obtain ⟨i4, hi4, hz0, hz1, hz2⟩ := info_parts info4
  have hmw := hf.lt
  have hb0 : Below w.heap.size w (w.alloc (.cells #[.int .i64 n, .slice a l.length cap] 24)) := (Below.refl _ _).alloc (Nat.le_refl _) _
  have hg0 := heap_top w (.cells #[.int .i64 n, .slice a l.length cap] 24)
  have s0 := lt_of_block hg0
  obtain ⟨b, o, hab⟩ := hr.get
  have HALL := Lib.hid hall
  have HF := Lib.hid hf
  have HXS : Hid (nbs n l v = hits (mk (nbM v n l)) n) := rfl
  generalize nbs n l v = xs at *
  clear hall hf
  go_enter Try.func50, Try.ntmps50
  go_wp2_with (at_make; refine wpList_make_full _ rfl (.tmp 10) (.tmp 10) 48 rfl _ 4 i4 (.bool false) 1 Try.underlying48 hi4 hz0 hz1 .i64 .i64 n n n rfl rfl rfl rfl (by rw [hz2]; omega) (by unfold maxLen; omega) (Nat.le_refl _) ?_; intro w1 hown1 hgrow1; have hb1 := (Below.refl _ _).grown hgrow1 (Nat.le_refl _) (by intro k hk; cases hk); have hg1 := (hb1.block _ s0).trans hg0; obtain ⟨⟨g0, g1⟩, gf0, gf1⟩ := two_cells hg1)
  have hown0 := ownB_new hown1
  clear hown1 hgrow1
  have b1 := bthen hb0 hb1 (by simp)
  have eg : (w.alloc (.cells #[.int .i64 n, .slice a l.length cap] 24)).heap.size = w.heap.size + 1 := by simp
  rw [eg] at hown0
  clear hb1 hb0 hg0 s0 eg
  go_loopw [15] (fun i wr => ∃ k : Nat, k ≤ l.length ∧ i = .int .i64 k ∧ OwnB wr (w.heap.size + 1) n (nbL v n (l.take k)) ∧ Below w.heap.size w wr) (fun i _ => l.length - (intOf i).toNat)
  case atStart => exact ⟨0, Nat.zero_le _, rfl, hown0, b1⟩
  case round =>
    obtain ⟨k, hk, rfl, hown, hb⟩ := hrel
    clear hown0 hg1 b1 g0 g1 gf0 gf1
    have hsz := hown.lt
    by_cases hlt : k < l.length
    · obtain ⟨rfl, hbl, hat⟩ := hab (by omega)
      obtain ⟨c0, c1, c2⟩ := (hat k hlt).onB (show b < w.heap.size by omega) hb
      have HS := Lib.hid (nbL_take v n l k hlt)
      have hx := HALL.out _ (mem_getD hlt)
      have HXL := Lib.hid (nbL_len v n (l.take k))
      generalize nbL v n (l.take k) = X at *
      generalize l.getD k A.zero = x at *
      obtain ⟨xf, xt, xw⟩ := x
      obtain ⟨f, hf⟩ : ∃ f : Nat, xf = f := ⟨xf.toNat, by have := hx.1.1; simp at this; omega⟩
      obtain ⟨t, ht⟩ : ∃ t : Nat, xt = t := ⟨xt.toNat, by have := hx.2.1; simp at this; omega⟩
      subst hf ht
      have hfn : f < n := by have := hx.1.2; simp at this; omega
      have htn : t < n := by have := hx.2.2; simp at this; omega
      clear hx
      have ff := hown.free f
      have ft := hown.free t
      have cf := hown.cell HXL.out f hfn
      have ct := hown.cell HXL.out t htn
      generalize X.getD f false = xf0 at *
      generalize X.getD t false = xt0 at *
      have b5 := hb.alloc (by omega) (.cells #[.int .i64 (f : Int), .int .i64 (t : Int), .int .u32 xw] 42)
      by_cases e1 : f = v
      · subst e1
        by_cases e2 : t = f
        · subst e2
          have HS1 : Hid (nbL t n (l.take (k + 1)) = (X.set t true).set t true) := HS.out.trans (nbS_ff t X xw)
          clear HS
          go_wp2_with fail
          have z1 := (Below.refl (w.heap.size + 1) wr).setCell (p := ⟨w.heap.size + 1, t, none⟩) (Nat.le_refl _) (.bool true)
          have z3 := z1.setCell (p := ⟨w.heap.size + 1, t, none⟩) (Nat.le_refl _) (.bool true)
          have z2 := z3.alloc (by have := z3.size; omega) (.cells #[.int .i64 (t : Int), .int .i64 (t : Int), .int .u32 xw] 42)
          exact ⟨⟨k + 1, by omega, by go_num, by rw [HS1.out]; exact OwnB.alloc ((hown.set t true).set t true) _, hb.trans (z2.mono (Nat.le_succ _))⟩, by simp [intOf]; omega⟩
        · have e2' : ((t : Int) == (f : Int)) = false := beq_eq_false_iff_ne.2 (by omega)
          have HS1 : Hid (nbL f n (l.take (k + 1)) = X.set t true) := HS.out.trans (nbS_ft f t X xw e2)
          clear HS
          go_wp2_with fail
          have z1 := (Below.refl (w.heap.size + 1) wr).setCell (p := ⟨w.heap.size + 1, t, none⟩) (Nat.le_refl _) (.bool true)
          have z2 := z1.alloc (by have := z1.size; omega) (.cells #[.int .i64 (f : Int), .int .i64 (t : Int), .int .u32 xw] 42)
          exact ⟨⟨k + 1, by omega, by go_num, by rw [HS1.out]; exact OwnB.alloc (hown.set t true) _, hb.trans (z2.mono (Nat.le_succ _))⟩, by simp [intOf]; omega⟩
      · have e1' : ((f : Int) == (v : Int)) = false := beq_eq_false_iff_ne.2 (by omega)
        by_cases e2 : t = v
        · subst e2
          have HS1 : Hid (nbL t n (l.take (k + 1)) = X.set f true) := HS.out.trans (nbS_tf f t X xw e1)
          clear HS
          go_wp2_with fail
          have z1 := (Below.refl (w.heap.size + 1) wr).setCell (p := ⟨w.heap.size + 1, f, none⟩) (Nat.le_refl _) (.bool true)
          have z2 := z1.alloc (by have := z1.size; omega) (.cells #[.int .i64 (f : Int), .int .i64 (t : Int), .int .u32 xw] 42)
          exact ⟨⟨k + 1, by omega, by go_num, by rw [HS1.out]; exact OwnB.alloc (hown.set f true) _, hb.trans (z2.mono (Nat.le_succ _))⟩, by simp [intOf]; omega⟩
        · have e2' : ((t : Int) == (v : Int)) = false := beq_eq_false_iff_ne.2 (by omega)
          have HS1 : Hid (nbL v n (l.take (k + 1)) = X) := HS.out.trans (nbS_no v f t X xw e1 e2)
          clear HS
          go_wp2_with fail
          exact ⟨⟨k + 1, by omega, by go_num, by rw [HS1.out]; exact hown.alloc _, b5⟩, by simp [intOf]; omega⟩
    · have HL := Lib.hid (nbL_len v n l)
      rw [List.take_of_length_le (by omega)] at hown
      have fv := hown.free v
      have cv := hown.cell HL.out v hv
      have hst := hown.set v false
      have b6 := hb.setCell (p := ⟨w.heap.size + 1, v, none⟩) (by show _ ≤ w.heap.size + 1; omega) (.bool false)
      rw [show (nbL v n l).set v false = nbM v n l from rfl] at hst
      have HM := Lib.hid (nbM_len v n l)
      generalize (nbL v n l).getD v false = x0 at *
      generalize nbM v n l = M at *
      obtain ⟨cur, hcur⟩ := hst.block
      have hf6 : FilB (wr.setCell ⟨w.heap.size + 1, v, none⟩ (.bool false)) m (m + 1) [] := by
        obtain ⟨u, h1, h2, h3⟩ := HF.out
        rw [h3 rfl] at h1
        exact ⟨_, (b6.block m hmw).trans h1, World.ownsRow_nil _ _ _ _⟩
      have hbo : Bools (Safe m (m + 1) (wr.setCell ⟨w.heap.size + 1, v, none⟩ (.bool false))) (wr.setCell ⟨w.heap.size + 1, v, none⟩ (.bool false)) (some ⟨w.heap.size + 1, 0, none⟩) M :=
        Or.inr ⟨w.heap.size + 1, 0, rfl, Or.inr ⟨by omega, _, hcur, not3b⟩, fun j hj => by rw [Nat.zero_add]; exact hst.cell HM.out j (by rw [HM.out] at hj; exact hj)⟩
      have s6 := b6.size
      have HMK := Lib.hid (marked_any m (m + 1) (some ⟨w.heap.size + 1, 0, none⟩) M n _ (by rw [HM.out]; omega) (Nat.lt_succ_self _) (by omega) hbo hf6)
      rw [HM.out] at HMK
      go_wp2_with fail
      refine HMK.out.mono ?_
      rintro e w7 ⟨rfl, hf7, hk7⟩
      go_wp2_with fail
      go_end0
      exact ⟨rfl, by rw [HXS.out]; exact hf7, hk7.below (b6.mono (by omega)) (Nat.le_refl _) (Nat.le_succ _)⟩
end Go.Proofs.Ytgkpmcpkobphpaa.T3
