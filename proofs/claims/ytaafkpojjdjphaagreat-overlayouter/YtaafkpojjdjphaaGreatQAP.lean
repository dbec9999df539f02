import Derived.Test.YtaafkpojjdjphaaGreatQAO
import Derived.Shelf.Bits.Mul64
import Derived.Laws.CopyOwn
open Go.Lib (hid)
set_option maxRecDepth 100000
namespace Go.Proofs.YtaafkpojjdjphaaGreat
open Go.RowKit
set_option maxHeartbeats 1600000 in
theorem maxI_any (b : Option Addr) (X : List Int) (bc : Nat) (w : World) (hn : 0 < X.length) (hS : X.length ≤ 1024) (hi : Ints w b X) :
  Calls Tryz.prog 204 #[.slice b X.length bc] w fun e w' => e = .returned (.int .i64 (mxI X (X.length - 1))) ∧ w' = w := by
 obtain ⟨ix, ox, hix⟩ := hi.get
 obtain ⟨rfl, hbl, hat⟩ := hix hn
 have HAT := hid hat
 have y0 := HAT.out 0 hn
 rw [Nat.add_zero] at y0
 have HX0 : Hid (mxI X 0 = X.getD 0 0) := rfl
 obtain ⟨m0, HM0⟩ := named (X.getD 0 0)
 rw [HM0.out] at y0 HX0
 have hn' : ¬ (X.length : Int) < 1 := by omega
 have hn2 : (0 : Int) < X.length := by omega
 obtain ⟨R, HR⟩ := named (mxI X (X.length - 1))
 rw [HR.out]
 clear hix hat hi
 go_enter Tryz.func204, Tryz.ntmps204
 go_wp2_with fail
 clear y0
 go_loopw [3, 4] (fun s3 i wr => ∃ (k : Nat) (m : Int), k < X.length ∧ s3 = .int .i64 m ∧ i = .int .i64 ((k : Int) + 1) ∧ Hid (mxI X k = m) ∧ Hid (wr = w)) (fun _ i _ => X.length - (intOf i).toNat)
 case atStart => exact ⟨0, m0, hn, rfl, rfl, HX0, rfl⟩
 case round =>
  obtain ⟨k, m, hk, rfl, rfl, HM, HW⟩ := hrel
  by_cases hlk : k + 1 < X.length
  ·have hlk' : (k : Int) + 1 < X.length := by omega
   have y0 := HAT.out (k + 1) hlk
   have HNX : Hid (mxI X (k + 1) = max m (X.getD (k + 1) 0)) := by show _ = _; rw [← HM.out]; rfl
   obtain ⟨x, HX⟩ := named (X.getD (k + 1) 0)
   rw [HX.out] at y0 HNX
   rw [← HW.out] at y0
   have e1 : ((k : Int) + 1).toNat = k + 1 := by omega
   have e2 : (0 : Int) ≤ (k : Int) + 1 := by omega
   go_wp2_with fail
   refine ⟨⟨k + 1, max m x, hlk, ?_, by simp, HNX, HW⟩, by simp [intOf]; omega⟩
   congr 1
  ·have hlk' : ¬ (k : Int) + 1 < X.length := by omega
   obtain rfl : R = m := by rw [← HR.out, ← HM.out]; congr 1; omega
   go_wp2_with fail
   go_ret
   exact ⟨rfl, HW.out⟩
set_option maxHeartbeats 1600000 in
theorem manyCells_any (b : Option Addr) (X : List Int) (bc : Nat) (w : World) (ht : tdy X 0 = true) (hn : 0 < X.length) (hS : X.length ≤ 1024) (hi : Ints w b X) :
  Calls Tryz.prog 167 #[.slice b X.length bc] w fun e w' => e = .returned (.int .i64 ((szL X).length : Nat)) ∧ w' = w := by
 have HM := hid (maxI_any b X bc w hn hS hi)
 have h1 := mxI_tdy ht hn
 have h2 := szL_length X
 obtain ⟨m, HMM⟩ := named (mxI X (X.length - 1))
 rw [HMM.out] at HM h1
 obtain ⟨c, HC⟩ := named (szL X).length
 rw [HC.out] at h1 h2
 rw [HC.out]
 obtain rfl : m = (c : Int) - 1 := by omega
 clear h1
 go_enter Tryz.func167, Tryz.ntmps167
 go_wp2_with fail
 refine HM.out.mono ?_
 rintro e w1 ⟨rfl, rfl⟩
 go_wp2_with fail
 go_ret
 refine ⟨?_, rfl⟩
 congr 2
def mdF (j : Nat) : Int := if j = 0 then 1 else 2
set_option maxHeartbeats 1600000 in
theorem made_any (j : Nat) (w : World) : Calls Tryz.prog 166 #[.int .i64 ((j : Int) + 1)] w fun e w' => e = .returned (.int .i64 (mdF j)) ∧ w' = w := by
 by_cases h : j = 0
 ·subst h
  go_enter Tryz.func166, Tryz.ntmps166
  go_wp2_with fail
  go_ret
  exact ⟨rfl, rfl⟩
 ·have h1 : ((j : Int) + 1 == 1) = false := by simp; omega
  have h2 : mdF j = 2 := if_neg h
  rw [h2]
  go_enter Tryz.func166, Tryz.ntmps166
  go_wp2_with fail
  go_ret
  exact ⟨rfl, rfl⟩
end Go.Proofs.YtaafkpojjdjphaaGreat
namespace Go.Proofs
open Go.Shelf
def Tryz.lays212_ren : Go.Shelf.Ren := ⟨fun | 212 => 203 | 263 => 222 | 264 => 223 | n => n, fun | 46 => 262 | 51 => 82 | 146 => 291 | 53 => 47 | 148 => 293 | n => n, fun | n => n⟩
theorem Tryz.lays212 : Go.Proofs.Lays.n212 Tryz.prog Tryz.lays212_ren := {
 mixed := by kernel_rfl
 f212 := Tryz.func203.trans (congrArg some (by kernel_rfl))
 f263 := Tryz.func222.trans (congrArg some (by kernel_rfl))
 f264 := Tryz.func223.trans (congrArg some (by kernel_rfl))
 t46 := Tryz.underlying262
 a46 := Tryz.isAgg262
 z46 := Tryz.sizeOf262
 v46 := Tryz.zeroValue262
 t51 := Tryz.underlying82
 a51 := Tryz.isAgg82
 z51 := Tryz.sizeOf82
 v51 := Tryz.zeroValue82
 t53 := Tryz.underlying47
 a53 := Tryz.isAgg47
 z53 := Tryz.sizeOf47
 v53 := Tryz.zeroValue47
 t146 := Tryz.underlying291
 a146 := Tryz.isAgg291
 z146 := Tryz.sizeOf291
 v146 := Tryz.zeroValue291
 t148 := Tryz.underlying293
 a148 := Tryz.isAgg293
 z148 := Tryz.sizeOf293
 v148 := Tryz.zeroValue293 }
open Go.RowKit Go.Lib in
theorem Tryz.bits_Mul (x y : Nat) (hx : x < 18446744073709551616) (hy : y < 18446744073709551616) (w : World) :
  Calls Tryz.prog 203 #[.int .u64 x, .int .u64 y] w fun e w' => e = .returned (.tuple #[.int .u64 ((x * y / 18446744073709551616 : Nat) : Int), .int .u64 ((x * y % 18446744073709551616 : Nat) : Int)]) ∧ w' = w := Any.bits_Mul Tryz.lays212 x y hx hy w
end Go.Proofs
namespace Go.Proofs.YtaafkpojjdjphaaGreat
open Go.RowKit
def fL (x : Int) (k c : Nat) : List Value := List.replicate k (.int .i64 x) ++ List.replicate (c - k) (.int .i64 0)
theorem fL_len {x : Int} {k c : Nat} (h : k ≤ c) : (fL x k c).length = c := by simp [fL]; omega
theorem fL_step {x : Int} {k m c : Nat} (h : k + m ≤ c) : splice (fL x k c) k (List.replicate m (.int .i64 x)) = fL x (k + m) c := by
 unfold splice fL
 rw [List.take_left' (by simp), List.length_replicate, List.drop_append, List.length_replicate, List.drop_eq_nil_of_le (by simp), List.nil_append, List.drop_replicate, ← List.append_assoc, List.replicate_append_replicate]
 congr 2
 omega
theorem fL_at {x : Int} {k c j : Nat} (hj : j < k) : (fL x k c)[j]? = some (.int .i64 x) := by
 unfold fL
 rw [List.getElem?_append_left (by simp; exact hj), List.getElem?_replicate, if_pos hj]
theorem fL_end (x : Int) (c : Nat) : fL x c c = (List.range c).map (fun _ => Value.int .i64 x) := by
 unfold fL
 rw [Nat.sub_self, List.map_const']
 simp
theorem info210 : (Tryz.prog.info? 210).map (fun i => (i.zero, i.size, i.bytes)) = some (some (.int .i64 0), 1, 8) := by kernel_rfl
theorem made_fL (x : Int) (n : Nat) : madeCells (Value.int .i64 0).cells (n * 1) = (fL x 0 n).toArray := by
 rw [made_int, List.map_const']
 unfold fL
 simp
set_option maxHeartbeats 3200000 in
theorem repeat_any (x : Int) (b c : Nat) (w : World) (h0 : 0 < c) (h8 : c ≤ 1024) (hx : w.cell? ⟨b, 0, none⟩ = some (.int .i64 x)) (hbl : b < w.heap.size) :
  Calls Tryz.prog 165 #[.slice (some ⟨b, 0, none⟩) 1 1, .int .i64 (c : Nat)] w fun e w' => ∃ g, e = .returned (.slice (some ⟨g, 0, none⟩) c c) ∧ w.heap.size ≤ g ∧ TbV w' g c 210 (fun _ => .int .i64 x) ∧ Below w.heap.size w w' := by
 have HMU : Hid (Calls Tryz.prog 203 #[.int .u64 1, .int .u64 (c : Nat)] w fun e w' => e = .returned (.tuple #[.int .u64 0, .int .u64 (c : Nat)]) ∧ w' = w) := by
  have h := Tryz.bits_Mul 1 c (by decide) (by omega) w
  have e1 : 1 * c / 18446744073709551616 = 0 := by omega
  have e2 : 1 * c % 18446744073709551616 = c := by omega
  rw [e1, e2] at h
  exact h
 obtain ⟨i0, hi0, hz0, hs0, hby0⟩ := info_parts info210
 have hmk : ∀ w, (Instr.makeSlice 209 (.int .i64 c) (.int .i64 c)).run Tryz.prog w = .ok (.slice (some ⟨w.heap.size, 0, none⟩) c c) (w.alloc (.cells (fL x 0 c).toArray 210)) := fun w => by
  have := run_make (P := Tryz.prog) w 209 210 i0 (.int .i64 0) Tryz.underlying209 hi0 hz0 .i64 .i64 c c (by omega) (by omega) (by rw [hby0]; omega) (by omega)
  rw [hs0] at this
  rw [this, Int.toNat_natCast, made_fL x]
 have HG0 : Hid ((w.alloc (.cells (fL x 0 c).toArray 210)).heap[w.heap.size]? = some (.cells (fL x 0 c).toArray 210 (0, 0))) := heap_top _ _
 have HB0 : Hid (Below w.heap.size w (w.alloc (.cells (fL x 0 c).toArray 210))) := (Below.refl _ _).alloc (Nat.le_refl _) _
 have HX : Hid ((w.alloc (.cells (fL x 0 c).toArray 210)).cell? ⟨b, 0, none⟩ = some (.int .i64 x)) := (HB0.out.cell (p := ⟨b, 0, none⟩) hbl).trans hx
 have HS1 : Hid (splice (fL x 0 c) 0 [.int .i64 x] = fL x 1 c) := by
  have := fL_step (x := x) (k := 0) (m := 1) (c := c) (by omega)
  rw [Nat.zero_add] at this
  exact this
 have hc0 : ¬ (c : Int) < 0 := by omega
 have hcb : ¬ (9223372036854775807 : Int) < c := by omega
 clear hx
 generalize hp : w.heap.size = p at *
 go_enter Tryz.func165, Tryz.ntmps165
 go_wp2_with fail
 refine HMU.out.mono ?_
 rintro e w1 ⟨rfl, rfl⟩
 go_wp2_with (refine wpList_copy_splice rfl (.tmp 31) (.tmp 32) 209 209 rfl 210 Tryz.underlying209 (by kernel_rfl) (some ⟨p, 0, none⟩) (some ⟨b, 0, none⟩) c c 1 1 (by simp [Act.eval]) (by simp [Act.eval]) p 0 (fL x 0 c) 210 HG0.out [.int .i64 x] (by show 1 = Nat.min 1 c; simp [Nat.min_def]; omega) (fun _ => ⟨rfl, ⟨b, 0, none⟩, rfl, by intro j v hv; cases j with | zero => simp at hv; subst hv; simpa [Addr.add] using HX.out | succ j => simp at hv⟩) (by rw [fL_len (by omega)]; simp; omega) (by intro u hu; simp at hu; subst hu; rfl) p w1 HB0.out (Nat.le_refl _) ?_; intro w3 hg3 hb3; rw [HS1.out] at hg3; have HB3 := hid hb3; clear hb3)
 go_loopw [8] (fun i wr => ∃ k : Nat, 0 < k ∧ k ≤ c ∧ i = .int .i64 k ∧ Hid (wr.heap[p]? = some (.cells (fL x k c).toArray 210 (0, 0))) ∧ Hid (Below p w1 wr)) (fun i _ => c - (intOf i).toNat)
 case atStart => exact ⟨1, by omega, by omega, rfl, hg3, HB3⟩
 case round =>
  obtain ⟨k, hk0, hk, rfl, HGR, HBR⟩ := hrel
  clear HG0 HB0 HX HB3 hg3 HS1 hmk HMU
  by_cases hlk : k < c
  ·have hlk' : (k : Int) < c := by omega
   obtain ⟨m, HM⟩ := named (min k (c - k))
   have hm0 : 0 < m := by rw [← HM.out]; omega
   have hmc : k + m ≤ c := by rw [← HM.out]; omega
   have HST := hid (fL_step (x := x) hmc)
   have HSRC : Hid (∀ (j : Nat) (v : Value), (List.replicate m (Value.int .i64 x))[j]? = some v → wr.drew.cell? ((⟨p, 0, none⟩ : Addr).add j) = some v) := fun j v hv => by
    rw [List.getElem?_replicate] at hv
    by_cases e : j < m
    ·rw [if_pos e] at hv
     have e2 : j < k := Nat.lt_of_lt_of_le e (by rw [← HM.out]; omega)
     have := World.news_of_block (w := wr.drew) (B := p) (cs := (fL x k c).toArray) (t := 210) (fr := (0, 0)) HGR.out j (.int .i64 x) (fL_at e2)
     rw [this]; exact hv
    ·rw [if_neg e] at hv; cases hv
   have HBD : Hid (Below p w1 wr.drew) := HBR.out.trans ⟨rfl, rfl, rfl, Nat.le_refl _, fun _ _ => rfl⟩
   have HGD : Hid (wr.drew.heap[p]? = some (.cells (fL x k c).toArray 210 (0, 0))) := HGR.out
   have HLN : Hid ((List.replicate m (Value.int .i64 x)).length = Nat.min k (c - k)) := by show _ = _; rw [List.length_replicate, ← HM.out]
   have HFT : Hid (k + (List.replicate m (Value.int .i64 x)).length ≤ (fL x k c).length) := by show _ ≤ _; rw [List.length_replicate, fL_len (by omega)]; exact hmc
   have hkc : (k : Int) ≤ c := by omega
   have hk00 : (0 : Int) ≤ k := by omega
   have hne : ¬ c = k := by omega
   have hwr : IntKind.i64.wrap ((k : Int) + (m : Int)) = ((k + m : Nat) : Int) := by rw [IntKind.wrap_i64]; omega
   obtain ⟨R, HRR⟩ := named (List.replicate m (Value.int .i64 x))
   rw [HRR.out] at HST HSRC HLN HFT
   have HRL : Hid (R.length = m) := by show _ = _; rw [← HRR.out]; simp
   have HON : Hid (∀ v ∈ R, v.oneCell' = true) := fun v hv => by
    rw [← HRR.out] at hv
    rw [List.eq_of_mem_replicate hv]; rfl
   clear HGR HBR
   go_wp2_with fail
   go_region_law (refine step_copy_splice rfl (.tmp 41) (.tmp 44) 209 209 rfl 210 Tryz.underlying209 (by kernel_rfl) (some ⟨p, k, none⟩) (some ⟨p, 0, none⟩) (c - k) (c - k) k c (by simp [Act.eval, Act.put]) (by simp [Act.eval, Act.put]) p k (fL x k c) 210 HGD.out R HLN.out (fun _ => ⟨rfl, ⟨p, 0, none⟩, rfl, HSRC.out⟩) HFT.out HON.out p w1 HBD.out (Nat.le_refl _) ?_; intro w4 hg4 hb4; rw [HST.out] at hg4; have HB4 := hid hb4; clear hb4; rw [HRL.out])
   all_goals
    go_wp2_with fail
    simp only [Act.put, List.getElem_toArray, List.getElem_cons_zero, List.getElem_cons_succ, List.setIfInBounds_toArray, List.set_cons_zero, List.set_cons_succ]
    refine ⟨⟨_, _, _, _, _, _, _, _, _, _, _, _, _, _, ⟨k + m, by omega, hmc, ?_, hg4, HB4⟩, rfl⟩, ?_⟩
    ·simp
    ·simp [intOf]; omega
  ·have hlk' : ¬ (k : Int) < c := by omega
   obtain rfl : k = c := by omega
   have HTB : Hid (TbV wr p k 210 (fun _ => .int .i64 x)) := by
    show _ = _
    rw [← fL_end]
    exact HGR.out
   go_wp2_with fail
   go_ret
   exact ⟨p, rfl, Nat.le_refl _, HTB.out, HBR.out⟩
structure FT (w : World) (B g m : Nat) (gs : Nat → Nat) (xs : Nat → List Int) (k : Nat) : Prop where
 tb : TbV w g m 209 (fun j => if j < k then .slice (some ⟨gs j, 0, none⟩) (xs j).length (xs j).length else .slice none 0 0)
 lt : g < B
 ro : ∀ j, j < k → B ≤ gs j ∧ w.heap[gs j]? = some (.cells (cellsI (xs j)).toArray 210 (0, 0))
 up : ∀ i j, i < j → j < k → gs i < gs j
theorem FT.on {w w' : World} {B g m : Nat} {gs : Nat → Nat} {xs : Nat → List Int} {k : Nat} (h : FT w B g m gs xs k) (hb : Below w.heap.size w w') : FT w' B g m gs xs k :=
 ⟨h.tb.same (hb.block g h.tb.lt), h.lt, fun j hj => ⟨(h.ro j hj).1, (hb.block _ (lt_of_block (h.ro j hj).2)).trans (h.ro j hj).2⟩, h.up⟩
theorem FT.put {w : World} {B g m : Nat} {gs : Nat → Nat} {xs : Nat → List Int} {k : Nat} (h : FT w B g m gs xs k) {b : Nat} {ys : List Int} (hb : B ≤ b) (hn : ∀ j, j < k → gs j < b) (hr : w.heap[b]? = some (.cells (cellsI ys).toArray 210 (0, 0))) :
  FT (w.setCell ⟨g, k, none⟩ (.slice (some ⟨b, 0, none⟩) ys.length ys.length)) B g m (fun j => if j = k then b else gs j) (fun j => if j = k then ys else xs j) (k + 1) := by
 have hlt := h.lt
 have hs : ∀ i, i ≠ g → (w.setCell ⟨g, k, none⟩ (.slice (some ⟨b, 0, none⟩) ys.length ys.length)).heap[i]? = w.heap[i]? := fun i hi => Below.heap_setCell _ _ _ _ hi
 refine ⟨(h.tb.set k _).congr (fun v hv => ?_), hlt, fun j hj => ?_, fun i j hij hj => ?_⟩
 ·by_cases e : v = k
  ·subst e
   rw [updV_self, if_pos (by omega), if_pos rfl, if_pos rfl]
  ·rw [updV_ne _ _ e, if_neg e, if_neg e]
   by_cases e2 : v < k
   ·rw [if_pos e2, if_pos (by omega)]
   ·rw [if_neg e2, if_neg (by omega)]
 ·by_cases e : j = k
  ·rw [if_pos e, if_pos e]
   exact ⟨hb, (hs b (by omega)).trans hr⟩
  ·rw [if_neg e, if_neg e]
   have := h.ro j (by omega)
   exact ⟨this.1, (hs _ (by omega)).trans this.2⟩
 ·by_cases e : j = k
  ·rw [if_pos e, if_neg (by omega)]
   exact hn i (by omega)
  ·rw [if_neg e, if_neg (by omega)]
   exact h.up i j hij (by omega)
theorem FT.turn {w : World} {B g m : Nat} {gs : Nat → Nat} {xs : Nat → List Int} {k : Nat} (h : FT w B g m gs xs (k + 1)) (c : Nat) (x : Int) :
  FT (w.setCell ⟨gs k, c, none⟩ (.int .i64 x)) B g m gs (fun j => if j = k then (xs k).set c x else xs j) (k + 1) := by
 have hlt := h.lt
 have hk := h.ro k (by omega)
 have hs : ∀ i, i ≠ gs k → (w.setCell ⟨gs k, c, none⟩ (.int .i64 x)).heap[i]? = w.heap[i]? := fun i hi => Below.heap_setCell _ _ _ _ hi
 refine ⟨(h.tb.same (hs g (by omega))).congr (fun v hv => ?_), hlt, fun j hj => ?_, h.up⟩
 ·by_cases e : v = k
  ·subst e; rw [if_pos rfl, List.length_set]
  ·rw [if_neg e]
 ·by_cases e : j = k
  ·subst e
   rw [if_pos rfl]
   refine ⟨hk.1, ?_⟩
   have h1 := heap_setCell_same w (gs j) c _ _ (.int .i64 x) hk.2
   rw [h1]
   congr 2
   simp [cellsI, List.map_set]
  ·rw [if_neg e]
   have h1 := h.ro j hj
   have h2 := h.up j k (by omega) (by omega)
   exact ⟨h1.1, (hs _ (by omega)).trans h1.2⟩
theorem add_off (g i : Nat) : (⟨g, 0, none⟩ : Addr).add i = ⟨g, i, none⟩ := by unfold Addr.add; split <;> simp_all
def ftC (m : Nat) (gs : Nat → Nat) (xs : Nat → List Int) : List Cl := (List.range m).map (fun j => ⟨some ⟨gs j, 0, none⟩, (xs j).length, xs j⟩)
theorem ftC_len (m : Nat) (gs : Nat → Nat) (xs : Nat → List Int) : (ftC m gs xs).length = m := by simp [ftC]
theorem ftC_at {m : Nat} {gs : Nat → Nat} {xs : Nat → List Int} {j : Nat} (h : j < m) : cl (ftC m gs xs) j = ⟨some ⟨gs j, 0, none⟩, (xs j).length, xs j⟩ := by
 unfold cl ftC
 rw [List.getD_eq_getElem?_getD, List.getElem?_map, List.getElem?_range h]
 rfl
theorem FT.rws {w : World} {B g m : Nat} {gs : Nat → Nat} {xs : Nat → List Int} (h : FT w B g m gs xs m) (hl : ∀ j, j < m → (xs j).length ≤ 1024) : Rws w (some ⟨g, 0, none⟩) (ftC m gs xs) := by
 refine ⟨Or.inr ⟨g, 0, rfl, h.tb.lt, fun j hj => ?_⟩, fun j hj => ?_⟩
 ·rw [ftC_len] at hj
  rw [ftC_at hj, Nat.zero_add, h.tb.cell hj, if_pos hj]
  rfl
 ·rw [ftC_len] at hj
  rw [ftC_at hj]
  refine ⟨Or.inr ⟨gs j, 0, rfl, lt_of_block (h.ro j hj).2, fun i hi => ?_⟩, by have := hl j hj; show (xs j).length ≤ _; omega⟩
  have := World.news_of_block (h.ro j hj).2 i _ (cellsI_getD (xs j) i hi)
  rw [add_off] at this
  rw [Nat.zero_add]
  exact this
theorem info209 : (Tryz.prog.info? 209).map (fun i => (i.zero, i.size, i.bytes)) = some (some (.slice none 0 0), 1, 24) := by kernel_rfl
theorem cellsI_rep (x : Int) (c : Nat) : cellsI (List.replicate c x) = (List.range c).map (fun _ => Value.int .i64 x) := by
 rw [List.map_const']
 simp [cellsI]
set_option maxHeartbeats 3200000 in
theorem allMade_any (n : Nat) (l : List A) (ba : Option Addr) (bs : List Int) (bc : Nat) (ca : Option Addr) (C : List Cl) (cc : Nat) (w : World) (hNR : NR n l bs (csl C)) (hR : Rws w ca C) :
  Calls Tryz.prog 97 #[.agg #[.slice ba bs.length bc, .slice ca C.length cc]] w fun e w' => ∃ g gs, e = .returned (.slice (some ⟨g, 0, none⟩) C.length C.length) ∧ FT w' (g + 1) g C.length gs (fun j => List.replicate (szL (lvl (csl C) j)).length (mdF j)) C.length ∧ Below w.heap.size w w' := by
 have hcl : C.length = bs.length := by have := hNR.2.2.2.1; rw [csl_len] at this; exact this
 have h5 : C.length ≤ 5 := by have := hNR.2.2.1; omega
 have h0 : 0 < C.length := by have := hNR.2.1; omega
 have h1024 := (chk_zero hNR.1).2.1
 have h0N := (chk_zero hNR.1).1
 have HMC : Hid (∀ k, k < C.length → ∀ W2, Below w.heap.size w W2 → Calls Tryz.prog 167 #[(cl C k).val] W2 fun e w' => e = .returned (.int .i64 ((szL (lvl (csl C) k)).length : Nat)) ∧ w' = W2) := fun k hk W2 hb => by
  obtain ⟨b1, b2, _⟩ := hNR.lv (k := k) (by omega)
  rw [csl_at] at b1 b2 ⊢
  exact manyCells_any (cl C k).a (cl C k).xs (cl C k).c W2 b2 (by omega) (by omega) ((hR.2 k hk).1.on hb)
 have HCN : Hid (∀ k, k < C.length → 0 < (szL (lvl (csl C) k)).length ∧ (szL (lvl (csl C) k)).length ≤ 1024) := fun k hk => by
  obtain ⟨b1, b2, _⟩ := hNR.lv (k := k) (by omega)
  have h1 := szL_length (lvl (csl C) k)
  obtain ⟨y, _, hy⟩ := right_lt b2 (u := 0) (by omega)
  omega
 obtain ⟨bx, ox, hbx⟩ := hR.get
 obtain ⟨rfl, hbl, hat⟩ := hbx h0
 have HAT := hid hat
 obtain ⟨i0, hi0, hz0, hs0, hby0⟩ := info_parts info209
 obtain ⟨m, HM⟩ := named C.length
 have hmk : ∀ w, (Instr.makeSlice 152 (.int .i64 m) (.int .i64 m)).run Tryz.prog w = .ok (.slice (some ⟨w.heap.size, 0, none⟩) m m) (w.alloc (.cells ((List.range m).map (fun _ => Value.slice none 0 0)).toArray 209)) := fun w => by
  have := run_make (P := Tryz.prog) w 152 209 i0 (.slice none 0 0) Tryz.underlying152 hi0 hz0 .i64 .i64 m m (by rw [← HM.out]; omega) (by omega) (by rw [hby0, ← HM.out]; omega) (by rw [← HM.out]; omega)
  rw [hs0] at this
  rw [this, Int.toNat_natCast, made_sl]
 rw [HM.out] at HMC HCN HAT h5 h0
 rw [HM.out]
 have hg := heap_top w (.cells #[.slice (some ⟨bx, ox, none⟩) m cc] 28)
 obtain ⟨hg0, hg1, hb0, hsz⟩ := top2 w (.cells #[.slice ba bs.length bc, .slice (some ⟨bx, ox, none⟩) m cc] 28) (.cells ((List.range m).map (fun _ => Value.slice none 0 0)).toArray 209)
 obtain ⟨⟨a0, a1⟩, _⟩ := two_cells (heap_top w (.cells #[.slice ba bs.length bc, .slice (some ⟨bx, ox, none⟩) m cc] 28))
 obtain ⟨⟨b0, b1⟩, _⟩ := two_cells hg0
 have HF0 : Hid (FT ((w.alloc (.cells #[.slice ba bs.length bc, .slice (some ⟨bx, ox, none⟩) m cc] 28)).alloc (.cells ((List.range m).map (fun _ => Value.slice none 0 0)).toArray 209)) (w.heap.size + 1 + 1) (w.heap.size + 1) m (fun _ => 0) (fun j => List.replicate (szL (lvl (csl C) j)).length (mdF j)) 0) := ⟨hg1, by omega, fun j hj => absurd hj (by omega), fun i j _ hj => absurd hj (by omega)⟩
 have HB0 := hid hb0
 clear hR hbx hat hg0 hg1 hb0 hg hcl h1024 h0N hNR
 generalize hp : w.heap.size = p at *
 go_enter Tryz.func97, Tryz.ntmps97
 go_wp2_with fail
 generalize (w.alloc (.cells #[.slice ba bs.length bc, .slice (some ⟨bx, ox, none⟩) m cc] 28)).alloc (.cells ((List.range m).map (fun _ => Value.slice none 0 0)).toArray 209) = V at *
 clear hmk a0 a1 b0 b1
 go_loopw [13] (fun i wr => ∃ (k : Nat) (gs : Nat → Nat), k ≤ m ∧ i = .int .i64 k ∧ Hid (FT wr (p + 1 + 1) (p + 1) m gs (fun j => List.replicate (szL (lvl (csl C) j)).length (mdF j)) k) ∧ Hid (Below p w wr)) (fun i _ => m - (intOf i).toNat)
 case atStart => exact ⟨0, fun _ => 0, Nat.zero_le _, rfl, HF0, HB0⟩
 case round =>
  clear HF0 HB0
  obtain ⟨k, gs, hk, rfl, HFT, HBR⟩ := hrel
  have hwz := HFT.out.tb.lt
  by_cases hlk : k < m
  ·have hlk' : (k : Int) < m := by omega
   have y0 := (HBR.out.cell (p := ⟨bx, ox + k, none⟩) (by show bx < _; omega)).trans (HAT.out k hlk)
   have hcn := HCN.out k hlk
   have hwrap : IntKind.i64.wrap ((k : Int) + 1) = (k : Int) + 1 := by rw [IntKind.wrap_i64]; omega
   obtain ⟨cn, HC⟩ := named (szL (lvl (csl C) k)).length
   obtain ⟨x, HX⟩ := named (mdF k)
   have hbA : Below wr.heap.size wr (wr.alloc (.cells #[.int .i64 x] 210)) := (Below.refl _ _).alloc (Nat.le_refl _) _
   have HMD := hid (made_any k wr)
   have HMK := hid (HMC.out k hlk _ (HBR.out.trans (hbA.mono (by omega))))
   rw [HX.out] at HMD
   rw [HC.out] at HMK hcn
   have HRP := hid (repeat_any x wr.heap.size cn (wr.alloc (.cells #[.int .i64 x] 210)) hcn.1 hcn.2 (by have := World.news_of_block (heap_top wr (.cells #[.int .i64 x] 210)) 0 (.int .i64 x) rfl; rw [add_off] at this; exact this) (by simp))
   have hzA : (wr.alloc (.cells #[.int .i64 x] 210)).heap.size = wr.heap.size + 1 := World.size_alloc _ _
   have HBA := hid hbA
   clear hbA
   obtain ⟨vk, HVK⟩ := named (cl C k).val
   rw [HVK.out] at y0 HMK
   go_wp2_with fail
   refine HMD.out.mono ?_
   rintro e w1 ⟨rfl, rfl⟩
   go_wp2_with fail
   refine HMK.out.mono ?_
   rintro e w2 ⟨rfl, hw2⟩
   subst hw2
   go_wp2_with fail
   refine HRP.out.mono ?_
   rintro e w5 ⟨b, rfl, hbb, htb, hb5⟩
   have hz5 := hb5.size
   have HF5 := hid ((HFT.out.on HBA.out).on hb5)
   have htb2 : w5.heap[b]? = some (.cells (cellsI (List.replicate cn x)).toArray 210 (0, 0)) := by rw [cellsI_rep]; exact htb
   have HPUT := hid (HF5.out.put (b := b) (ys := List.replicate cn x) (by omega) (fun j hj => by have := lt_of_block (HFT.out.ro j hj).2; omega) htb2)
   have HB5 : Hid (Below p w w5) := HBR.out.trans ((HBA.out.trans (hb5.mono (by omega))).mono (by omega))
   have HB6 : Hid (Below p w (w5.setCell ⟨p + 1, k, none⟩ (.slice (some ⟨b, 0, none⟩) cn cn))) := HB5.out.setCell (p := ⟨p + 1, k, none⟩) (by show p ≤ p + 1; omega) _
   rw [List.length_replicate] at HPUT
   have f0 := HF5.out.tb.cell hlk
   have f1 := HF5.out.tb.free k
   rw [if_neg (by omega)] at f0
   clear HF5 htb htb2 hb5 HBA HRP HMK HMD
   go_wp2_with fail
   refine ⟨⟨k + 1, fun j => if j = k then b else gs j, by omega, by simp, ?_, HB6⟩, by simp [intOf]; omega⟩
   have e : (fun j => if j = k then List.replicate cn x else List.replicate (szL (lvl (csl C) j)).length (mdF j)) = fun j => List.replicate (szL (lvl (csl C) j)).length (mdF j) := by
    funext j
    by_cases e : j = k
    ·subst e; rw [if_pos rfl, HC.out, HX.out]
    ·rw [if_neg e]
   show FT _ _ _ _ _ _ _
   rw [← e]
   exact HPUT.out
  ·have hlk' : ¬ (k : Int) < m := by omega
   obtain rfl : k = m := by omega
   go_wp2_with fail
   go_ret
   first | exact ⟨p + 1, gs, rfl, HFT.out, HBR.out⟩ | exact ⟨p + 1, rfl, ⟨gs, HFT.out⟩, HBR.out⟩
def mC (x : Mt) (r : Nat) : Value := if r = 0 then .int .i64 x.lv else if r = 1 then .int .i64 x.ce else if r = 2 then .int .i64 x.ep else .slice x.a x.D.length x.c
def ckV (M : List Mt) (K : List Nat) (k i : Nat) : Value := if i / 4 < k then mC (mt M (K.getD (i / 4) 0)) (i % 4) else mC Mt.zero (i % 4)
theorem ckV_step (M : List Mt) (K : List Nat) (k i : Nat) (x : Mt) (hx : mt M (K.getD k 0) = x) : updV (updV (updV (updV (ckV M K k) (k * 4) (.int .i64 x.lv)) (k * 4 + 1) (.int .i64 x.ce)) (k * 4 + 2) (.int .i64 x.ep)) (k * 4 + 3) (.slice x.a x.D.length x.c) i = ckV M K (k + 1) i := by
 have key : ∀ r, r < 4 → (k * 4 + r) / 4 = k ∧ (k * 4 + r) % 4 = r := fun r hr => by omega
 unfold updV
 by_cases h3 : i = k * 4 + 3
 ·subst h3
  simp only [if_true]
  unfold ckV mC
  rw [(key 3 (by omega)).1, (key 3 (by omega)).2, if_pos (Nat.lt_succ_self k), hx]
  simp
 ·rw [if_neg h3]
  by_cases h2 : i = k * 4 + 2
  ·subst h2
   simp only [if_true]
   unfold ckV mC
   rw [(key 2 (by omega)).1, (key 2 (by omega)).2, if_pos (Nat.lt_succ_self k), hx]
   simp
  ·rw [if_neg h2]
   by_cases h1 : i = k * 4 + 1
   ·subst h1
    simp only [if_true]
    unfold ckV mC
    rw [(key 1 (by omega)).1, (key 1 (by omega)).2, if_pos (Nat.lt_succ_self k), hx]
    simp
   ·rw [if_neg h1]
    by_cases h0 : i = k * 4
    ·subst h0
     simp only [if_true]
     unfold ckV mC
     have := key 0 (by omega)
     rw [Nat.add_zero] at this
     rw [this.1, this.2, if_pos (Nat.lt_succ_self k), hx]
     simp
    ·rw [if_neg h0]
     unfold ckV
     by_cases h : i / 4 < k
     ·rw [if_pos h, if_pos (by omega)]
     ·rw [if_neg h, if_neg (by omega)]
theorem ck_cells {w : World} {g m : Nat} {M : List Mt} {K : List Nat} (hm : K.length = m) (h : TbV w g (m * 4) 40 (ckV M K m)) (hD : ∀ i, i < m → Dts w (mt M (K.getD i 0)).a (mt M (K.getD i 0)).D ∧ (mt M (K.getD i 0)).D.length ≤ 9223372036854775807 ∧ ∀ k, k < (mt M (K.getD i 0)).D.length → 0 ≤ (mt M (K.getD i 0)).D.getD k 0 ∧ (mt M (K.getD i 0)).D.getD k 0 ≤ N5.Inf) : Mts w (some ⟨g, 0, none⟩) (kidM M K) := by
 refine ⟨Or.inr ⟨g, 0, rfl, h.lt, fun j hj => ?_⟩, fun j hj => ?_⟩
 ·rw [kidM_len] at hj
  rw [kidM_at hj, Nat.zero_add]
  have key : ∀ r, r < 4 → (j * 4 + r) / 4 = j ∧ (j * 4 + r) % 4 = r := fun r hr => by omega
  have f : ∀ r, r < 4 → w.cell? ⟨g, j * 4 + r, none⟩ = some (mC (mt M (K.getD j 0)) r) := fun r hr => by
   rw [h.cell (v := j * 4 + r) (by omega)]
   unfold ckV
   rw [(key r hr).1, (key r hr).2, if_pos (by omega)]
  have f0 := f 0 (by omega)
  exact ⟨f0, f 1 (by omega), f 2 (by omega), f 3 (by omega)⟩
 ·rw [kidM_len] at hj
  rw [kidM_at hj]
  exact hD j (by omega)
theorem below_set4k {w w' : World} {p b : Nat} (h : Below p w w') (hb : p ≤ b) (i : Nat) (u0 u1 u2 u3 : Value) : Below p w ((((w'.setCell ⟨b, i, none⟩ u0).setCell ⟨b, i + 1, none⟩ u1).setCell ⟨b, i + 2, none⟩ u2).setCell ⟨b, i + 3, none⟩ u3) := (((h.setCell (p := ⟨b, i, none⟩) hb u0).setCell (p := ⟨b, i + 1, none⟩) hb u1).setCell (p := ⟨b, i + 2, none⟩) hb u2).setCell (p := ⟨b, i + 3, none⟩) hb u3
theorem made_mts (M : List Mt) (K : List Nat) (m : Nat) : madeCells (Value.agg #[.int .i64 0, .int .i64 0, .int .i64 0, .slice none 0 0]).cells (m * 4) = ((List.range (m * 4)).map (ckV M K 0)).toArray := by
 show madeCells #[.int .i64 0, .int .i64 0, .int .i64 0, .slice none 0 0] (m * 4) = _
 apply Array.ext'
 unfold madeCells
 rw [Array.toList_map, Array.toList_range]
 refine List.map_congr_left (fun i _ => ?_)
 show (#[Value.int .i64 0, .int .i64 0, .int .i64 0, .slice none 0 0] : Array Value)[i % 4]! = _
 unfold ckV mC Mt.zero
 rw [if_neg (by omega)]
 have : i % 4 = 0 ∨ i % 4 = 1 ∨ i % 4 = 2 ∨ i % 4 = 3 := by omega
 rcases this with h | h | h | h <;> rw [h] <;> rfl
set_option maxHeartbeats 3200000 in
theorem ovChosen_any (ma : Option Addr) (M : List Mt) (mc : Nat) (ka : Option Addr) (K : List Nat) (kc m : Nat) (w : World) (hm : K.length = m) (hm8 : m ≤ 1024) (hK : ∀ i, i < m → K.getD i 0 < M.length) (hM : Mts w ma M) (hi : Ints w ka (ints K)) :
  Calls Tryz.prog 164 #[.slice ma M.length mc, .slice ka m kc] w fun e w' => ∃ g, e = .returned (.slice (some ⟨g, 0, none⟩) m m) ∧ Mts w' (some ⟨g, 0, none⟩) (kidM M K) ∧ Below w.heap.size w w' := by
 obtain ⟨iM, hiM, hzM, hsM, hbyM⟩ := info_parts infoM
 have hmk : ∀ w, (Instr.makeSlice 30 (.int .i64 m) (.int .i64 m)).run Tryz.prog w = .ok (.slice (some ⟨w.heap.size, 0, none⟩) m m) (w.alloc (.cells ((List.range (m * 4)).map (ckV M K 0)).toArray 40)) := fun w => by
  have := run_make (P := Tryz.prog) w 30 40 iM (.agg #[.int .i64 0, .int .i64 0, .int .i64 0, .slice none 0 0]) Tryz.underlying30 hiM hzM .i64 .i64 m m (by omega) (by omega) (by rw [hbyM]; omega) (by omega)
  rw [hsM] at this
  rw [this, Int.toNat_natCast, made_mts M K]
 obtain ⟨ix, ox, hix⟩ := hM.get
 obtain ⟨iy, oy, hiy⟩ := hi.get
 rw [ints_len, hm] at hiy
 have HIX := hid hix
 have HIY := hid hiy
 have HM := hid hm
 have HK := hid hK
 have HST := hid (ckV_step M K)
 have HFN : Hid (∀ wr, Below w.heap.size w wr → ∀ b, TbV wr b (m * 4) 40 (ckV M K m) → Mts wr (some ⟨b, 0, none⟩) (kidM M K)) := fun wr hb b h => ck_cells hm h (fun i hi => ⟨((hM.2 _ (hK i hi)).1).on hb, (hM.2 _ (hK i hi)).2⟩)
 have HB0 : Hid (Below w.heap.size w (w.alloc (.cells ((List.range (m * 4)).map (ckV M K 0)).toArray 40))) := (Below.refl _ _).alloc (Nat.le_refl _) _
 have HT0 : Hid (TbV (w.alloc (.cells ((List.range (m * 4)).map (ckV M K 0)).toArray 40)) w.heap.size (m * 4) 40 (ckV M K 0)) := heap_top _ _
 clear hi hM hix hiy hm hK
 generalize hp : w.heap.size = p at *
 go_enter Tryz.func164, Tryz.ntmps164
 go_wp2_with fail
 generalize w.alloc (.cells ((List.range (m * 4)).map (ckV M K 0)).toArray 40) = V at *
 clear hmk
 go_loopw [13] (fun i wr => ∃ (k : Nat), k ≤ m ∧ i = .int .i64 k ∧ Hid (TbV wr p (m * 4) 40 (ckV M K k)) ∧ Hid (Below p w wr)) (fun i _ => m - (intOf i).toNat)
 case atStart => exact ⟨0, Nat.zero_le _, rfl, HT0, HB0⟩
 case round =>
  obtain ⟨k, hk, rfl, HTR, HBR⟩ := hrel
  clear HT0 HB0
  have hwr : p < wr.heap.size := HTR.out.lt
  by_cases hlk : k < m
  ·have hlk' : (k : Int) < m := by omega
   have hk0 : (0 : Int) ≤ k := by omega
   obtain ⟨rfl, hyl, hyat⟩ := HIY.out (by omega)
   have s0 := (HBR.out.cell (p := ⟨iy, oy + k, none⟩) (hp ▸ hyl)).trans (hyat k hlk)
   rw [ints_getD (by rw [HM.out]; exact hlk)] at s0
   have hil := HK.out k hlk
   have HSK := hid (fun i => HST.out k i (mt M (K.getD k 0)) rfl)
   obtain ⟨i, HII⟩ := named (K.getD k 0)
   rw [HII.out] at s0 hil HSK
   obtain ⟨rfl, hbl, hat⟩ := HIX.out (by omega)
   obtain ⟨x0, x1, x2, x3⟩ := hat i hil
   have y0 := (HBR.out.cell (p := ⟨ix, ox + i * 4, none⟩) (hp ▸ hbl)).trans x0
   have y1 := (HBR.out.cell (p := ⟨ix, ox + i * 4 + 1, none⟩) (hp ▸ hbl)).trans x1
   have y2 := (HBR.out.cell (p := ⟨ix, ox + i * 4 + 2, none⟩) (hp ▸ hbl)).trans x2
   have y3 := (HBR.out.cell (p := ⟨ix, ox + i * 4 + 3, none⟩) (hp ▸ hbl)).trans x3
   generalize mt M i = x at *
   have hii : (i : Int) < M.length := by omega
   have hi0 : (0 : Int) ≤ i := by omega
   have q0 := HTR.out.free (k * 4)
   have q1 := HTR.out.free (k * 4 + 1)
   have q2 := HTR.out.free (k * 4 + 2)
   have q3 := HTR.out.free (k * 4 + 3)
   have p0 := HTR.out.cell (v := k * 4) (by omega)
   have p1 := HTR.out.cell (v := k * 4 + 1) (by omega)
   have p2 := HTR.out.cell (v := k * 4 + 2) (by omega)
   have p3 := HTR.out.cell (v := k * 4 + 3) (by omega)
   have HT2 : Hid (TbV ((((wr.setCell ⟨p, k * 4, none⟩ (.int .i64 x.lv)).setCell ⟨p, k * 4 + 1, none⟩ (.int .i64 x.ce)).setCell ⟨p, k * 4 + 2, none⟩ (.int .i64 x.ep)).setCell ⟨p, k * 4 + 3, none⟩ (.slice x.a x.D.length x.c)) p (m * 4) 40 (ckV M K (k + 1))) := ((((HTR.out.set _ _).set _ _).set _ _).set _ _).congr (fun i _ => HSK.out i)
   have HB2 := hid (below_set4k HBR.out (Nat.le_refl p) (k * 4) (.int .i64 x.lv) (.int .i64 x.ce) (.int .i64 x.ep) (.slice x.a x.D.length x.c))
   clear x0 x1 x2 x3 hat hyat HTR HBR
   go_wp2_with fail
   exact ⟨⟨k + 1, by omega, by simp, HT2, HB2⟩, by simp [intOf]; omega⟩
  ·have hlk' : ¬ (k : Int) < m := by omega
   obtain rfl : k = m := by omega
   go_wp2_with fail
   go_ret
   exact ⟨p, rfl, HFN.out wr HBR.out p HTR.out, HBR.out⟩
end Go.Proofs.YtaafkpojjdjphaaGreat
