/-
  Contract of the reader's method item, at a number.
-/
import Derived.Test.YtchmiiclogmheaaDoorCReader
namespace Go.Proofs.YtchmiiclogmheaaDoor.C2
open Go.RowKit
/-- A number's answer handed on as an item's. -/
def NumOut (s : ByteArray) (rb : Nat) (P : Int → Int → Int → Nat → Prop) (w : World) (e : Ending) (w' : World) : Prop :=
  ∃ n a c k', e = .returned (.tuple #[.int .u64 n, .agg #[.int .i64 a, .int .i64 c]]) ∧ P n a c k' ∧ Rd rb w w' ∧ RS w' rb s k'
set_option maxRecDepth 100000 in
theorem four_cells {w : World} {g : Nat} {a b c d : Value} {t : TypeId} (h : w.heap[g]? = some (.cells #[a, b, c, d] t)) : (w.cell? ⟨g, 0, none⟩ = some a ∧ w.cell? ⟨g, 1, none⟩ = some b ∧ w.cell? ⟨g, 2, none⟩ = some c ∧ w.cell? ⟨g, 3, none⟩ = some d) ∧ (w.frozen? ⟨g, 0, none⟩ = false ∧ w.frozen? ⟨g, 1, none⟩ = false ∧ w.frozen? ⟨g, 2, none⟩ = false ∧ w.frozen? ⟨g, 3, none⟩ = false) := by
  simp [World.cell?, World.frozen?, h]
/-- A world inside item: the reader, the two results' cells, the item's own cells. -/
structure Mid (w W : World) (rb : Nat) (s : ByteArray) (k bx : Nat) (kd : Int) : Prop where
  rs : RS W rb s k
  hx : W.heap[w.heap.size]? = some (.cells #[.int .i64 0, .int .u64 0, .string ⟨#[]⟩, .slice none 0 0] 54)
  hf : W.heap[w.heap.size + 1]? = some (.cells #[.int .i64 0, .int .i64 0] 35)
  hbx : W.heap[bx]? = some (.cells #[.int .i64 kd, .int .u64 0, .string ⟨#[]⟩, .slice none 0 0] 54)
  lt : w.heap.size + 2 ≤ bx
  rd : Rd rb w W
  hrb : rb < w.heap.size
set_option maxRecDepth 100000 in
theorem Mid.on {w W W' : World} {rb k k' bx : Nat} {s : ByteArray} {kd : Int} (h : Mid w W rb s k bx kd) (hr : Rd rb W W') (hs : RS W' rb s k') : Mid w W' rb s k' bx kd := by
  have hb := h.hrb
  have hl := h.lt
  exact ⟨hs, (hr.block _ (lt_of_block h.hx) (by omega)).trans h.hx, (hr.block _ (lt_of_block h.hf) (by omega)).trans h.hf, (hr.block _ (lt_of_block h.hbx) (by omega)).trans h.hbx, h.lt, h.rd.trans hr, h.hrb⟩
set_option maxRecDepth 100000 in
/-- The world behind item's first steps. -/
theorem start_on {w : World} {rb k : Nat} {s : ByteArray} (h : RS w rb s k) (n : Nat) :
    RS (((w.alloc (.cells #[.int .i64 0, .int .u64 0, .string ⟨#[]⟩, .slice none 0 0] 54)).alloc (.cells #[.int .i64 0, .int .i64 0] 35)).drewN n) rb s k
    ∧ (((w.alloc (.cells #[.int .i64 0, .int .u64 0, .string ⟨#[]⟩, .slice none 0 0] 54)).alloc (.cells #[.int .i64 0, .int .i64 0] 35)).drewN n).heap[w.heap.size]? = some (.cells #[.int .i64 0, .int .u64 0, .string ⟨#[]⟩, .slice none 0 0] 54)
    ∧ (((w.alloc (.cells #[.int .i64 0, .int .u64 0, .string ⟨#[]⟩, .slice none 0 0] 54)).alloc (.cells #[.int .i64 0, .int .i64 0] 35)).drewN n).heap[w.heap.size + 1]? = some (.cells #[.int .i64 0, .int .i64 0] 35)
    ∧ Rd rb w (((w.alloc (.cells #[.int .i64 0, .int .u64 0, .string ⟨#[]⟩, .slice none 0 0] 54)).alloc (.cells #[.int .i64 0, .int .i64 0] 35)).drewN n)
    ∧ w.heap.size + 2 ≤ (((w.alloc (.cells #[.int .i64 0, .int .u64 0, .string ⟨#[]⟩, .slice none 0 0] 54)).alloc (.cells #[.int .i64 0, .int .i64 0] 35)).drewN n).heap.size := by
  have b1 : Below w.heap.size w (((w.alloc (.cells #[.int .i64 0, .int .u64 0, .string ⟨#[]⟩, .slice none 0 0] 54)).alloc (.cells #[.int .i64 0, .int .i64 0] 35)).drewN n) :=
    (((Below.refl _ _).alloc (Nat.le_refl _) _).alloc (by simp) _).trans (below_drewN _ _ _)
  refine ⟨h.on b1, ?_, ?_, Rd.of b1, by simp⟩
  · have e := (Below.heap_alloc (w.alloc (.cells #[.int .i64 0, .int .u64 0, .string ⟨#[]⟩, .slice none 0 0] 54)) (.cells #[.int .i64 0, .int .i64 0] 35) w.heap.size (by simp)).trans (heap_top w _)
    exact e
  · have e := heap_top (w.alloc (.cells #[.int .i64 0, .int .u64 0, .string ⟨#[]⟩, .slice none 0 0] 54)) (.cells #[.int .i64 0, .int .i64 0] 35)
    rw [World.size_alloc] at e
    exact e
set_option maxRecDepth 100000 in
theorem keeps_new {kd : Int} (h : kd = 1 ∨ kd = 2 ∨ kd = 3) : keepsB kd 0 ⟨#[]⟩ 0 = true := by
  have e : (⟨#[]⟩ : ByteArray).toList = [] := by rw [ByteArray.toList_eq]
  rcases h with rfl | rfl | rfl <;> simp [keepsB, e]
set_option maxRecDepth 100000 in
theorem mid_start {w W1 w2 : World} {rb k : Nat} {s : ByteArray} {kd : Int} (hr : RS W1 rb s k) (hx : W1.heap[w.heap.size]? = some (.cells #[.int .i64 0, .int .u64 0, .string ⟨#[]⟩, .slice none 0 0] 54)) (hf : W1.heap[w.heap.size + 1]? = some (.cells #[.int .i64 0, .int .i64 0] 35)) (hz : w.heap.size + 2 ≤ W1.heap.size) (hrd : Rd rb w W1) (hlt : rb < w.heap.size)
    (hb : Below (W1.alloc (.cells #[.int .i64 kd, .int .u64 0, .string ⟨#[]⟩, .slice none 0 0] 54)).drew.heap.size (W1.alloc (.cells #[.int .i64 kd, .int .u64 0, .string ⟨#[]⟩, .slice none 0 0] 54)).drew w2) : Mid w w2 rb s k W1.heap.size kd := by
  have b1 : Below W1.heap.size W1 (W1.alloc (.cells #[.int .i64 kd, .int .u64 0, .string ⟨#[]⟩, .slice none 0 0] 54)).drew := ((Below.refl _ _).alloc (Nat.le_refl _) _).drew
  have e : (W1.alloc (.cells #[.int .i64 kd, .int .u64 0, .string ⟨#[]⟩, .slice none 0 0] 54)).drew.heap.size = W1.heap.size + 1 := World.size_alloc ..
  have b2 : Below W1.heap.size W1 w2 := b1.trans (hb.mono (by omega))
  exact ⟨hr.on b2, (b2.block _ (by omega)).trans hx, (b2.block _ (by omega)).trans hf, (hb.block _ (by omega)).trans (heap_top W1 _), hz, hrd.trans (Rd.of b2), hlt⟩
set_option maxHeartbeats 1000000 in
set_option maxRecDepth 100000 in
theorem item_num (s : ByteArray) (hs : s.size ≤ 262144) (rb k : Nat) (hk : k < s.size) (d : Int) (hd : d ≤ 8) (hc : s[k].toNat = 1) (P : Int → Int → Int → Nat → Prop) (w : World) (hr : RS w rb s k)
    (H : ∀ w', RS w' rb s (k + 1) → Calls Tryd.prog 75 #[.pointer (some ⟨rb, 0, none⟩)] w' (NumOut s rb P w')) :
    Calls Tryd.prog 43 #[.pointer (some ⟨rb, 0, none⟩), .int .i64 d] w fun e w' => ∃ n a c k', e = .returned (.tuple #[.agg #[.int .i64 1, .int .u64 n, .string ⟨#[]⟩, .slice none 0 0], .agg #[.int .i64 a, .int .i64 c]]) ∧ P n a c k' ∧ Rd rb w w' ∧ RS w' rb s k' := by
  have hd' : ¬ 8 < d := by omega
  have hke : ((k : Int) == (s.size : Int)) = false := beq_eq_false_iff_ne.2 (by omega)
  have hc' : (s[k].toNat : Int) = 1 := by omega
  have HR := Lib.hid hr
  have HH := Lib.hid H
  obtain ⟨hlt, c0, c1, f1⟩ := hr
  clear H
  go_enter Tryd.func43, Tryd.ntmps43
  go_wp2_with fail
  go_quiet (fail)
  go_wp2_with fail
  generalize hW : World.drewN _ nq = W1
  obtain ⟨HR1, hx1, hf1, hrd1, hz1⟩ := start_on HR.out nq
  rw [hW] at HR1 hx1 hf1 hrd1 hz1
  clear hW c0 c1 f1
  have HRX := Lib.hid HR1
  have HX1 := Lib.hid hx1
  have HF1 := Lib.hid hf1
  obtain ⟨rlt, r0, r1, rf⟩ := HR1
  clear hx1 hf1
  go_region
  go_wp2_with fail
  refine (keeps_at _ _ _ _ _ _ _).mono ?_
  rintro e w2 ⟨rfl, hb2⟩
  have hmid : Mid w w2 rb s k W1.heap.size 1 := mid_start HRX.out HX1.out HF1.out hz1 hrd1 hlt hb2
  rw [keeps_new (Or.inl rfl)]
  clear hb2 HRX HX1 HF1 rlt r0 r1 rf hrd1
  have HM := Lib.hid hmid
  obtain ⟨⟨rlt, r0, r1, rf⟩, -, -, hbx, -, -, -⟩ := hmid
  obtain ⟨⟨q0, q1, q2, q3⟩, -⟩ := four_cells hbx
  have hbl := lt_of_block hbx
  clear hbx
  go_wp2_with fail
  have hrs3 : RS ((w2.setCell ⟨rb, 1, none⟩ (.int .i64 ((k : Int) + 1))).alloc (.cells #[.int .i64 0, .int .i64 0] 35)) rb s (k + 1) :=
    (HM.out.rs.set (k + 1)).on ((Below.refl _ _).alloc (Nat.le_refl _) _)
  refine (HH.out _ hrs3).mono ?_
  rintro e w3 ⟨n, a, c, k', rfl, hP, hrd3, hrs3'⟩
  have hm3 : Mid w w3 rb s k' W1.heap.size 1 := HM.out.on ((Rd.set _ _ _).trans ((Rd.of ((Below.refl _ _).alloc (Nat.le_refl _) _)).trans hrd3)) hrs3'
  have hfb : w3.heap[w2.heap.size]? = some (.cells #[.int .i64 0, .int .i64 0] 35) := by
    have e := heap_top (w2.setCell ⟨rb, 1, none⟩ (.int .i64 ((k : Int) + 1))) (.cells #[.int .i64 0, .int .i64 0] 35)
    rw [World.size_setCell] at e
    exact (hrd3.block w2.heap.size (by simp) (by omega)).trans e
  have HM3 := Lib.hid hm3
  obtain ⟨-, hrx, hrf, hbx, hl3, -, -⟩ := hm3
  obtain ⟨hx1, hx2⟩ := four_cells hrx
  obtain ⟨hf1, hf2⟩ := two_cells hrf
  obtain ⟨hy1, hy2⟩ := four_cells hbx
  obtain ⟨hg1, hg2⟩ := two_cells hfb
  have hz3 := lt_of_block hfb
  clear hrx hrf hbx hfb q0 q1 q2 q3 r0 r1 rf HM hrd3 hrs3 hrs3' rlt
  go_wp2_with fail
  go_region
  go_wp2_with fail
  refine bodyPost_ret (v := .tuple #[.agg #[.int .i64 1, .int .u64 n, .string ⟨#[]⟩, .slice none 0 0], .agg #[.int .i64 a, .int .i64 c]]) (by simp [results, Tryd.results43, go_sem, hx1, hf1]) rfl ⟨n, a, c, k', rfl, hP, ?_, ?_⟩
  · refine Rd.trans ?_ (Rd.of ((Below.refl _ _).drew))
    exact (((((((((HM3.out.rd.setNew (by simp; omega) _).setNew (by simp; omega) _).setNew (by simp; omega) _).setNew (by simp) _).setNew (by simp) _).setNew (by simp) _).setNew (by simp) _).setNew (by simp) _).setNew (by simp) _)
  · refine RS.on ?_ ((Below.refl _ _).drew)
    exact (((((((((HM3.out.rs.setOther (by simp; omega) _).setOther (by simp; omega) _).setOther (by simp; omega) _).setOther (by simp; omega) _).setOther (by simp; omega) _).setOther (by simp; omega) _).setOther (by simp; omega) _).setOther (by simp; omega) _).setOther (by simp; omega) _)
end Go.Proofs.YtchmiiclogmheaaDoor.C2
