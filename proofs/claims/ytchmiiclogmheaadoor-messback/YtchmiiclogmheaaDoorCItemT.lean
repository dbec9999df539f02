/-
  Contract of the reader's method item, at a text and at a list.
-/
import Derived.Test.YtchmiiclogmheaaDoorCReadText
namespace Go.Proofs.YtchmiiclogmheaaDoor.C2
open Go.RowKit
def StrOut (s : ByteArray) (rb : Nat) (P : ByteArray → Int → Int → Nat → Prop) (w : World) (e : Ending) (w' : World) : Prop :=
  ∃ n a c k', e = .returned (.tuple #[.string n, .agg #[.int .i64 a, .int .i64 c]]) ∧ P n a c k' ∧ Rd rb w w' ∧ RS w' rb s k'
def ListOut (s : ByteArray) (rb : Nat) (P : (Option Addr × Nat × Nat) → Int → Int → Nat → Prop) (w : World) (e : Ending) (w' : World) : Prop :=
  ∃ n a c k', e = .returned (.tuple #[.slice n.1 n.2.1 n.2.2, .agg #[.int .i64 a, .int .i64 c]]) ∧ P n a c k' ∧ Rd rb w w' ∧ RS w' rb s k'
set_option maxHeartbeats 1000000 in
set_option maxRecDepth 100000 in
theorem item_text (s : ByteArray) (hs : s.size ≤ 262144) (rb k : Nat) (hk : k < s.size) (d : Int) (hd : d ≤ 8) (hc : s[k].toNat = 2) (P : ByteArray → Int → Int → Nat → Prop) (w : World) (hr : RS w rb s k)
    (H : ∀ w', RS w' rb s (k + 1) → Calls Tryd.prog 76 #[.pointer (some ⟨rb, 0, none⟩)] w' (StrOut s rb P w')) :
    Calls Tryd.prog 43 #[.pointer (some ⟨rb, 0, none⟩), .int .i64 d] w fun e w' => ∃ n a c k', e = .returned (.tuple #[.agg #[.int .i64 2, .int .u64 0, .string n, .slice none 0 0], .agg #[.int .i64 a, .int .i64 c]]) ∧ P n a c k' ∧ Rd rb w w' ∧ RS w' rb s k' := by
  have hd' : ¬ 8 < d := by omega
  have hke : ((k : Int) == (s.size : Int)) = false := beq_eq_false_iff_ne.2 (by omega)
  have hc' : (s[k].toNat : Int) = 2 := by omega
  have HR := Lib.hid hr
  have HH := Lib.hid H
  obtain ⟨hlt, c0, c1, f1⟩ := hr
  clear H
  go_enter Tryd.func43, Tryd.ntmps43
  go_wp2_with fail
  go_quiet (fail)
  go_wp2_with fail
  generalize hW : World.drewN _ nq = W1
  obtain ⟨HR1, hx1, hf1, hrd1, hz1⟩ := start_on HR.out nq
  rw [hW] at HR1 hx1 hf1 hrd1 hz1
  clear hW c0 c1 f1
  have HRX := Lib.hid HR1
  have HX1 := Lib.hid hx1
  have HF1 := Lib.hid hf1
  obtain ⟨rlt, r0, r1, rf⟩ := HR1
  clear hx1 hf1
  go_region
  go_wp2_with fail
  refine (keeps_at _ _ _ _ _ _ _).mono ?_
  rintro e w2 ⟨rfl, hb2⟩
  have hmid : Mid w w2 rb s k W1.heap.size 2 := mid_start HRX.out HX1.out HF1.out hz1 hrd1 hlt hb2
  rw [keeps_new (Or.inr (Or.inl rfl))]
  clear hb2 HRX HX1 HF1 rlt r0 r1 rf hrd1
  have HM := Lib.hid hmid
  obtain ⟨⟨rlt, r0, r1, rf⟩, -, -, hbx, -, -, -⟩ := hmid
  obtain ⟨⟨q0, q1, q2, q3⟩, -⟩ := four_cells hbx
  have hbl := lt_of_block hbx
  clear hbx
  go_wp2_with fail
  have hrs3 : RS ((w2.setCell ⟨rb, 1, none⟩ (.int .i64 ((k : Int) + 1))).alloc (.cells #[.int .i64 0, .int .i64 0] 35)) rb s (k + 1) :=
    (HM.out.rs.set (k + 1)).on ((Below.refl _ _).alloc (Nat.le_refl _) _)
  refine (HH.out _ hrs3).mono ?_
  rintro e w3 ⟨n, a, c, k', rfl, hP, hrd3, hrs3'⟩
  have hm3 : Mid w w3 rb s k' W1.heap.size 2 := HM.out.on ((Rd.set _ _ _).trans ((Rd.of ((Below.refl _ _).alloc (Nat.le_refl _) _)).trans hrd3)) hrs3'
  have hfb : w3.heap[w2.heap.size]? = some (.cells #[.int .i64 0, .int .i64 0] 35) := by
    have e := heap_top (w2.setCell ⟨rb, 1, none⟩ (.int .i64 ((k : Int) + 1))) (.cells #[.int .i64 0, .int .i64 0] 35)
    rw [World.size_setCell] at e
    exact (hrd3.block w2.heap.size (by simp) (by omega)).trans e
  have HM3 := Lib.hid hm3
  obtain ⟨-, hrx, hrf, hbx, hl3, -, -⟩ := hm3
  obtain ⟨hx1, hx2⟩ := four_cells hrx
  obtain ⟨hf1, hf2⟩ := two_cells hrf
  obtain ⟨hy1, hy2⟩ := four_cells hbx
  obtain ⟨hg1, hg2⟩ := two_cells hfb
  have hz3 := lt_of_block hfb
  clear hrx hrf hbx hfb q0 q1 q2 q3 r0 r1 rf HM hrd3 hrs3 hrs3' rlt
  go_wp2_with fail
  go_region
  go_wp2_with fail
  refine bodyPost_ret (v := .tuple #[.agg #[.int .i64 2, .int .u64 0, .string n, .slice none 0 0], .agg #[.int .i64 a, .int .i64 c]]) (by simp [results, Tryd.results43, go_sem, hx1, hf1]) rfl ⟨n, a, c, k', rfl, hP, ?_, ?_⟩
  · refine Rd.trans ?_ (Rd.of ((Below.refl _ _).drew))
    exact (((((((((HM3.out.rd.setNew (by simp; omega) _).setNew (by simp; omega) _).setNew (by simp; omega) _).setNew (by simp) _).setNew (by simp) _).setNew (by simp) _).setNew (by simp) _).setNew (by simp) _).setNew (by simp) _)
  · refine RS.on ?_ ((Below.refl _ _).drew)
    exact (((((((((HM3.out.rs.setOther (by simp; omega) _).setOther (by simp; omega) _).setOther (by simp; omega) _).setOther (by simp; omega) _).setOther (by simp; omega) _).setOther (by simp; omega) _).setOther (by simp; omega) _).setOther (by simp; omega) _).setOther (by simp; omega) _)
end Go.Proofs.YtchmiiclogmheaaDoor.C2
