/-
  Contract of the reader's method item, at a list.
-/
import Derived.Test.YtchmiiclogmheaaDoorCBackL
namespace Go.Proofs.YtchmiiclogmheaaDoor.C2
open Go.RowKit
set_option maxRecDepth 100000 in
theorem heap_drew_at (w : World) (b : Nat) : w.drew.heap[b]? = w.heap[b]? := rfl
theorem drop_at (s : ByteArray) {k : Nat} (hk : k < s.size) : s.data.toList.drop k = s[k] :: s.data.toList.drop (k + 1) :=
  List.drop_eq_getElem_cons (show k < s.data.toList.length by simpa using hk)
set_option maxRecDepth 100000 in
theorem noItem_list {f : Nat} {L : List UInt8} (h : NoList f L) : NoItem (f + 1) (3 :: L) := by
  intro t r ⟨hk, hm, hn, hs, hmem⟩ e
  unfold encF at e
  rcases keeps_kind hk with h1 | h1 | h1
  · rw [if_pos h1] at e; exact absurd (List.cons.inj e).1 (by decide)
  · rw [if_neg (by omega), if_pos h1] at e; exact absurd (List.cons.inj e).1 (by decide)
  · rw [if_neg (by omega), if_neg (by omega)] at e
    exact h t.l.length t.m r hm hmem (List.cons.inj e).2
set_option maxRecDepth 100000 in
theorem noItem_num {f : Nat} {L : List UInt8} (h : NoNum L) : NoItem (f + 1) (1 :: L) := by
  intro t r ⟨hk, hm, hn, hs, hmem⟩ e
  unfold encF at e
  rcases keeps_kind hk with h1 | h1 | h1
  · rw [if_pos h1] at e; exact h _ r (by omega) (List.cons.inj e).2
  · rw [if_neg (by omega), if_pos h1] at e; exact absurd (List.cons.inj e).1 (by decide)
  · rw [if_neg (by omega), if_neg (by omega)] at e; exact absurd (List.cons.inj e).1 (by decide)
set_option maxRecDepth 100000 in
theorem noItem_text {f : Nat} {L : List UInt8} (h : ∀ x : ByteArray, ∀ r, x.size < 18446744073709551616 → L = numD x.size ++ (x.data.toList ++ r) → False) : NoItem (f + 1) (2 :: L) := by
  intro t r ⟨hk, hm, hn, hs, hmem⟩ e
  unfold encF at e
  rcases keeps_kind hk with h1 | h1 | h1
  · rw [if_pos h1] at e; exact absurd (List.cons.inj e).1 (by decide)
  · rw [if_neg (by omega), if_pos h1] at e
    exact h t.s r hs (by rw [← List.append_assoc]; exact (List.cons.inj e).2)
  · rw [if_neg (by omega), if_neg (by omega)] at e; exact absurd (List.cons.inj e).1 (by decide)
set_option maxRecDepth 100000 in
theorem noItem_end {f : Nat} : NoItem f [] := by
  intro t r h e
  cases f with
  | zero => exact h
  | succ f =>
    unfold encF at e
    split at e
    · cases e
    · split at e <;> cases e
set_option maxRecDepth 100000 in
theorem noItem_kind {f : Nat} {b : UInt8} {L : List UInt8} (h1 : b ≠ 1) (h2 : b ≠ 2) (h3 : b ≠ 3) : NoItem f (b :: L) := by
  intro t r h e
  cases f with
  | zero => exact h
  | succ f =>
    unfold encF at e
    split at e
    · exact h1 (List.cons.inj e).1
    · split at e
      · exact h2 (List.cons.inj e).1
      · exact h3 (List.cons.inj e).1
set_option maxRecDepth 100000 in
theorem u8_lit {b : UInt8} {n : Nat} (h : b.toNat = n) (hn : n < 256) : b = UInt8.ofNat n := by
  apply UInt8.toNat_inj.1
  rw [h, toNat_of _ hn]
set_option maxRecDepth 100000 in
/-- What list answered, as item's answer. -/
theorem list_item {s : ByteArray} {f k k' B : Nat} (hk : k < s.size) (hc : s[k].toNat = 3) {w3 W' : World} {p : Option Addr} {cap : Nat} {l : List T} {a c : Int} (lo : Nat)
    (hP : (c = 0 ∧ a = 0 ∧ k + 1 ≤ k' ∧ l.length ≤ 16384 ∧ (0 < l.length → ∃ b, p = some ⟨b, 0, none⟩ ∧ (B ≤ b ∧ b < w3.heap.size) ∧ ∀ j, (h : j < l.length) → l[j].at w3 b (j * 4))
      ∧ (∀ j, (h : j < l.length) → InS (fun b => B ≤ b ∧ b < w3.heap.size) w3 f l[j] ∧ Okk f l[j]) ∧ s.data.toList.drop (k + 1) = (numD l.length ++ catE (fun j => encF f (l.getD j T.zero)) l.length) ++ s.data.toList.drop k')
    ∨ (c ≠ 0 ∧ NoList f (s.data.toList.drop (k + 1)))) (hlo : lo ≤ B ∧ w3.heap.size ≤ W'.heap.size) (hsame : ∀ b, B ≤ b → W'.heap[b]? = w3.heap[b]?) :
    (c = 0 ∧ a = 0 ∧ k ≤ k' ∧ InS (fun b => lo ≤ b ∧ b < W'.heap.size) W' (f + 1) (T.mk 3 0 ⟨#[]⟩ p cap l) ∧ Okk (f + 1) (T.mk 3 0 ⟨#[]⟩ p cap l) ∧ s.data.toList.drop k = encF (f + 1) (T.mk 3 0 ⟨#[]⟩ p cap l) ++ s.data.toList.drop k') ∨ (c ≠ 0 ∧ NoItem (f + 1) (s.data.toList.drop k)) := by
  have h3 : s[k] = 3 := u8_lit hc (by decide)
  rw [drop_at s hk, h3]
  obtain ⟨hl1, hl2⟩ := hlo
  rcases hP with ⟨h1, h2, hkk, hlen, hcell, hmem, hby⟩ | ⟨h1, h2⟩
  · have hgd : ∀ j, (h : j < l.length) → l.getD j T.zero = l[j] := fun j h => by simp [List.getD, List.getElem?_eq_getElem h]
    refine Or.inl ⟨h1, h2, by omega, ⟨⟨by show (0 : Int) ≤ 0; omega, by show (0 : Int) ≤ _; omega, by show 0 ≤ _; omega, by show l.length ≤ _; omega⟩, ?_, ?_⟩, ⟨?_, hlen, ⟨by show (0 : Int) ≤ 0; omega, by show (0 : Int) < _; omega⟩, by show 0 < _; omega, ?_⟩, ?_⟩
    · intro h0
      obtain ⟨b, e, hb, hat⟩ := hcell h0
      exact ⟨b, 0, e, ⟨by omega, by omega⟩, fun j hj => by rw [Nat.zero_add]; exact (hat j hj).same (hsame b hb.1)⟩
    · intro j hj
      exact (hmem j hj).1.same (fun b hb => ⟨⟨by omega, by omega⟩, hsame b hb.1⟩)
    · have e : (⟨#[]⟩ : ByteArray).toList = [] := by rw [ByteArray.toList_eq]
      simp [T.keeps, keepsB, T.k, T.n, T.s, e]
    · intro j hj
      show Okk f (l.getD j T.zero)
      rw [hgd j hj]
      exact (hmem j hj).2
    · rw [hby]
      show _ = (if (3 : Int) = 1 then _ else if (3 : Int) = 2 then _ else 3 :: (numD l.length ++ catE (fun j => encF f (l.getD j T.zero)) l.length)) ++ _
      rw [if_neg (by decide), if_neg (by decide), List.cons_append]
  · exact Or.inr ⟨h1, noItem_list h2⟩
set_option maxHeartbeats 1000000 in
set_option maxRecDepth 100000 in
theorem item_list (s : ByteArray) (hs : s.size ≤ 262144) (rb f k : Nat) (hk : k < s.size) (d : Int) (hd : d ≤ 8) (hc : s[k].toNat = 3) (w : World) (hr : RS w rb s k)
    (H : ∀ w', RS w' rb s (k + 1) → Calls Tryd.prog 77 #[.pointer (some ⟨rb, 0, none⟩), .int .i64 d] w' (LsOut s rb f (k + 1) w')) :
    Calls Tryd.prog 43 #[.pointer (some ⟨rb, 0, none⟩), .int .i64 d] w (ItOut s rb (f + 1) k w) := by
  have hd' : ¬ 8 < d := by omega
  have hke : ((k : Int) == (s.size : Int)) = false := beq_eq_false_iff_ne.2 (by omega)
  have hc' : (s[k].toNat : Int) = 3 := by omega
  have HR := Lib.hid hr
  have HH := Lib.hid H
  obtain ⟨hlt, c0, c1, f1⟩ := hr
  clear H
  go_enter Tryd.func43, Tryd.ntmps43
  go_wp2_with fail
  go_quiet (fail)
  go_wp2_with fail
  generalize hW : World.drewN _ nq = W1
  obtain ⟨HR1, hx1, hf1, hrd1, hz1⟩ := start_on HR.out nq
  rw [hW] at HR1 hx1 hf1 hrd1 hz1
  clear hW c0 c1 f1
  have HRX := Lib.hid HR1
  have HX1 := Lib.hid hx1
  have HF1 := Lib.hid hf1
  obtain ⟨rlt, r0, r1, rf⟩ := HR1
  clear hx1 hf1
  go_region
  go_wp2_with fail
  refine (keeps_at _ _ _ _ _ _ _).mono ?_
  rintro e w2 ⟨rfl, hb2⟩
  have hmid : Mid w w2 rb s k W1.heap.size 3 := mid_start HRX.out HX1.out HF1.out hz1 hrd1 hlt hb2
  rw [keeps_new (Or.inr (Or.inr rfl))]
  clear hb2 HRX HX1 HF1 rlt r0 r1 rf hrd1
  have HM := Lib.hid hmid
  obtain ⟨⟨rlt, r0, r1, rf⟩, -, -, hbx, -, -, -⟩ := hmid
  obtain ⟨⟨q0, q1, q2, q3⟩, -⟩ := four_cells hbx
  have hbl := lt_of_block hbx
  clear hbx
  go_wp2_with fail
  have hrs3 : RS ((w2.setCell ⟨rb, 1, none⟩ (.int .i64 ((k : Int) + 1))).alloc (.cells #[.int .i64 0, .int .i64 0] 35)) rb s (k + 1) :=
    (HM.out.rs.set (k + 1)).on ((Below.refl _ _).alloc (Nat.le_refl _) _)
  refine (HH.out _ hrs3).mono ?_
  rintro e w3 ⟨p, cap, l, a, c, k', rfl, hrd3, hrs3', hk', ha0, ha1, hP⟩
  have HP := Lib.hid hP
  clear hP
  have hm3 : Mid w w3 rb s k' W1.heap.size 3 := HM.out.on ((Rd.set _ _ _).trans ((Rd.of ((Below.refl _ _).alloc (Nat.le_refl _) _)).trans hrd3)) hrs3'
  have hfb : w3.heap[w2.heap.size]? = some (.cells #[.int .i64 0, .int .i64 0] 35) := by
    have e := heap_top (w2.setCell ⟨rb, 1, none⟩ (.int .i64 ((k : Int) + 1))) (.cells #[.int .i64 0, .int .i64 0] 35)
    rw [World.size_setCell] at e
    exact (hrd3.block w2.heap.size (by simp) (by omega)).trans e
  have HM3 := Lib.hid hm3
  obtain ⟨-, hrx, hrf, hbx, hl3, -, -⟩ := hm3
  obtain ⟨hx1, hx2⟩ := four_cells hrx
  obtain ⟨hf1, hf2⟩ := two_cells hrf
  obtain ⟨hy1, hy2⟩ := four_cells hbx
  obtain ⟨hg1, hg2⟩ := two_cells hfb
  have hz3 := lt_of_block hfb
  clear hrx hrf hbx hfb q0 q1 q2 q3 r0 r1 rf HM hrd3 hrs3 hrs3' rlt
  go_wp2_with fail
  go_region
  go_wp2_with fail
  refine bodyPost_ret (v := .tuple #[.agg #[.int .i64 3, .int .u64 0, .string ⟨#[]⟩, .slice p l.length cap], .agg #[.int .i64 a, .int .i64 c]]) (by simp [results, Tryd.results43, go_sem, hx1, hf1]) rfl ⟨T.mk 3 0 ⟨#[]⟩ p cap l, a, c, k', rfl, ?_, ?_, hk', ha0, ha1, ?_⟩
  · refine Rd.trans ?_ (Rd.of ((Below.refl _ _).drew))
    exact (((((((((HM3.out.rd.setNew (by simp; omega) _).setNew (by simp; omega) _).setNew (by simp; omega) _).setNew (by simp) _).setNew (by simp) _).setNew (by simp) _).setNew (by simp) _).setNew (by simp) _).setNew (by simp) _)
  · refine RS.on ?_ ((Below.refl _ _).drew)
    exact (((((((((HM3.out.rs.setOther (by simp; omega) _).setOther (by simp; omega) _).setOther (by simp; omega) _).setOther (by simp; omega) _).setOther (by simp; omega) _).setOther (by simp; omega) _).setOther (by simp; omega) _).setOther (by simp; omega) _).setOther (by simp; omega) _)
  · refine list_item hk hc w.heap.size HP.out ⟨by simp; omega, by simp⟩ ?_
    intro b hb
    have hb' : w2.heap.size + 1 ≤ b := by simpa using hb
    rw [heap_drew_at]
    rw [Below.heap_setCell _ _ _ b (by simp; omega), Below.heap_setCell _ _ _ b (by simp; omega), Below.heap_setCell _ _ _ b (by simp; omega), Below.heap_setCell _ _ _ b (by simp; omega), Below.heap_setCell _ _ _ b (by simp; omega), Below.heap_setCell _ _ _ b (by simp; omega), Below.heap_setCell _ _ _ b (by simp; omega), Below.heap_setCell _ _ _ b (by simp; omega), Below.heap_setCell _ _ _ b (by simp; omega)]
end Go.Proofs.YtchmiiclogmheaaDoor.C2
