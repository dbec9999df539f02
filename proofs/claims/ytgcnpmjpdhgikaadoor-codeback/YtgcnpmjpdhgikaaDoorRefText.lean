/-
  Contracts of the reference's Size and write at a text.
-/
import Derived.Test.YtgcnpmjpdhgikaaDoorRefWrite
import Derived.Deep.RegionHeld3
namespace Go.Proofs.YtgcnpmjpdhgikaaDoor
open Go.RowKit
set_option maxHeartbeats 1600000 in
theorem size_text (n : Int) (s : ByteArray) (hs : s.size ≤ 140737488355328) (a : Option Addr) (cap : Nat) (w : World) :
    Calls Tryd.prog 29 #[.agg #[.int .i64 2, .int .u64 n, .string s, .slice a 0 cap]] w fun e w' => e = .returned (.int .i64 ((1 + ((numD s.size).length + s.size) : Nat) : Int)) ∧ Below w.heap.size w w' := by
  have hl := (numD_len s.size).2
  have hu : IntKind.u64.wrap (s.size : Int) = s.size := by rw [IntKind.wrap_u64]; omega
  have HRN := Lib.hid (rnum (w.heap.size + 1) (.slice none 0 0) [] s.size (by omega) (w.alloc (.cells #[.int .i64 2, .int .u64 n, .string s, .slice a 0 cap] 25)).drew (OwnB.nil _ _) (by simp) (by simp))
  rw [List.nil_append] at HRN
  obtain ⟨D, HD⟩ := named (numD s.size)
  rw [HD.out] at HRN hl ⊢
  have hw1 : IntKind.i64.wrap ((D.length : Int) + s.size) = (D.length : Int) + s.size := by rw [IntKind.wrap_i64]; omega
  have hw2 : IntKind.i64.wrap (1 + ((D.length : Int) + s.size)) = 1 + ((D.length : Int) + s.size) := by rw [IntKind.wrap_i64]; omega
  go_enter Tryd.func29, Tryd.ntmps29
  go_wp2_with fail
  go_region_held3 (fun w' => w'.cell? ⟨w.heap.size, 2, none⟩ = some (.string s)) (go_keep) ((refine HRN.out.mono ?_; rintro e w1 ⟨v1, rfl, hown1, hfr1⟩; obtain ⟨p, c, hs1⟩ := hown1.shape; subst hs1; obtain ⟨⟨q0, q1, q2, q3⟩, hbw⟩ := box_drew hfr1 (Nat.le_refl _)))
  clear hfr1 hown1
  go_wp2_with fail
  refine wp_loop_rounds 1 ?_
  rw [rounds_succ]
  go_wp2_with fail
  go_ret
  exact ⟨ret_int (by omega), hbw⟩
theorem wp_append_str {P : Program} {w : World} {o : Oper} {a : Act} {K : Act → World → Prop} {Q : Exit → Act → World → Prop} (sl x : Operand) (t u : TypeId)
    (ho : o.op = .call { callee := .builtin .append, args := #[sl, x], argTypes := #[t, u] })
    (base : Nat) (e : TypeId) (i : TypeInfo) (ht : P.underlying t = some (.slice e)) (hu : P.underlying u = some .string) (hi : P.info? e = some i) (hz : i.zero = some (.int .u8 0))
    (hsize : i.size = 1) (hby : i.bytes = 1)
    (v : Value) (n : Nat) (xs : List Value) (hs : a.eval sl = v) (hown : w.ownsRow base e 1 v n xs) (s : ByteArray) (hx : a.eval x = .string s)
    (h63 : n + s.size ≤ maxLen) (hbytes : n + s.size ≤ 140737488355328) (hbase : base ≤ w.heap.size)
    (h : ∀ v' w', w'.ownsRow base e 1 v' (n + s.size) (xs ++ Lib.strCells s) → w.grownBy w' v.ownBlock → K (a.put o.dst v') w') : o.wp P a w K Q := by
  obtain ⟨v', w', hr, h2, h3, h4⟩ := Lib.run_append_own_string (P := P) w base t u o.type e i ht hu hi hz hsize hby v n xs hown s h63 hbytes hbase
  unfold Oper.wp
  simp [execOp, ho, resolve, invoke, builtin, hs, hx, hr, Result.andThen]
  exact h v' w' h2 h3
set_option maxHeartbeats 1600000 in
theorem wr_text (base : Nat) (v : Value) (acc : List UInt8) (n : Int) (s : ByteArray) (a : Option Addr) (m cap : Nat) (w : World) (hown : OwnB w base v acc) (hb : base ≤ w.heap.size) (hl : acc.length + s.size ≤ 262144) :
    Calls Tryd.prog 30 #[v, .agg #[.int .i64 2, .int .u64 n, .string s, .slice a m cap]] w fun e w' => ∃ v', e = .returned v' ∧ OwnB w' base v' (((acc ++ [2]) ++ numD s.size) ++ s.data.toList) ∧ Fr base w w' := by
  obtain ⟨i0, hi, hz0, hz1, hz2⟩ := info_parts info5
  have HO := Lib.hid hown
  clear hown
  have hu : IntKind.u64.wrap (s.size : Int) = s.size := by rw [IntKind.wrap_u64]; omega
  have hnl := (numD_len s.size).2
  have HM : Hid (bytesC s.data.toList = Lib.strCells s ∧ s.data.toList.length = s.size) := ⟨by rw [bytesC_str], by simp⟩
  obtain ⟨R, HR⟩ := named (((acc ++ [2]) ++ numD s.size) ++ s.data.toList)
  obtain ⟨L2, HL2⟩ := named ((acc ++ [2]) ++ numD s.size)
  rw [HR.out]
  rw [HL2.out] at HR
  have hlen2 : L2.length ≤ 262200 := by rw [← HL2.out]; simp; omega
  go_enter Tryd.func30, Tryd.ntmps30
  go_wp2_with (at_builtin; refine wpList_append_own _ rfl (.tmp 6) (.tmp 10) 50 rfl base 5 i0 (.int .u8 0) 1 1 Tryd.underlying50 hi hz0 hz1 hz2 rfl (by decide) v acc.length (bytesC acc) rfl ((HO.out.alloc _).alloc _) ⟨w.heap.size + 1, 0, none⟩ 1 1 [.int .u8 2] rfl rfl (by have h := news_one (w.alloc (.cells #[.int .i64 2, .int .u64 n, .string s, .slice a m cap] 25)) (.int .u8 2); simpa using h) (one_u8 _) (by unfold maxLen; omega) (by omega) (by simp; omega) ?_; intro v1 w1 hown1 hgrow1 hnil1; clear hnil1; have hfr1 : Fr base (w.alloc (.cells #[.int .i64 2, .int .u64 n, .string s, .slice a m cap] 25)) w1 := (((Fr.refl base _).alloc (by simp; omega) _).grown ((HO.out.alloc _).alloc _) hgrow1 (by simp; omega)); obtain ⟨q0, q1, q2, q3⟩ := box4 hfr1; have HO1 : Hid (OwnB w1 base v1 (acc ++ [2])) := OwnB.join (m := [2]) hown1; clear hown1 hgrow1)
  have hs1 := hfr1.size
  simp only [World.size_alloc] at hs1
  have HRN := Lib.hid (rnum base v1 (acc ++ [2]) s.size (by omega) w1.drew HO1.out (by show base ≤ w1.heap.size; omega) (by simp; omega))
  rw [HL2.out] at HRN
  have hfr1d : Fr base (w.alloc (.cells #[.int .i64 2, .int .u64 n, .string s, .slice a m cap] 25)) w1.drew := ⟨hfr1.below.drew, hfr1.block⟩
  have HF1 := Lib.hid hfr1d
  clear hfr1 hfr1d
  go_region_held3 (fun w' => w'.cell? ⟨w.heap.size, 2, none⟩ = some (.string s)) (go_keep) (first | (go_at_call 42; refine HRN.out.mono ?_; rintro e w2 ⟨v2, rfl, hown2, hfr2⟩; have hfr := HF1.out.trans hfr2; obtain ⟨r0, r1, r2, r3⟩ := box4 hfr; have HO2 := Lib.hid hown2; have hs2 := hfr.size; clear hown2) | (refine wp_append_str (.tmp 27) (.tmp 29) 50 9 rfl base 5 i0 Tryd.underlying50 Tryd.underlying9 hi hz0 hz1 hz2 v2 L2.length (bytesC L2) rfl HO2.out s rfl (by unfold maxLen; omega) (by omega) (by simp at hs2; omega) ?_; intro v3 w3 hown3 hgrow3; have hfr3 : Fr base w2 w3 := (Fr.refl _ _).grown HO2.out hgrow3 (by simp at hs2; omega); have HO3 := Lib.hid (text_join HM.out.1 HM.out.2 hown3); have hfr4 := hfr.trans hfr3; obtain ⟨t0, t1, t2, t3⟩ := box4 hfr4; clear hown3 hgrow3))
  go_wp2_with fail
  go_ret
  exact ⟨v3, rfl, by rw [← HR.out]; exact HO3.out, ((Fr.refl base w).alloc hb _).trans hfr4⟩
end Go.Proofs.YtgcnpmjpdhgikaaDoor
