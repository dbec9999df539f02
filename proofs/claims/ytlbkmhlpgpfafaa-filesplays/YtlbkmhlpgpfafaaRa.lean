/-
  The reference's disk: contracts of change, known, New, Fuse and Read.
-/
import Derived.Test.YtlbkmhlpgpfafaaRm
namespace Go.Proofs.Ytlbkmhlpgpfafaa
open Go.RowKit Go.Maps Go.Joins
section
variable {w w' : World} {r : Nat} {v : Value} {S : PS} {D : Nat → Prop}
theorem setR {w : World} {r i : Nat} {cs : Array Value} (hd : w.heap[r]? = some (.cells cs 55 (0, 0))) (v : Value) : (w.setCell ⟨r, i, none⟩ v).heap[r]? = some (.cells (cs.setIfInBounds i v) 55 (0, 0)) := heap_setCell_same w r i cs 55 v hd
/-- The struct's own cells change. -/
theorem RP.head {S' : PS} (h : RP w r v S) (hd : w'.heap[r]? = some (.cells #[v, .int .i64 S'.left, .bool S'.dn] 55 (0, 0))) (hs : ∀ k, k ≠ r → w'.heap[k]? = w.heap[k]?) (hf : S'.fs = S.fs) : RP w' r v S' :=
  ⟨hd, by rw [hf]; exact own_same h.own (fun k hk => hs k (fun e => h.vr (by rw [hk, e])))⟩
set_option maxHeartbeats 800000 in
theorem rchange_any (h : RP w r v S) (hs : SOK S) :
    Calls Try.prog 47 #[.pointer (some ⟨r, 0, none⟩)] w fun e w' => e = .returned (.bool (chgOk S)) ∧ RP w' r v (if chgOk S then chgUp S else chgDown S) ∧ Fr (fun k => k = r) w w' := by
  obtain ⟨⟨c0, c1, c2⟩, f0, f1, f2⟩ := cells3 h.hd
  have hl0 := hs.l0
  have hl1 := hs.l1
  have H := Lib.hid h
  have HDN := Lib.hid (show RP (w.setCell ⟨r, 2, none⟩ (.bool true)) r v (chgDown S) from h.head (by rw [setR h.hd]; simp [chgDown]) (fun k hk => setO w _ hk) rfl)
  have HUP := Lib.hid (show RP (w.setCell ⟨r, 1, none⟩ (.int .i64 (S.left - 1))) r v { S with left := S.left - 1 } from h.head (by rw [setR h.hd]; simp) (fun k hk => setO w _ hk) rfl)
  have HFD := Lib.hid (show Fr (fun k => k = r) w (w.setCell ⟨r, 2, none⟩ (.bool true)) from (Fr.refl (fun k => k = r) w).setCell ⟨r, 2, none⟩ _ (Or.inl rfl))
  have HFU := Lib.hid (show Fr (fun k => k = r) w (w.setCell ⟨r, 1, none⟩ (.int .i64 (S.left - 1))) from (Fr.refl (fun k => k = r) w).setCell ⟨r, 1, none⟩ _ (Or.inl rfl))
  obtain ⟨x, HX⟩ := named S.left
  rw [HX.out] at c1 hl0 hl1 HUP HFU
  clear h hs
  cases hdn : S.dn with
  | true =>
    rw [show chgOk S = false by simp [chgOk, hdn]]
    rw [hdn] at c2
    go_enter Try.func47, Try.ntmps47
    go_wp2_with fail
    go_ret
    exact ⟨rfl, HDN.out, HFD.out⟩
  | false =>
    rw [hdn] at c2
    by_cases hx : x = 0
    · rw [show chgOk S = false by simp [chgOk, HX.out, hx]]
      subst hx
      go_enter Try.func47, Try.ntmps47
      go_wp2_with fail
      go_ret
      exact ⟨rfl, HDN.out, HFD.out⟩
    · rw [show chgOk S = true by simp [chgOk, hdn, HX.out, hx], if_pos rfl]
      have hx' : (x == 0) = false := beq_eq_false_iff_ne.2 hx
      by_cases hp : 0 < x
      · rw [show chgUp S = { S with left := x - 1 } by simp [chgUp, HX.out, hp]]
        have hw : IntKind.i64.wrap (x - 1) = x - 1 := by rw [IntKind.wrap_i64] <;> omega
        go_enter Try.func47, Try.ntmps47
        go_wp2_with fail
        go_ret
        exact ⟨rfl, HUP.out, HFU.out⟩
      · have e : chgUp S = S := by
          unfold chgUp
          rw [if_neg (by rw [HX.out]; exact hp)]
        rw [e]
        go_enter Try.func47, Try.ntmps47
        go_wp2_with fail
        go_ret
        exact ⟨rfl, H.out, Fr.refl _ _⟩
/-- What known tells of a place. -/
def knP (S : PS) (s : List UInt8) : Int := if knE S s ≠ 0 then 0 else plc s S.fs
theorem plc_neg (S : PS) (s : List UInt8) : (plc s S.fs < 0) ↔ (fnd S s).isNone = true := by
  unfold fnd
  rcases plc_spec s S.fs with ⟨a, b⟩ | ⟨k, hk, a, b, c⟩
  · rw [a, b]; simp
  · rw [c, a]; simp
set_option maxHeartbeats 800000 in
theorem known_any (h : RP w r v S) (hl : S.fs.length ≤ 64) (s : ByteArray) :
    Calls Try.prog 49 #[.pointer (some ⟨r, 0, none⟩), .string s] w fun e w' => e = .returned (.tuple #[.int .i64 (knP S s.data.toList), .int .i64 (knE S s.data.toList)]) ∧ w' = w := by
  have HM := Lib.hid (rmay_any s w)
  have HF := Lib.hid (rfind_any h hl s)
  cases hm : mayN s.data.toList with
  | false =>
    have hk : knE S s.data.toList = 170 := by unfold knE; rw [if_pos hm]
    rw [hm] at HM
    rw [show knP S s.data.toList = 0 by unfold knP; rw [hk]; rfl, hk]
    clear h
    go_enter Try.func49, Try.ntmps49
    go_wp2_with fail
    refine HM.out.mono ?_
    rintro e w1 ⟨rfl, rfl⟩
    go_wp2_with fail
    go_ret2
    exact ⟨rfl, rfl⟩
  | true =>
    rw [hm] at HM
    by_cases hp : plc s.data.toList S.fs < 0
    · have hk : knE S s.data.toList = 5 := by unfold knE; rw [hm, (plc_neg S _).1 hp]; rfl
      rw [show knP S s.data.toList = 0 by unfold knP; rw [hk]; rfl, hk]
      obtain ⟨k, HK⟩ := named (plc s.data.toList S.fs)
      rw [HK.out] at HF hp
      clear h hk
      go_enter Try.func49, Try.ntmps49
      go_wp2_with fail
      refine HM.out.mono ?_
      rintro e w1 ⟨rfl, rfl⟩
      go_wp2_with fail
      refine HF.out.mono ?_
      rintro e w1 ⟨rfl, rfl⟩
      go_wp2_with fail
      go_ret2
      exact ⟨rfl, rfl⟩
    · have hk : knE S s.data.toList = 0 := by
        unfold knE
        rw [hm]
        cases hq : (fnd S s.data.toList).isNone with
        | true => exact absurd ((plc_neg S _).2 hq) hp
        | false => rfl
      rw [show knP S s.data.toList = plc s.data.toList S.fs by unfold knP; rw [hk]; rfl, hk]
      obtain ⟨k, HK⟩ := named (plc s.data.toList S.fs)
      rw [HK.out] at HF hp ⊢
      clear h hk
      go_enter Try.func49, Try.ntmps49
      go_wp2_with fail
      refine HM.out.mono ?_
      rintro e w1 ⟨rfl, rfl⟩
      go_wp2_with fail
      refine HF.out.mono ?_
      rintro e w1 ⟨rfl, rfl⟩
      go_wp2_with fail
      go_ret2
      exact ⟨rfl, rfl⟩
theorem RNew_any (w : World) :
    Calls Try.prog 9 #[] w fun e w' => ∃ r D, e = .returned (.pointer (some ⟨r, 0, none⟩)) ∧ RK w' r S0 D ∧ (∀ k, D k → w.heap.size ≤ k) ∧ Below w.heap.size w w' := by
  have HD := Lib.hid (show RP (w.alloc (.cells #[.slice none 0 0, .int .i64 (-1), .bool false] 55)) w.heap.size (.slice none 0 0) S0 from ⟨heap_top _ _, rfl, Or.inl ⟨rfl, rfl⟩⟩)
  go_enter Try.func9, Try.ntmps9
  go_wp2_with fail
  go_ret
  refine ⟨w.heap.size, _, rfl, ⟨_, HD.out, rfl⟩, fun k hk => ?_, (Below.refl _ _).alloc (Nat.le_refl _) _⟩
  rcases hk with rfl | hk
  · exact Nat.le_refl _
  · cases hk
theorem RFuse_any (h : RK w r S D) (k : Int) :
    Calls Try.prog 31 #[.pointer (some ⟨r, 0, none⟩), .int .i64 k] w fun e w' => e = .returned (.int .i64 (fuE k)) ∧ RTo w w' r (fuS S k) D := by
  have HD := Lib.hid h.self
  obtain ⟨v, h, rfl⟩ := h
  obtain ⟨⟨c0, c1, c2⟩, f0, f1, f2⟩ := cells3 h.hd
  by_cases h0 : k < 0
  · rw [show fuE k = 1 by simp [fuE, h0], show fuS S k = S by simp [fuS, h0]]
    clear h
    go_enter Try.func31, Try.ntmps31
    go_wp2_with fail
    go_ret
    exact ⟨rfl, HD.out⟩
  · rw [show fuE k = 0 by simp [fuE, h0], show fuS S k = { S with left := k } by simp [fuS, h0]]
    have HUP := Lib.hid (show RP (w.setCell ⟨r, 1, none⟩ (.int .i64 k)) r v { S with left := k } from h.head (by rw [setR h.hd]; simp) (fun x hx => setO w _ hx) rfl)
    have HFU := Lib.hid (show Fr (Dv r v) w (w.setCell ⟨r, 1, none⟩ (.int .i64 k)) from (Fr.refl (Dv r v) w).setCell ⟨r, 1, none⟩ _ (Or.inl (Or.inl rfl)))
    clear h
    go_enter Try.func31, Try.ntmps31
    go_wp2_with fail
    go_ret
    exact ⟨rfl, Dv r v, ⟨v, HUP.out, rfl⟩, fun _ hk => Or.inl hk, HFU.out⟩
theorem kn_at {s : List UInt8} (hk : knE S s = 0) : ∃ j, ∃ hj : j < S.fs.length, plc s S.fs = j ∧ (S.fs[j]).nm = s ∧ fnd S s = some S.fs[j] := by
  obtain ⟨_, f, hf⟩ := knE_zero hk
  rcases plc_spec s S.fs with ⟨a, _⟩ | ⟨k, hk, a, b, c⟩
  · unfold fnd at hf
    rw [a] at hf
    cases hf
  · exact ⟨k, hk, a, b, c⟩
set_option maxHeartbeats 800000 in
theorem RRead_any (h : RK w r S D) (hl : S.fs.length ≤ 64) (s : ByteArray) :
    Calls Try.prog 30 #[.pointer (some ⟨r, 0, none⟩), .string s] w fun e w' => e = .returned (.tuple #[.string (sB (rdT S s.data.toList)), .int .i64 (knE S s.data.toList)]) ∧ w' = w := by
  obtain ⟨v, h, rfl⟩ := h
  have HK := Lib.hid (known_any h hl s)
  obtain ⟨⟨c0, c1, c2⟩, f0, f1, f2⟩ := cells3 h.hd
  by_cases hk : knE S s.data.toList = 0
  · obtain ⟨j, hj, hp, hn, hf⟩ := kn_at hk
    rw [show knP S s.data.toList = j by unfold knP; rw [hk, hp]; rfl, hk] at HK
    rw [show rdT S s.data.toList = (S.fs[j]).has by unfold rdT; rw [hk, hf]; rfl, hk]
    obtain ⟨g, c, hv, _, _⟩ := h.form (by omega)
    subst hv
    obtain ⟨⟨q0, q1, q2, q3⟩, _⟩ := h.file j hj
    generalize sB (S.fs[j]).has = sh at *
    obtain ⟨N, HN⟩ := named S.fs.length
    rw [HN.out] at c0 hj hl
    clear h hp hn hf hk q0 q2 q3
    go_enter Try.func30, Try.ntmps30
    go_wp2_with fail
    refine HK.out.mono ?_
    rintro e w1 ⟨rfl, rfl⟩
    go_wp2_with fail
    go_ret2
    exact ⟨rfl, rfl⟩
  · rw [show rdT S s.data.toList = [] by unfold rdT; rw [if_pos hk]]
    obtain ⟨k, HKK⟩ := named (knE S s.data.toList)
    rw [HKK.out] at hk HK ⊢
    have hk' : (k == 0) = false := beq_eq_false_iff_ne.2 hk
    generalize knP S s.data.toList = p at *
    clear h
    go_enter Try.func30, Try.ntmps30
    go_wp2_with fail
    refine HK.out.mono ?_
    rintro e w1 ⟨rfl, rfl⟩
    go_wp2_with fail
    go_ret2
    exact ⟨rfl, rfl⟩
end
end Go.Proofs.Ytlbkmhlpgpfafaa
