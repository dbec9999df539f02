/-
  Contracts of files.isLetter, isDigit, mayBe, and of (*Disk).find, change, Read and Fuse, and of New.
-/
import Derived.Test.YtlbkmhlpgpfafaaDisk
namespace Go.Proofs.Ytlbkmhlpgpfafaa
open Go.RowKit Go.Maps
theorem letter_any (b : Nat) (w : World) :
    Calls Try.prog 55 #[.int .u8 b] w fun e w' => e = .returned (.bool (decide (97 ≤ b) && decide (b ≤ 122))) ∧ w' = w := by
  by_cases h1 : 97 ≤ b
  · by_cases h2 : b ≤ 122
    · rw [show (decide (97 ≤ b) && decide (b ≤ 122)) = true by simp [h1, h2]]
      have h1' : (97 : Int) ≤ b := by omega
      have h2' : (b : Int) ≤ 122 := by omega
      go_enter Try.func55, Try.ntmps55
      go_wp2_with fail
      go_ret
      exact ⟨rfl, rfl⟩
    · rw [show (decide (97 ≤ b) && decide (b ≤ 122)) = false by simp [h2]]
      have h1' : (97 : Int) ≤ b := by omega
      have h2' : ¬ (b : Int) ≤ 122 := by omega
      go_enter Try.func55, Try.ntmps55
      go_wp2_with fail
      go_ret
      exact ⟨rfl, rfl⟩
  · rw [show (decide (97 ≤ b) && decide (b ≤ 122)) = false by simp [h1]]
    have h1' : ¬ (97 : Int) ≤ b := by omega
    go_enter Try.func55, Try.ntmps55
    go_wp2_with fail
    go_ret
    exact ⟨rfl, rfl⟩
theorem digit_any (b : Nat) (w : World) :
    Calls Try.prog 56 #[.int .u8 b] w fun e w' => e = .returned (.bool (decide (48 ≤ b) && decide (b ≤ 57))) ∧ w' = w := by
  by_cases h1 : 48 ≤ b
  · by_cases h2 : b ≤ 57
    · rw [show (decide (48 ≤ b) && decide (b ≤ 57)) = true by simp [h1, h2]]
      have h1' : (48 : Int) ≤ b := by omega
      have h2' : (b : Int) ≤ 57 := by omega
      go_enter Try.func56, Try.ntmps56
      go_wp2_with fail
      go_ret
      exact ⟨rfl, rfl⟩
    · rw [show (decide (48 ≤ b) && decide (b ≤ 57)) = false by simp [h2]]
      have h1' : (48 : Int) ≤ b := by omega
      have h2' : ¬ (b : Int) ≤ 57 := by omega
      go_enter Try.func56, Try.ntmps56
      go_wp2_with fail
      go_ret
      exact ⟨rfl, rfl⟩
  · rw [show (decide (48 ≤ b) && decide (b ≤ 57)) = false by simp [h1]]
    have h1' : ¬ (48 : Int) ≤ b := by omega
    go_enter Try.func56, Try.ntmps56
    go_wp2_with fail
    go_ret
    exact ⟨rfl, rfl⟩
set_option maxHeartbeats 800000 in
theorem mayBe_any (s : ByteArray) (w : World) :
    Calls Try.prog 38 #[.string s] w fun e w' => e = .returned (.bool (mayN s.data.toList)) ∧ w' = w := by
  have hsz : s.data.toList.length = s.size := by rw [Array.length_toList]; rfl
  by_cases h1 : s.size < 1
  · rw [show mayN s.data.toList = false by simp [mayN]; intro h; have : s.data.size = s.size := rfl; omega]
    have h1' : (s.size : Int) < 1 := by omega
    go_enter Try.func38, Try.ntmps38
    go_wp2_with fail
    go_ret
    exact ⟨rfl, rfl⟩
  · by_cases h2 : 64 < s.size
    · rw [show mayN s.data.toList = false by simp [mayN]; intro h h'; have : s.data.size = s.size := rfl; omega]
      have h1' : ¬ (s.size : Int) < 1 := by omega
      have h2' : (64 : Int) < s.size := by omega
      go_enter Try.func38, Try.ntmps38
      go_wp2_with fail
      go_ret
      exact ⟨rfl, rfl⟩
    · have HM : Hid (mayN s.data.toList = s.data.toList.all okB) := by
        show _ = _
        unfold mayN
        rw [hsz]
        simp [show 1 ≤ s.size by omega, show s.size ≤ 64 by omega]
      have HSZ := Lib.hid hsz
      clear hsz
      have h1' : ¬ (s.size : Int) < 1 := by omega
      have h2' : ¬ (64 : Int) < s.size := by omega
      go_enter Try.func38, Try.ntmps38
      go_wp2_with fail
      go_loop [14] (fun i => ∃ j : Nat, j ≤ s.size ∧ i = .int .i64 j ∧ Hid ((s.data.toList.take j).all okB = true)) (fun i => s.size - (intOf i).toNat)
      case atStart => exact ⟨0, Nat.zero_le _, rfl, by simp [Hid]⟩
      case round =>
        obtain ⟨j, hj, rfl, HP⟩ := hrel
        by_cases hlt : j < s.size
        · have HT : Hid ((s.data.toList.take (j + 1)).all okB = okB s[j] ∧ (okB s[j] = false → s.data.toList.all okB = false)) := by
            have hl : j < s.data.toList.length := by have := HSZ.out; omega
            have e : s.data.toList[j] = s[j] := by simp [ByteArray.getElem_eq_getElem_data]
            refine ⟨?_, fun h => ?_⟩
            · rw [List.take_succ_eq_append_getElem hl, List.all_append, HP.out, e]
              simp
            · rw [List.all_eq_false]
              exact ⟨s[j], by rw [← e]; exact List.getElem_mem hl, by rw [h]; simp⟩
          go_wp2_with fail
          refine (letter_any s[j].toNat w).mono ?_
          rintro e w1 ⟨rfl, rfl⟩
          cases hl : (decide (97 ≤ s[j].toNat) && decide (s[j].toNat ≤ 122)) with
          | true =>
            have HT2 : Hid (okB s[j] = true) := by show _ = _; unfold okB; rw [hl]; rfl
            go_wp2_with fail
            exact ⟨⟨j + 1, by omega, by go_num, by show _ = _; rw [HT.out.1, HT2.out]⟩, by simp [intOf]; omega⟩
          | false =>
            go_wp2_with fail
            refine (digit_any s[j].toNat _).mono ?_
            rintro e w1 ⟨rfl, rfl⟩
            cases hd : (decide (48 ≤ s[j].toNat) && decide (s[j].toNat ≤ 57)) with
            | true =>
              have HT2 : Hid (okB s[j] = true) := by show _ = _; unfold okB; rw [hl, hd]; rfl
              go_wp2_with fail
              exact ⟨⟨j + 1, by omega, by go_num, by show _ = _; rw [HT.out.1, HT2.out]⟩, by simp [intOf]; omega⟩
            | false =>
              have HT2 : Hid (okB s[j] = false) := by show _ = _; unfold okB; rw [hl, hd]; rfl
              go_wp2_with fail
              go_ret
              exact ⟨by rw [HM.out, HT.out.2 HT2.out]; rfl, rfl⟩
        · go_wp2_with fail
          go_ret
          rw [HM.out]
          have e : s.data.toList.take j = s.data.toList := List.take_of_length_le (by have := HSZ.out; omega)
          have := HP.out
          rw [e] at this
          exact ⟨by rw [this]; rfl, rfl⟩
section
variable {w : World} {d : Nat} {ow : Nat → Option Nat} {mb : Option Nat} {L : List Fl} {dn fu : Bool} {n : Int}
theorem cells4 {w : World} {g : Nat} {a b c e : Value} {t : TypeId} (h : w.heap[g]? = some (.cells #[a, b, c, e] t)) : (w.cell? ⟨g, 0, none⟩ = some a ∧ w.cell? ⟨g, 1, none⟩ = some b ∧ w.cell? ⟨g, 2, none⟩ = some c ∧ w.cell? ⟨g, 3, none⟩ = some e) ∧ (w.frozen? ⟨g, 0, none⟩ = false ∧ w.frozen? ⟨g, 1, none⟩ = false ∧ w.frozen? ⟨g, 2, none⟩ = false ∧ w.frozen? ⟨g, 3, none⟩ = false) := by
  simp [World.cell?, World.frozen?, h]
theorem cells3 {w : World} {g : Nat} {a b c : Value} {t : TypeId} (h : w.heap[g]? = some (.cells #[a, b, c] t)) : (w.cell? ⟨g, 0, none⟩ = some a ∧ w.cell? ⟨g, 1, none⟩ = some b ∧ w.cell? ⟨g, 2, none⟩ = some c) ∧ (w.frozen? ⟨g, 0, none⟩ = false ∧ w.frozen? ⟨g, 1, none⟩ = false ∧ w.frozen? ⟨g, 2, none⟩ = false) := by
  simp [World.cell?, World.frozen?, h]
/-- What find tells. -/
def fiE (L : List Fl) (s : List UInt8) : Int := if mayN s = false then 170 else if (fndK fk s L).isNone then 5 else 0
def fiP (L : List Fl) (s : List UInt8) : Value := if mayN s = false then .pointer none else ptrOf (fndK fk s L)
set_option maxHeartbeats 800000 in
theorem find_any (h : DM w d ow mb L dn fu n) (s : ByteArray) (hs : s.size ≤ maxLen) :
    Calls Try.prog 41 #[.pointer (some ⟨d, 0, none⟩), .string s] w fun e w' => e = .returned (.tuple #[fiP L s.data.toList, .int .i64 (fiE L s.data.toList)]) ∧ w' = w := by
  obtain ⟨⟨c0, c1, c2, c3⟩, f0, f1, f2, f3⟩ := cells4 h.hd
  have HM := Lib.hid (mayBe_any s w)
  have HL := h.map.look hs
  cases hm : mayN s.data.toList with
  | false =>
    rw [show fiP L s.data.toList = .pointer none by simp [fiP, hm], show fiE L s.data.toList = 170 by simp [fiE, hm]]
    rw [hm] at HM
    clear HL
    go_enter Try.func41, Try.ntmps41
    go_wp2_with fail
    refine HM.out.mono ?_
    rintro e w1 ⟨rfl, rfl⟩
    go_wp2_with fail
    go_ret2
    exact ⟨rfl, rfl⟩
  | true =>
    rw [show fiP L s.data.toList = ptrOf (fndK fk s.data.toList L) by simp [fiP, hm], show fiE L s.data.toList = if (fndK fk s.data.toList L).isNone then 5 else 0 by simp [fiE, hm]]
    rw [hm] at HM
    cases hf : fndK fk s.data.toList L with
    | none =>
      rw [hf] at HL
      rw [show (none : Option Fl).isSome = false from rfl] at HL
      rw [show (none : Option Fl).isNone = true from rfl, if_pos rfl]
      clear hf
      go_enter Try.func41, Try.ntmps41
      go_wp2_with fail
      refine HM.out.mono ?_
      rintro e w1 ⟨rfl, rfl⟩
      go_wp2_with fail
      go_ret2
      exact ⟨rfl, rfl⟩
    | some f =>
      rw [hf] at HL
      rw [show (some f).isSome = true from rfl] at HL
      rw [show (some f).isNone = false from rfl, if_neg (by decide)]
      clear hf
      go_enter Try.func41, Try.ntmps41
      go_wp2_with fail
      refine HM.out.mono ?_
      rintro e w1 ⟨rfl, rfl⟩
      go_wp2_with fail
      go_ret2
      exact ⟨rfl, rfl⟩
/-- The disk's struct behind a change of its own cells. -/
theorem DM.head {w' : World} {dn' fu' : Bool} {n' : Int} (h : DM w d ow mb L dn fu n) (hd : w'.heap[d]? = some (.cells #[.map mb, .bool dn', .bool fu', .int .i64 n'] 52 (0, 0))) (hs : ∀ k, k ≠ d → w'.heap[k]? = w.heap[k]?) (hz : w'.heap.size = w.heap.size) (h0 : 0 ≤ n') (h1 : n' ≤ 9223372036854775807) : DM w' d ow mb L dn' fu' n' := by
  refine ⟨hd, h.od, fun b hb => h.out b (by omega), ?_, h.om, h.srt, h.ob, h.apart, h.len, h.may, h0, h1⟩
  refine h.map.same (fun m hm => hs m (fun e => ?_))
  subst e
  rcases h.map with ⟨e, _⟩ | ⟨m', e, hk⟩
  · rw [hm] at e; cases e
  · rw [hm] at e
    injection e with e
    subst e
    obtain ⟨es, clock, hb⟩ := hk.kind
    have := h.hd
    rw [hb] at this
    cases this
theorem FA.head {w' : World} {f : Fl} (h : DM w d ow mb L dn fu n) (hf : f ∈ L) (a : FA w ow f) (hs : ∀ k, k ≠ d → w'.heap[k]? = w.heap[k]?) : FA w' ow f := by
  refine a.keep (fun k hk hk' => hs k (fun e => ?_)) (fun _ _ => rfl)
  subst e
  rcases hk' with hk' | hk'
  · exact (h.ob f hf).2 hk'.symm
  · rw [h.od] at hk'
    injection hk' with hk'
    exact (h.ob f hf).2 hk'.symm
/-- What the disk's struct is behind a change. -/
structure Chg (w w' : World) (d : Nat) (mb : Option Nat) (dn fu : Bool) (n : Int) : Prop where
  hd : w'.heap[d]? = some (.cells #[.map mb, .bool dn, .bool fu, .int .i64 n] 52 (0, 0))
  other : ∀ k, k ≠ d → w'.heap[k]? = w.heap[k]?
  size : w'.heap.size = w.heap.size
  os : w'.os = w.os
  tape : w'.tape = w.tape
  output : w'.output = w.output
theorem setD {w : World} {d i : Nat} {cs : Array Value} (hd : w.heap[d]? = some (.cells cs 52 (0, 0))) (v : Value) : (w.setCell ⟨d, i, none⟩ v).heap[d]? = some (.cells (cs.setIfInBounds i v) 52 (0, 0)) := heap_setCell_same w d i cs 52 v hd
theorem setO (w : World) {d k i : Nat} (v : Value) (h : k ≠ d) : (w.setCell ⟨d, i, none⟩ v).heap[k]? = w.heap[k]? := heap_setCell_other w ⟨d, i, none⟩ k v h
def cgOk (dn fu : Bool) (n : Int) : Bool := !dn && !(fu && decide (n = 0))
set_option maxHeartbeats 800000 in
theorem change_any (hd : w.heap[d]? = some (.cells #[.map mb, .bool dn, .bool fu, .int .i64 n] 52 (0, 0))) (h0 : 0 ≤ n) (h1 : n ≤ 9223372036854775807) :
    Calls Try.prog 39 #[.pointer (some ⟨d, 0, none⟩)] w fun e w' => e = .returned (.int .i64 (if cgOk dn fu n then 0 else 191)) ∧ Chg w w' d mb (!cgOk dn fu n) fu (if cgOk dn fu n && fu then n - 1 else n) := by
  obtain ⟨⟨c0, c1, c2, c3⟩, f0, f1, f2, f3⟩ := cells4 hd
  have HR := Lib.hid (show Chg w w d mb dn fu n from ⟨hd, fun _ _ => rfl, rfl, rfl, rfl, rfl⟩)
  have HD := Lib.hid (show Chg w (w.setCell ⟨d, 1, none⟩ (.bool true)) d mb true fu n from ⟨by rw [setD hd]; simp, fun k hk => setO w _ hk, by simp, rfl, rfl, rfl⟩)
  have HN := Lib.hid (show Chg w (w.setCell ⟨d, 3, none⟩ (.int .i64 (n - 1))) d mb dn fu (n - 1) from ⟨by rw [setD hd]; simp, fun k hk => setO w _ hk, by simp, rfl, rfl, rfl⟩)
  cases fu with
  | false =>
    cases dn with
    | false =>
      rw [show cgOk false false n = true by simp [cgOk]]
      go_enter Try.func39, Try.ntmps39
      go_wp2_with fail
      go_ret
      exact ⟨rfl, HR.out⟩
    | true =>
      rw [show cgOk true false n = false by simp [cgOk]]
      go_enter Try.func39, Try.ntmps39
      go_wp2_with fail
      go_ret
      exact ⟨rfl, HR.out⟩
  | true =>
    by_cases hn : n = 0
    · subst hn
      rw [show cgOk dn true 0 = false by cases dn <;> simp [cgOk]]
      go_enter Try.func39, Try.ntmps39
      go_wp2_with fail
      go_ret
      exact ⟨rfl, HD.out⟩
    · have hn' : (n == 0) = false := beq_eq_false_iff_ne.2 hn
      cases dn with
      | false =>
        rw [show cgOk false true n = true by simp [cgOk, hn]]
        have hw : IntKind.i64.wrap (n - 1) = n - 1 := by rw [IntKind.wrap_i64]; omega
        go_enter Try.func39, Try.ntmps39
        go_wp2_with fail
        go_ret
        exact ⟨rfl, HN.out⟩
      | true =>
        rw [show cgOk true true n = false by simp [cgOk]]
        go_enter Try.func39, Try.ntmps39
        go_wp2_with fail
        go_ret
        exact ⟨rfl, HR.out⟩
end
end Go.Proofs.Ytlbkmhlpgpfafaa
