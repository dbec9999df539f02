/-
  Contracts of code.Frames (the bodies of the frames that stand one behind the other) and of the book's SameTexts.
-/
import Derived.Test.YtgcnpmjpdhgikaaDoorTorn
import Derived.Test.YtgcnpmjpdhgikaaDoorAppend
namespace Go.Proofs.YtgcnpmjpdhgikaaDoor
open Go.RowKit
theorem info9 : (Tryd.prog.info? 9).map (fun i => (i.zero, i.size, i.bytes)) = some (some (.string ⟨#[]⟩), 1, 16) := by kernel_rfl
theorem ret_bool' {a b : Bool} (h : a = b) : Ending.returned (.bool a) = .returned (.bool b) := by rw [h]
/-- Texts as cells. -/
def textsC (l : List (List UInt8)) : List Value := l.map fun s => Value.string ⟨s.toArray⟩
theorem textsC_len (l : List (List UInt8)) : (textsC l).length = l.length := by unfold textsC; simp
theorem textsC_append (l m : List (List UInt8)) : textsC (l ++ m) = textsC l ++ textsC m := by unfold textsC; simp
/-- A row of texts that the call owns. -/
def OwnT (w : World) (base : Nat) (v : Value) (l : List (List UInt8)) : Prop := w.ownsRow base 9 1 v l.length (textsC l)
theorem OwnT.join {w : World} {base : Nat} {v : Value} {l m : List (List UInt8)} (h : w.ownsRow base 9 1 v (l.length + m.length) (textsC l ++ textsC m)) : OwnT w base v (l ++ m) := by
  unfold OwnT; rw [List.length_append, textsC_append]; exact h
theorem OwnT.alloc {w : World} {base : Nat} {v : Value} {l : List (List UInt8)} (h : OwnT w base v l) (o : Obj) : OwnT (w.alloc o) base v l := World.ownsRow.alloc h o
theorem OwnT.on {w w' : World} {base : Nat} {v : Value} {l : List (List UInt8)} (h : OwnT w base v l) (hb : Below w.heap.size w w') : OwnT w' base v l := by
  refine ⟨h.1, ?_⟩
  rcases h.2 with h' | ⟨g, c, cur, h', hb', hg, rest⟩
  · exact Or.inl h'
  · exact Or.inr ⟨g, c, cur, h', hb', (hb.block g (lt_of_block hg)).trans hg, rest⟩
theorem OwnT.nil (w : World) (base : Nat) : OwnT w base (.slice none 0 0) [] := World.ownsRow_nil w base 9 1
/-- The bodies of the frames that stand one behind the other, at most so many, and the place behind the last one. -/
def framesF : Nat → List UInt8 → Nat → List (List UInt8) × Nat
  | 0, _, p => ([], p)
  | f + 1, l, p => if (bodyD (l.drop p)).2 = 0 then ((bodyD (l.drop p)).1 :: (framesF f l (p + 8 + (bodyD (l.drop p)).1.length)).1, (framesF f l (p + 8 + (bodyD (l.drop p)).1.length)).2) else ([], p)
theorem bodyD_ok {l : List UInt8} (h : (bodyD l).2 = 0) : (bodyD l).1.length + 8 ≤ l.length := by
  unfold bodyD at h ⊢
  split at h
  · omega
  · split at h
    · omega
    · split at h
      · omega
      · split at h
        · rename_i h1 h2 h3 h4
          rw [if_neg h1, if_neg h2, if_neg h3, if_pos h4]
          simp; omega
        · omega
theorem framesF_stop (f : Nat) {l : List UInt8} {p : Nat} (h : (bodyD (l.drop p)).2 ≠ 0) : framesF f l p = ([], p) := by
  cases f with
  | zero => rfl
  | succ f => unfold framesF; rw [if_neg h]
theorem framesF_go (f : Nat) {l : List UInt8} {p : Nat} (h : (bodyD (l.drop p)).2 = 0) : framesF (f + 1) l p = ((bodyD (l.drop p)).1 :: (framesF f l (p + 8 + (bodyD (l.drop p)).1.length)).1, (framesF f l (p + 8 + (bodyD (l.drop p)).1.length)).2) := by
  conv => lhs; unfold framesF
  rw [if_pos h]
theorem news_text (w : World) (x : Value) : ∀ j u, [x][j]? = some u → (w.alloc (.cells #[x] 9)).cell? ((⟨w.heap.size, 0, none⟩ : Addr).add j) = some u := by
  intro j u hu
  match j, hu with
  | 0, hu => simp at hu; subst hu; simp [Addr.add]
theorem one_text (x : ByteArray) : ∀ u ∈ [Value.string x], u.oneCell' = true := by intro u hu; simp at hu; subst hu; rfl
theorem unD_ok {l : List UInt8} {p : Nat} (hp : p ≤ l.length) (h : (bodyD (l.drop p)).2 = 0) : unD l p = .tuple #[.string ⟨(bodyD (l.drop p)).1.toArray⟩, .int .i64 ((p : Int) + 8 + (bodyD (l.drop p)).1.length), .agg #[.int .i64 0, .int .i64 0]] := by
  unfold unD; rw [if_neg (by omega), Int.toNat_natCast, if_pos h]
theorem unD_no {l : List UInt8} {p : Nat} (hp : p ≤ l.length) (h : (bodyD (l.drop p)).2 ≠ 0) : unD l p = .tuple #[.string ⟨#[]⟩, .int .i64 0, .agg #[.int .i64 p, .int .i64 (bodyD (l.drop p)).2]] := by
  unfold unD; rw [if_neg (by omega), Int.toNat_natCast, if_neg h]
set_option maxHeartbeats 400000 in
theorem frames_any (s : ByteArray) (hs : s.size ≤ 100000000) (w : World) (hh : Halves w) :
    Calls Tryd.prog 23 #[.string s] w fun e w' => ∃ v, e = .returned (.tuple #[v, .int .i64 ((framesF (s.size + 1) s.data.toList 0).2 : Nat)]) ∧ OwnT w' w.heap.size v (framesF (s.size + 1) s.data.toList 0).1 ∧ Below w.heap.size w w' := by
  obtain ⟨i0, hi, hz0, hz1, hz2⟩ := info_parts info9
  have hpos := hh.size
  have HH := Lib.hid hh
  clear hh
  obtain ⟨R, HRR⟩ := named (framesF (s.size + 1) s.data.toList 0)
  rw [HRR.out]
  go_enter Tryd.func23, Tryd.ntmps23
  go_wp2_with fail
  go_loopw [2, 3] (fun v e wr => ∃ (f p : Nat) (pre : List (List UInt8)), e = .int .i64 p ∧ p ≤ s.size ∧ s.size + 1 - p ≤ f ∧ pre.length * 8 ≤ p ∧ Hid (pre ++ (framesF f s.data.toList p).1 = R.1 ∧ (framesF f s.data.toList p).2 = R.2) ∧ Hid (OwnT wr w.heap.size v pre) ∧ Below w.heap.size w wr) (fun _ e _ => s.size - (intOf e).toNat)
  case atStart => exact ⟨s.size + 1, 0, [], rfl, Nat.zero_le _, by omega, by simp, ⟨by rw [HRR.out]; rfl, by rw [HRR.out]⟩, OwnT.nil _ _, Below.refl _ _⟩
  case round =>
    obtain ⟨f, p, pre, rfl, hp, hf, hpl, HF, HO, hb⟩ := hrel
    have hsz := hb.size
    have HL : Hid (s.data.toList.length = s.size) := by show _ = _; simp
    go_wp2_with fail
    refine (unframe_any s p (by omega) _ (HH.out.on hb hpos)).mono ?_
    rintro e w2 ⟨rfl, hb2⟩
    have hbw := hb.trans (hb2.mono hb.size)
    have HO2 : Hid (OwnT w2 w.heap.size u2 pre) := HO.out.on hb2
    clear hb2
    have hsz2 := hbw.size
    by_cases hc : (bodyD (s.data.toList.drop p)).2 = 0
    · have hlen := bodyD_ok hc
      have hl2 := (bodyD_len (s.data.toList.drop p)).2
      rw [unD_ok (by rw [HL.out]; exact hp) hc]
      obtain ⟨f, rfl⟩ : ∃ g, f = g + 1 := ⟨f - 1, by omega⟩
      have HF2 : Hid ((pre ++ [(bodyD (s.data.toList.drop p)).1]) ++ (framesF f s.data.toList (p + 8 + (bodyD (s.data.toList.drop p)).1.length)).1 = R.1 ∧ (framesF f s.data.toList (p + 8 + (bodyD (s.data.toList.drop p)).1.length)).2 = R.2) := by
        have h := HF.out
        rw [framesF_go f hc] at h
        exact ⟨by rw [← h.1]; simp, h.2⟩
      generalize (bodyD (s.data.toList.drop p)).1 = B at *
      rw [List.length_drop, HL.out] at hlen
      clear hc
      obtain ⟨bs, HB⟩ := named (⟨B.toArray⟩ : ByteArray)
      rw [HB.out]
      have hown2 : w2.ownsRow w.heap.size 9 1 u2 pre.length (textsC pre) := HO2.out
      have HOW := Lib.hid hown2
      have hlt := hown2.lt
      clear hown2
      go_wp2_with (at_builtin; refine wpList_append_own _ rfl (.tmp 19) (.tmp 21) 43 rfl w.heap.size 9 i0 (.string ⟨#[]⟩) 1 16 Tryd.underlying43 hi hz0 hz1 hz2 rfl (by decide) u2 pre.length (textsC pre) rfl ((HOW.out.alloc _).alloc _) ⟨w2.heap.size + 1, 0, none⟩ 1 1 [.string bs] rfl rfl (by have h := news_text (w2.alloc (.cells #[.int .i64 0, .int .i64 0] 32)) (.string bs); simpa using h) (one_text _) (by unfold maxLen; omega) (by omega) (by simp; omega) ?_; intro v3 w3 hown3 hgrow3 hnil3; clear hnil3; have HO3 : Hid (OwnT w3 w.heap.size v3 (pre ++ [B])) := OwnT.join (m := [B]) (by rw [show textsC [B] = [.string bs] by rw [← HB.out]; rfl]; exact hown3); have hb3 : Below w.heap.size w w3 := ((hbw.alloc (by omega) _).alloc (by simp; omega) _).grown hgrow3 (by simp; omega) (fun k hk => (hlt k hk).1); clear hown3 hgrow3)
      refine ⟨⟨f, p + 8 + B.length, pre ++ [B], ?_, by omega, by omega, by simp; omega, HF2, HO3, hb3⟩, ?_⟩
      · congr 1
      · simp [intOf]; omega
    · rw [unD_no (by rw [HL.out]; exact hp) hc]
      have hcb : ((bodyD (s.data.toList.drop p)).2 == 0) = false := beq_eq_false_iff_ne.2 hc
      have HE : Hid (pre = R.1 ∧ p = R.2) := by
        have h := HF.out
        rw [framesF_stop f hc] at h
        exact ⟨by rw [← h.1]; simp, h.2⟩
      generalize (bodyD (s.data.toList.drop p)).2 = c at *
      clear hc
      go_wp2_with fail
      go_ret2
      exact ⟨_, by rw [← HE.out.2]; rfl, by rw [← HE.out.1]; exact HO2.out.alloc _, hbw.alloc (by omega) _⟩
set_option maxHeartbeats 400000 in
theorem same_any (a b : Option Addr) (n m ca cb : Nat) (A B : Nat → ByteArray) (hn : n ≤ 1000000000) (hm : m ≤ 1000000000) (r : Bool) (hr : r = decide (n = m ∧ ∀ j, j < n → (A j).data.toList = (B j).data.toList)) (ba oa bb ob : Nat) (ha : 0 < n → a = some ⟨ba, oa, none⟩) (hb : 0 < m → b = some ⟨bb, ob, none⟩) (w : World)
    (hca : ∀ j, j < n → w.cell? ⟨ba, oa + j, none⟩ = some (.string (A j))) (hcb : ∀ j, j < m → w.cell? ⟨bb, ob + j, none⟩ = some (.string (B j))) :
    Calls Tryd.prog 25 #[.slice a n ca, .slice b m cb] w fun e w' => e = .returned (.bool r) ∧ Below w.heap.size w w' := by
  by_cases hnm : n = m
  · subst hnm
    have HA := Lib.hid hca
    have HBB := Lib.hid hcb
    clear hca hcb
    go_enter Tryd.func25, Tryd.ntmps25
    go_wp2_with fail
    go_loopw [5] (fun i wr => ∃ k : Nat, k ≤ n ∧ i = .int .i64 k ∧ Hid (∀ j, j < k → (A j).data.toList = (B j).data.toList) ∧ ∃ q, wr = w.drewN q) (fun i _ => n - (intOf i).toNat)
    case atStart => exact ⟨0, Nat.zero_le _, rfl, by show ∀ j, _; intro j hj; omega, 0, rfl⟩
    case round =>
      obtain ⟨k, hk, rfl, HE, q, rfl⟩ := hrel
      by_cases hlt : k < n
      · have c1 := HA.out k hlt
        have c2 := HBB.out k hlt
        have ha' := ha (by omega)
        have hb' := hb (by omega)
        subst ha' hb'
        by_cases he : (A k).data.toList = (B k).data.toList
        · have heq : ((A k).toList == (B k).toList) = true := by rw [beq_iff_eq, ByteArray.toList_eq, ByteArray.toList_eq]; exact he
          have HE2 : Hid (∀ j, j < k + 1 → (A j).data.toList = (B j).data.toList) := by
            show ∀ j, _
            intro j hj
            by_cases e : j = k
            · subst e; exact he
            · exact HE.out j (by omega)
          clear he
          go_wp2_with fail
          go_quiet (fail)
          go_wp2_with fail
          exact ⟨⟨k + 1, by omega, by go_num, HE2, _, rfl⟩, by simp [intOf]; omega⟩
        · have heq : ((A k).toList == (B k).toList) = false := by rw [beq_eq_false_iff_ne, ByteArray.toList_eq, ByteArray.toList_eq]; exact he
          have HRF : Hid (r = false) := by show r = false; rw [hr]; apply decide_eq_false; intro h; exact he (h.2 k hlt)
          clear he hr
          go_wp2_with fail
          go_quiet (fail)
          go_wp2_with fail
          go_ret
          exact ⟨ret_bool' HRF.out.symm, (below_drewN _ _ _).trans (below_drewN _ _ _)⟩
      · have hkn : k = n := by omega
        have HRT : Hid (r = true) := by show r = true; rw [hr]; apply decide_eq_true; exact ⟨by trivial, by rw [← hkn]; exact HE.out⟩
        clear hkn hr
        go_wp2_with fail
        go_ret
        exact ⟨ret_bool' HRT.out.symm, below_drewN _ _ _⟩
  · have hne : ((n : Int) == (m : Int)) = false := beq_eq_false_iff_ne.2 (by omega)
    have HRF : Hid (r = false) := by show r = false; rw [hr]; apply decide_eq_false; intro h; exact hnm h.1
    clear hr
    go_enter Tryd.func25, Tryd.ntmps25
    go_wp2_with fail
    go_ret
    exact ⟨ret_bool' HRF.out.symm, Below.refl _ _⟩
end Go.Proofs.YtgcnpmjpdhgikaaDoor
