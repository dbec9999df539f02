/-
  Contract of mess.Decode.
-/
import Derived.Test.YtchmiiclogmheaaDoorRd7c
import Derived.Test.YtchmiiclogmheaaDoorRd7d
import Derived.Test.YtchmiiclogmheaaDoorMa4
namespace Go.Proofs.YtchmiiclogmheaaDoor.C2
open Go.RowKit
theorem inF_all : ∀ (f : Nat) {t : T} {w : World}, Okk f t → InF w f t → ∀ g, InF w g t
  | 0, _, _, h, _ => h.elim
  | f + 1, t, w, h, hi => fun g => by
    cases g with
    | zero => trivial
    | succ g => exact ⟨hi.1, hi.2.1, fun j hj => inF_all f (by rw [T.m_eq t j hj]; exact h.m_ hj) (hi.2.2 j hj) g⟩
theorem small_of {f : Nat} {t : T} (h : Okk (f + 4) t) : Small t := ⟨h.2.1, fun j hj h4 => ((h.m_ hj).m_ (j := 3) (by omega)).2.1⟩
theorem messageOf_any (t : T) (w : World) (hF : Flds w) (hk : Okk 8 t) (hi : InF w 8 t) : Calls Tryd.prog 38 #[t.val] w fun e w' => MgR w.heap.size t e w' ∧ Below w.heap.size w w' := by
  have h := inF_all 8 hk hi
  by_cases hl : t.l.length = 0
  · refine (messageOf_nil t w hl).mono ?_
    rintro e w' ⟨rfl, hb⟩
    have : okM t = false := by unfold okM; rw [hl]; rfl
    exact ⟨⟨fun h => (by rw [this] at h; cases h), fun _ => rfl⟩, hb⟩
  · have hl0 : 0 < t.l.length := by omega
    by_cases hO : okS (t.m 0) 1073741824 = true
    · by_cases hK : isKB (t.m 0).n = true
      · by_cases hN : t.l.length = 1 + (fl (t.m 0).n.toNat).length
        · exact messageOf_yes t w hF h hl0 (fun j hj => small_of (f := 3) (hk.m_ hj)) hO hK hN
        · exact messageOf_no2 t w hF h hl0 hO hK hN
      · exact messageOf_no1 t w hF h hl0 hO (by simpa using hK)
    · exact messageOf_no0 t w hF h hl0 (by simpa using hO)
/-- What Decode answers: a message whose bytes these are, or none has them. -/
def DcO (s : ByteArray) (e : Ending) (w' : World) : Prop :=
  (∃ a c, c ≠ 0 ∧ e = .returned (.tuple #[.agg (msC (mz 0) adz), .agg #[.int .i64 a, .int .i64 c]]) ∧ ∀ t, Okk 8 t → (encF 8 t).length ≤ 262144 → encF 8 t = s.data.toList → a = 0 ∧ c = 200 ∧ okM t = false) ∨
  (∃ M p, e = .returned (.tuple #[.agg (msC M p), .agg #[.int .i64 0, .int .i64 0]]) ∧ MsIn w' M p ∧ mayB M = true ∧ longM M = false ∧ Rng M ∧ bytesM M = s.data.toList ∧ s.size ≤ 262144)
set_option maxRecDepth 100000 in
set_option maxHeartbeats 1600000 in
theorem codeDecode_long (s : ByteArray) (hs : 262144 < s.size) (hs2 : s.size ≤ 9223372036854775807) (w : World) :
    Calls Tryd.prog 25 #[.string s] w fun e w' => e = .returned (.tuple #[T.zero.val, .agg #[.int .i64 0, .int .i64 2]]) ∧ Below w.heap.size w w' := by
  have hs' : (262144 : Int) < s.size := by omega
  have hX : ((w.alloc (.cells #[.int .i64 0, .int .u64 0, .string ⟨#[]⟩, .slice none 0 0] 54)).alloc (.cells #[.int .i64 0, .int .i64 0] 35)).heap[w.heap.size]? = some (.cells #[.int .i64 0, .int .u64 0, .string ⟨#[]⟩, .slice none 0 0] 54) := by
    rw [Below.heap_alloc _ _ _ (by simp)]; exact heap_top w _
  have hF := heap_top (w.alloc (.cells #[.int .i64 0, .int .u64 0, .string ⟨#[]⟩, .slice none 0 0] 54)) (.cells #[.int .i64 0, .int .i64 0] 35)
  rw [World.size_alloc] at hF
  have hb0 : Below w.heap.size w ((w.alloc (.cells #[.int .i64 0, .int .u64 0, .string ⟨#[]⟩, .slice none 0 0] 54)).alloc (.cells #[.int .i64 0, .int .i64 0] 35)) := ((Below.refl _ _).alloc (Nat.le_refl _) _).alloc (by simp) _
  go_enter Tryd.func25, Tryd.ntmps25
  go_wp2_with fail
  refine (fault_any 0 2 _).mono ?_
  rintro e w1 ⟨rfl, hb1⟩
  have hX1 := (hb1.block _ (lt_of_block hX)).trans hX
  have hF1 := (hb1.block _ (lt_of_block hF)).trans hF
  have hbw := hb0.trans (hb1.mono hb0.size)
  obtain ⟨hx1, hx2⟩ := cells4 hX1
  obtain ⟨hf1, hf2⟩ := two_cells hF1
  clear hX hF hb0 hb1 hX1 hF1
  go_wp2_with fail
  refine bodyPost_ret (v := .tuple #[.agg #[.int .i64 0, .int .u64 0, .string ⟨#[]⟩, .slice none 0 0], .agg #[.int .i64 0, .int .i64 2]]) (by simp [results, Tryd.results25, go_sem, hx1, hf1]) rfl ⟨rfl, ?_⟩
  exact (((((hbw.setCell (by simp) _).setCell (by simp) _).setCell (by simp) _).setCell (by simp) _).setCell (by simp) _).setCell (by simp) _
/-- What code.Decode answers, of any bytes. -/
def CdO (s : ByteArray) (e : Ending) (w' : World) : Prop :=
  ∃ (t : T) (a c : Int), e = .returned (.tuple #[.agg #[.int .i64 t.k, .int .u64 t.n, .string t.s, .slice t.a t.l.length t.cap], .agg #[.int .i64 a, .int .i64 c]]) ∧
    ((c = 0 ∧ a = 0 ∧ InF w' 8 t ∧ Okk 8 t ∧ s.data.toList = encF 8 t ∧ s.size ≤ 262144) ∨ (c ≠ 0 ∧ ∀ t, Okk 8 t → (encF 8 t).length ≤ 262144 → encF 8 t ≠ s.data.toList))
theorem codeDecode_any (s : ByteArray) (hs2 : s.size ≤ 9223372036854775807) (w : World) : Calls Tryd.prog 25 #[.string s] w fun e w' => CdO s e w' ∧ Below w.heap.size w w' := by
  by_cases hs : s.size ≤ 262144
  · refine (decode_back s hs w).mono ?_
    rintro e w' ⟨t, a, c, rfl, hb, _, _, h⟩
    refine ⟨⟨t, a, c, rfl, ?_⟩, hb⟩
    rcases h with ⟨h1, h2, h3, h4, h5⟩ | ⟨h1, _, h3⟩ | ⟨h1, _, u, r, h3, h4, h5, _⟩
    · exact Or.inl ⟨h1, h2, h3, h4, h5, hs⟩
    · exact Or.inr ⟨h1, fun t ht _ e => h3 t [] ht (by rw [List.append_nil]; exact e.symm)⟩
    · refine Or.inr ⟨by omega, fun t ht _ e => ?_⟩
      have := (encF_inj 8 u t r [] h3 ht (by rw [List.append_nil, ← h5]; exact e.symm)).2
      exact h4 this
  · refine (codeDecode_long s (by omega) hs2 w).mono ?_
    rintro e w' ⟨rfl, hb⟩
    refine ⟨⟨T.zero, 0, 2, rfl, Or.inr ⟨by decide, fun t _ g e => ?_⟩⟩, hb⟩
    have : (encF 8 t).length = s.size := by rw [e, Array.length_toList]; rfl
    omega
/-- A message's bytes are never refused. -/
theorem DcO.msg {s : ByteArray} {e : Ending} {w' : World} (h : DcO s e w') {m : MM} (g1 : mayB m = true) (g2 : longM m = false) (g3 : Rng m) (hl : (bytesM m).length ≤ 262144) (hb : bytesM m = s.data.toList) : ∃ p, e = .returned (.tuple #[.agg (msC m p), .agg #[.int .i64 0, .int .i64 0]]) ∧ MsIn w' m p := by
  have hk : Okk 8 (pT m) := okk_msg (fine_of g3 g2 g1) (pT_is m)
  rcases h with ⟨a, c, _, _, h⟩ | ⟨M, p, rfl, h1, h2, h3, h4, h5, h6⟩
  · have h1 := (h (pT m) hk hl hb).2.2
    rw [(rm_back hk (Sm.refl 8 _) g1 g3).1] at h1
    cases h1
  · have hk2 : Okk 8 (pT M) := okk_msg (fine_of h4 h3 h2) (pT_is M)
    have e : encF 8 (pT m) ++ [] = encF 8 (pT M) ++ [] := by
      rw [List.append_nil, List.append_nil]
      show bytesM m = bytesM M
      rw [hb, h5]
    obtain rfl := sm_msg g1 h2 (pT_is m) (pT_is M) (encF_inj 8 _ _ [] [] hk hk2 e).1
    exact ⟨p, rfl, h1⟩
end Go.Proofs.YtchmiiclogmheaaDoor.C2
