/-
  Contracts of what the laws use to compare lists and to write over them.
-/
import Derived.Test.YtcomkdjngchmkaaLawIsCut
import Derived.Test.YtcomkdjngchmkaaRow
import Derived.LoopN
namespace Go.Proofs.Ytcomkdjngchmkaa
open Go.RowKit
/-- A list of numbers that can be read. -/
def Ri (w : World) (v : Value) (ys : List Int) : Prop := ∃ a c, v = .slice a ys.length c ∧ (ys = [] ∨ ∃ g, a = some ⟨g, 0, none⟩ ∧ g < w.heap.size ∧ ∀ j, j < ys.length → w.cell? ⟨g, j, none⟩ = some (.int .i64 (ys.getD j 0)))
theorem Ri.of {w : World} {base : Nat} {v : Value} {ys : List Int} (h : w.ownsRow base 3 1 v ys.length (cellsI ys)) : Ri w v ys := by
  obtain ⟨a, c, rfl⟩ := own_slice h
  refine ⟨a, c, rfl, ?_⟩
  by_cases h0 : ys = []
  · exact .inl h0
  · have hp : 0 < ys.length := by
      cases ys with
      | nil => exact absurd rfl h0
      | cons => simp
    obtain ⟨g, rfl, hg, _, _⟩ := own_cell h rfl hp
    refine .inr ⟨g, rfl, hg, fun j hj => ?_⟩
    obtain ⟨g', e, _, _, hc⟩ := own_cell h rfl hj
    injection e with e
    injection e with e
    subst e
    exact hc
theorem Ri.on {w w' : World} {v : Value} {ys : List Int} (h : Ri w v ys) (hb : Below w.heap.size w w') : Ri w' v ys := by
  obtain ⟨a, c, rfl, h⟩ := h
  refine ⟨a, c, rfl, ?_⟩
  rcases h with h | ⟨g, h1, h2, h3⟩
  · exact .inl h
  · exact .inr ⟨g, h1, Nat.lt_of_lt_of_le h2 hb.size, fun j hj => (hb.cell (p := ⟨g, j, none⟩) h2).trans (h3 j hj)⟩
theorem drewN_below (B : Nat) (w : World) (k : Nat) : Below B w (w.drewN k) := ⟨rfl, rfl, rfl, Nat.le_refl _, fun _ _ => rfl⟩
set_option maxHeartbeats 800000 in
theorem sameInts_any (v1 v2 : Value) (ys : List Int) (w : World) (hl : ys.length ≤ 16384) (h1 : Ri w v1 ys) (h2 : Ri w v2 ys) :
    Calls Try.prog 17 #[v1, v2] w fun e w' => e = .returned (.bool true) ∧ Below w.heap.size w w' := by
  obtain ⟨a1, c1, rfl, h1⟩ := h1
  obtain ⟨a2, c2, rfl, h2⟩ := h2
  have H1 := Lib.hid h1
  have H2 := Lib.hid h2
  have hne : ((ys.length : Int) != ys.length) = false := by simp
  clear h1 h2
  go_enter Try.func17, Try.ntmps17
  go_wp2_with fail
  go_loopw [5] (fun i wr => ∃ k : Nat, k ≤ ys.length ∧ i = .int .i64 k ∧ Hid (Below w.heap.size w wr)) (fun i _ => ys.length - (intOf i).toNat)
  case atStart => exact ⟨0, Nat.zero_le _, rfl, Below.refl _ _⟩
  case round =>
    obtain ⟨k, hk, rfl, HB⟩ := hrel
    by_cases hlt : k < ys.length
    · rcases H1.out with h | ⟨g1, rfl, hg1, hc1⟩
      · rw [h] at hlt; simp at hlt
      · rcases H2.out with h | ⟨g2, rfl, hg2, hc2⟩
        · rw [h] at hlt; simp at hlt
        · have d1 := (HB.out.cell (p := ⟨g1, k, none⟩) hg1).trans (hc1 k hlt)
          have d2 := (HB.out.cell (p := ⟨g2, k, none⟩) hg2).trans (hc2 k hlt)
          have hlt' : (k : Int) < ys.length := by omega
          generalize ys.getD k 0 = y at *
          have hyy : (y != y) = false := by simp
          clear hc1 hc2
          go_wp2_with fail
          go_quiet (fail)
          go_wp2_with fail
          exact ⟨⟨k + 1, hlt, by go_num, HB.out.trans (drewN_below _ _ _)⟩, by simp [intOf]; omega⟩
    · have hge : ¬ (k : Int) < ys.length := by omega
      go_wp2_with fail
      go_ret
      exact ⟨rfl, HB.out⟩
set_option maxHeartbeats 800000 in
theorem sameBools_any (b1 b2 n : Nat) (F G : Nat → Bool) (w : World) (hl : n ≤ 16384) (h1 : TbV w b1 n 4 (fun v => .bool (F v))) (h2 : TbV w b2 n 4 (fun v => .bool (G v))) (he : ∀ v, v < n → F v = G v) :
    Calls Try.prog 16 #[.slice (some ⟨b1, 0, none⟩) n n, .slice (some ⟨b2, 0, none⟩) n n] w fun e w' => e = .returned (.bool true) ∧ Below w.heap.size w w' := by
  have H1 := Lib.hid h1
  have H2 := Lib.hid h2
  have HE := Lib.hid he
  have hne : ((n : Int) != n) = false := by simp
  clear h1 h2 he
  go_enter Try.func16, Try.ntmps16
  go_wp2_with fail
  go_loopw [5] (fun i wr => ∃ k : Nat, k ≤ n ∧ i = .int .i64 k ∧ Hid (Below w.heap.size w wr)) (fun i _ => n - (intOf i).toNat)
  case atStart => exact ⟨0, Nat.zero_le _, rfl, Below.refl _ _⟩
  case round =>
    obtain ⟨k, hk, rfl, HB⟩ := hrel
    by_cases hlt : k < n
    · have d1 := (H1.out.same (HB.out.block b1 H1.out.lt)).cell hlt
      have d2 := (H2.out.same (HB.out.block b2 H2.out.lt)).cell hlt
      rw [← HE.out k hlt] at d2
      have hlt' : (k : Int) < n := by omega
      generalize F k = y at *
      have hyy : (y != y) = false := by simp
      go_wp2_with fail
      go_quiet (fail)
      go_wp2_with fail
      exact ⟨⟨k + 1, hlt, by go_num, HB.out.trans (drewN_below _ _ _)⟩, by simp [intOf]; omega⟩
    · have hge : ¬ (k : Int) < n := by omega
      go_wp2_with fail
      go_ret
      exact ⟨rfl, HB.out⟩
set_option maxHeartbeats 400000 in
theorem sameBools_none (w : World) : Calls Try.prog 16 #[.slice none 0 0, .slice none 0 0] w fun e w' => e = .returned (.bool true) ∧ w' = w := by
  go_enter Try.func16, Try.ntmps16
  go_wp2_with fail
  refine wp_loop_rounds 1 ?_
  rw [rounds_succ]
  go_wp2_with fail
  go_ret
  exact ⟨rfl, rfl⟩
set_option maxHeartbeats 400000 in
theorem spoilBools_none (w : World) : Calls Try.prog 18 #[.slice none 0 0] w fun e w' => e = .returned (.tuple #[]) ∧ w' = w := by
  go_enter Try.func18, Try.ntmps18
  go_wp2_with fail
  refine wp_loop_rounds 1 ?_
  rw [rounds_succ]
  go_wp2_with fail
  go_end0
  exact ⟨rfl, rfl⟩
set_option maxHeartbeats 800000 in
theorem spoilBools_some (b n : Nat) (w : World) (hn : n ≤ 16384) (F : Nat → Bool) (h : TbV w b n 4 (fun v => .bool (F v))) :
    Calls Try.prog 18 #[.slice (some ⟨b, 0, none⟩) n n] w fun e w' => e = .returned (.tuple #[]) ∧ Fr (fun k => k = b) w w' := by
  have H := Lib.hid h
  clear h
  go_enter Try.func18, Try.ntmps18
  go_wp2_with fail
  go_loopw [2] (fun i wr => ∃ (k : Nat) (G : Nat → Bool), k ≤ n ∧ i = .int .i64 k ∧ Hid (TbV wr b n 4 (fun v => .bool (G v))) ∧ Hid (Fr (fun k => k = b) w wr)) (fun i _ => n - (intOf i).toNat)
  case atStart => exact ⟨0, F, Nat.zero_le _, rfl, H, Fr.refl _ _⟩
  case round =>
    obtain ⟨k, G, hk, rfl, HT, HFR⟩ := hrel
    by_cases hlt : k < n
    · have d := HT.out.cell hlt
      have df := HT.out.free k
      have hlt' : (k : Int) < n := by omega
      have HN : Hid (TbV (wr.setCell ⟨b, k, none⟩ (.bool (!G k))) b n 4 (fun v => .bool (if v = k then !G k else G v))) := (HT.out.set k (.bool (!G k))).congr (fun v _ => by
        by_cases e : v = k
        · subst e; rw [updV_self, if_pos rfl]
        · rw [updV_ne _ _ e, if_neg e])
      have HF : Hid (Fr (fun k => k = b) w (wr.setCell ⟨b, k, none⟩ (.bool (!G k)))) := HFR.out.setCell ⟨b, k, none⟩ _ rfl
      generalize hgk : G k = gk at *
      go_wp2_with fail
      exact ⟨⟨k + 1, _, hlt, by go_num, HN, HF⟩, by simp [intOf]; omega⟩
    · have hge : ¬ (k : Int) < n := by omega
      go_wp2_with fail
      go_end0
      exact ⟨rfl, HFR.out⟩
theorem own_wide {w : World} {B : Nat} {e : TypeId} {size g n c : Nat} {xs : List Value} (h : w.ownsRow B e size (.slice (some ⟨g, 0, none⟩) n c) n xs) : ∃ ys, w.ownsRow B e size (.slice (some ⟨g, 0, none⟩) c c) c ys := by
  rcases h.2 with ⟨h', _⟩ | ⟨g', c', cur, h', hb, hg, hnc, hm, hcs, _⟩
  · cases h'
  · injection h' with e1 e2 e3
    injection e1 with e1
    injection e1 with e1
    subst e1 e3
    refine ⟨cur.toList.take (c * size), ?_, Or.inr ⟨g, c, cur, rfl, hb, hg, Nat.le_refl _, hm, hcs, rfl⟩⟩
    rw [List.length_take, Array.length_toList, hcs]; omega
set_option maxHeartbeats 400000 in
theorem spoilInts_none (x : Int) (w : World) : Calls Try.prog 19 #[.slice none 0 0, .int .i64 x] w fun e w' => e = .returned (.tuple #[]) ∧ w' = w := by
  go_enter Try.func19, Try.ntmps19
  go_wp2_with fail
  refine wp_loop_rounds 1 ?_
  rw [rounds_succ]
  go_wp2_with fail
  go_end0
  exact ⟨rfl, rfl⟩
set_option maxHeartbeats 400000 in
theorem spoilInts_some (g n m B : Nat) (x : Int) (xs : List Value) (w : World) (hn : n ≤ 9223372036854775807) (hown : w.ownsRow B 3 1 (.slice (some ⟨g, 0, none⟩) n n) n xs) :
    Calls Try.prog 19 #[.slice (some ⟨g, 0, none⟩) m n, .int .i64 x] w fun e w' => e = .returned (.tuple #[]) ∧ Below B w w' := by
  have hgB : B ≤ g := (hown.lt g rfl).1
  go_enter Try.func19, Try.ntmps19
  go_wp2_with fail
  go_loopw [4] (fun i wr => ∃ (k : Nat) (xs : List Value), k ≤ n ∧ i = .int .i64 k ∧ wr.ownsRow B 3 1 (.slice (some ⟨g, 0, none⟩) n n) n xs ∧ Below B w wr) (fun i _ => n - (intOf i).toNat)
  case atStart => exact ⟨0, xs, Nat.zero_le _, rfl, hown, Below.refl _ _⟩
  case round =>
    obtain ⟨k, ys, hk, rfl, ho, hbel⟩ := hrel
    by_cases hlt : k < n
    · have hyl : k < ys.length := by have := ho.1; omega
      have c2 : wr.cell? ⟨g, k, none⟩ = some ys[k] := (ho.cellAt k (by omega)).trans (List.getElem?_eq_getElem hyl)
      have f2 : wr.frozen? ⟨g, k, none⟩ = false := ho.frozenAt k
      generalize ys[k] = y at c2
      have HS := Lib.hid (ho.stored k (.int .i64 x))
      go_wp2_with fail
      exact ⟨⟨k + 1, _, by omega, by go_num, HS.out.1, hbel.setCell hgB _⟩, by simp [intOf]; omega⟩
    · go_wp2_with fail
      go_end0
      exact ⟨rfl, hbel⟩
/-- Whatever row of our own it is. -/
theorem spoilInts_any (v : Value) (ys : List Int) (B : Nat) (x : Int) (w : World) (hown : w.ownsRow B 3 1 v ys.length (cellsI ys)) : Calls Try.prog 19 #[v, .int .i64 x] w fun e w' => e = .returned (.tuple #[]) ∧ Below B w w' := by
  by_cases h : v = .slice none 0 0
  · subst h
    exact (spoilInts_none x w).mono (fun e w' ⟨h1, h2⟩ => ⟨h1, by rw [h2]; exact Below.refl _ _⟩)
  · obtain ⟨g, c, rfl, _, _, _, hm⟩ := own_shape hown h
    obtain ⟨xs, hx⟩ := own_wide hown
    exact spoilInts_some g c ys.length B x xs w hm hx
end Go.Proofs.Ytcomkdjngchmkaa
