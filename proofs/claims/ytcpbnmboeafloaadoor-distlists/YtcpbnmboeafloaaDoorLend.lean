/-
  Contract of the book's LendDists: the list copied, with a mark behind it.
-/
import Derived.Test.YtcpbnmboeafloaaDoorSum
import Derived.Laws.AppendOwnNone
import Derived.Lib.Hide
namespace Go.Proofs.YtcpbnmboeafloaaDoor
open Go.RowKit
theorem info23 : (Tryd.prog.info? 23).map (fun i => (i.zero, i.size, i.bytes)) = some (some (.int .u64 0), 1, 8) := by kernel_rfl
/-- The members as cells. -/
def cellsD (l : List Int) : List Value := l.map (Value.int .u64)
theorem cellsD_len (l : List Int) : (cellsD l).length = l.length := by unfold cellsD; simp
theorem cellsD_at {l : List Int} {j : Nat} {u : Value} (h : (cellsD l)[j]? = some u) : j < l.length ∧ u = .int .u64 (l.getD j 0) := by
  unfold cellsD at h
  rw [List.getElem?_map] at h
  obtain ⟨x, hx, rfl⟩ := Option.map_eq_some_iff.1 h
  obtain ⟨hj, rfl⟩ := List.getElem?_eq_some_iff.1 hx
  exact ⟨hj, by simp [List.getD, List.getElem?_eq_getElem hj]⟩
theorem cellsD_one (l : List Int) : ∀ u ∈ cellsD l, u.oneCell' = true := by
  intro u hu
  unfold cellsD at hu
  obtain ⟨x, _, rfl⟩ := List.mem_map.1 hu
  rfl
theorem one_u64 (x : Int) : ∀ u ∈ [Value.int .u64 x], u.oneCell' = true := by intro u hu; simp at hu; subst hu; rfl
theorem own_shape {w : World} {base : Nat} {v : Value} {n : Nat} {xs : List Value} (h : w.ownsRow base 23 1 v n xs) (hn : v ≠ .slice none 0 0) : ∃ g c, v = .slice (some ⟨g, 0, none⟩) n c ∧ base ≤ g ∧ n ≤ c ∧ g < w.heap.size ∧ c ≤ 9223372036854775807 := by
  rcases h.2 with ⟨h', _⟩ | ⟨g, c, cur, h', hb, hg, hnc, hm, _⟩
  · exact absurd h' hn
  · exact ⟨g, c, h', hb, hnc, lt_of_block hg, hm⟩
theorem news_old {w : World} {ad : Addr} {l : List Int} (o : Obj) (hc : ∀ j, j < l.length → w.cell? (ad.add j) = some (.int .u64 (l.getD j 0))) : ∀ j u, (cellsD l)[j]? = some u → (w.alloc o).cell? (ad.add j) = some u := by
  intro j u hu
  obtain ⟨hj, rfl⟩ := cellsD_at hu
  have h := hc j hj
  rw [World.cell?_alloc_lt]
  · exact h
  · exact World.block_lt_of_cell? _ _ h
theorem news_one (w : World) (x : Value) : ∀ j u, [x][j]? = some u → (w.alloc (.cells #[x] 23)).cell? ((⟨w.heap.size, 0, none⟩ : Addr).add j) = some u := by
  intro j u hu
  match j, hu with
  | 0, hu => simp at hu; subst hu; simp [Addr.add]
set_option maxHeartbeats 400000 in
theorem lend_some (ad : Addr) (l : List Int) (cap : Nat) (w : World) (hlen : l.length * 8 ≤ 140737488351232) (hc : ∀ j, j < l.length → w.cell? (ad.add j) = some (.int .u64 (l.getD j 0))) :
    Calls Tryd.prog 15 #[.slice (some ad) l.length cap] w fun e w' => ∃ g c, e = .returned (.slice (some ⟨g, 0, none⟩) l.length c) ∧ l.length < c ∧ w'.ownsRow w.heap.size 23 1 (.slice (some ⟨g, 0, none⟩) (l.length + 1) c) (l.length + 1) (cellsD l ++ [.int .u64 77]) ∧ Below w.heap.size w w' := by
  obtain ⟨i0, hi, hz0, hz1, hz2⟩ := info_parts info23
  have HN := Lib.hid (news_old (.cells #[] 23) hc)
  clear hc
  have hl := cellsD_len l
  have HL := Lib.hid hl
  clear hl
  have hmax : l.length + 1 ≤ 9223372036854775807 := by omega
  go_enter Tryd.func15, Tryd.ntmps15
  go_wp2_with (first
    | (at_builtin; refine wpList_append_own _ rfl (.tmp 4) (.tmp 5) 31 rfl w.heap.size 23 i0 (.int .u64 0) 1 8 Tryd.underlying31 hi hz0 hz1 hz2 rfl (by decide) (.slice (some ⟨w.heap.size, 0, none⟩) 0 0) 0 [] rfl (World.ownsRow_lit w #[] 0 (Nat.le_refl _) (by decide) rfl) ad l.length cap (cellsD l) rfl (by rw [HL.out, Nat.mul_one]) HN.out (cellsD_one l) (by unfold maxLen; omega) (by omega) (by simp) ?_; intro v1 w1 hown1 hgrow1 hnil1; obtain ⟨g1, c1, hv1, hg1, hc1, hs1, hm1⟩ := own_shape hown1 (fun e => by have := hnil1.1 e; simp at this); rw [hv1] at hown1 ⊢; clear hnil1 hv1; simp only [Nat.zero_add, List.nil_append] at hown1 hc1 ⊢)
    | (at_builtin; refine wpList_append_own _ rfl (.tmp 7) (.tmp 8) 31 rfl w.heap.size 23 i0 (.int .u64 0) 1 8 Tryd.underlying31 hi hz0 hz1 hz2 rfl (by decide) (.slice (some ⟨g1, 0, none⟩) l.length c1) l.length (cellsD l) rfl (hown1.alloc _) ⟨w1.heap.size, 0, none⟩ 1 1 [.int .u64 77] rfl rfl (news_one w1 _) (one_u64 77) (by unfold maxLen; omega) (by omega) (by simp; omega) ?_; intro v2 w2 hown2 hgrow2 hnil2; obtain ⟨g2, c2, hv2, hg2, hc2, hs2, hm2⟩ := own_shape hown2 (fun e => by have := hnil2.1 e; simp at this); rw [hv2] at hown2 ⊢; clear hnil2 hv2))
  go_ret
  exact ⟨g2, c2, rfl, hc2, hown2, (((Below.refl w.heap.size w).alloc (Nat.le_refl _) _).grown hgrow1 (by simp) (by intro k hk; cases hk; exact Nat.le_refl _) |>.alloc (by omega) _).grown hgrow2 (by simp; omega) (by intro k hk; cases hk; exact hg1)⟩
set_option maxHeartbeats 400000 in
theorem lend_nil (w : World) :
    Calls Tryd.prog 15 #[.slice none 0 0] w fun e w' => ∃ g c, e = .returned (.slice (some ⟨g, 0, none⟩) 0 c) ∧ 0 < c ∧ w'.ownsRow w.heap.size 23 1 (.slice (some ⟨g, 0, none⟩) 1 c) 1 [.int .u64 77] ∧ Below w.heap.size w w' := by
  obtain ⟨i0, hi, hz0, hz1, hz2⟩ := info_parts info23
  have hown1 := World.ownsRow_lit (base := w.heap.size) (e := 23) (size := 1) w #[] 0 (Nat.le_refl _) (by decide) rfl
  go_enter Tryd.func15, Tryd.ntmps15
  go_wp2_with (first
    | (at_builtin; refine wpList_append_own_none rfl (.tmp 4) (.tmp 5) 31 rfl w.heap.size 23 i0 1 Tryd.underlying31 hi (.slice (some ⟨w.heap.size, 0, none⟩) 0 0) 0 [] rfl hown1 rfl ?_)
    | (at_builtin; refine wpList_append_own _ rfl (.tmp 7) (.tmp 8) 31 rfl w.heap.size 23 i0 (.int .u64 0) 1 8 Tryd.underlying31 hi hz0 hz1 hz2 rfl (by decide) (.slice (some ⟨w.heap.size, 0, none⟩) 0 0) 0 [] rfl (hown1.alloc _) ⟨w.heap.size + 1, 0, none⟩ 1 1 [.int .u64 77] rfl rfl (by have h := news_one (w.alloc (.cells #[] 23)) (.int .u64 77); simpa using h) (one_u64 77) (by decide) (by omega) (by simp; omega) ?_; intro v2 w2 hown2 hgrow2 hnil2; obtain ⟨g2, c2, hv2, hg2, hc2, hs2, hm2⟩ := own_shape hown2 (fun e => by have := hnil2.1 e; simp at this); rw [hv2] at hown2 ⊢; clear hnil2 hv2; simp only [Nat.zero_add, List.nil_append] at hown2 hc2 ⊢))
  go_ret
  exact ⟨g2, c2, rfl, hc2, hown2, (((Below.refl w.heap.size w).alloc (Nat.le_refl _) _).alloc (by simp) _).grown hgrow2 (by simp; omega) (by intro k hk; cases hk; exact Nat.le_refl _)⟩
end Go.Proofs.YtcpbnmboeafloaaDoor
