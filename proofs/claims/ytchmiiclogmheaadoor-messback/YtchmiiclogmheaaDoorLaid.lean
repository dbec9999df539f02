/-
  What the listed variable, as the program's text lays it, gives the walks.
-/
import Derived.Test.YtchmiiclogmheaaDoorRows
import Derived.Test.YtchmiiclogmheaaDoorMe0
import Derived.LaidMore
import Derived.OpenShut
namespace Go.Proofs.YtchmiiclogmheaaDoor.C2
open Go.RowKit
theorem gFields : Tryd.prog.globalNamed "flyover/mess.fieldsOf" = some 0 := by kernel_rfl
theorem gFieldsType : (Tryd.prog.globals[0]?).map (·.type) = some 77 := by kernel_rfl
theorem cells76L : Tryd.prog.cellsOf 76 = 1 := by kernel_rfl
theorem cells77L : Tryd.prog.cellsOf 77 = 5 := by kernel_rfl
theorem cells73L : Tryd.prog.cellsOf 73 = 1 := by kernel_rfl
section
variable {H : Type} {enc : TypeId × Value → H} {w : World} {base : Nat} {sp : Nat → Bool} {held : Bool}
/-- The cells of a laid array of five, one by one, each with its reading. -/
theorem five_open {fuel : Nat} {cs : List Value} {d0 d1 d2 d3 d4 : DataW H} {p : List MemPlace} (h : DataW.trod enc Tryd.prog w base sp held fuel 77 cs = some (.agg [d0, d1, d2, d3, d4], p)) (i : Nat) (hi : i < 5) :
    ∃ v n q, cs[i]? = some v ∧ DataW.trod enc Tryd.prog w base sp held n 76 [v] = some ([d0, d1, d2, d3, d4].getD i .nil, q) := by
  cases fuel with
  | zero => simp [DataW.trod] at h
  | succ fuel =>
    simp only [DataW.trod, Tryd.underlying77, cells76L, cells77L, Nat.mul_one] at h
    split at h
    · rename_i hl
      obtain ⟨xs, hm, hx⟩ := Option.map_eq_some_iff.1 h
      have hxs : xs.map (·.1) = [d0, d1, d2, d3, d4] := by
        have := congrArg Prod.fst hx
        simpa using this
      obtain ⟨b, hb, hf⟩ := Lib.mapM_at hm i i (by simp [hi])
      have hb1 : ([d0, d1, d2, d3, d4] : List (DataW H)).getD i .nil = b.1 := by
        rw [← hxs]
        simp [List.getD, hb]
      have hv : ∃ v, cs[i]? = some v := ⟨cs[i]'(by omega), List.getElem?_eq_getElem (by omega)⟩
      obtain ⟨v, hv⟩ := hv
      have hc : (cs.drop i).take 1 = [v] := by
        obtain ⟨h1, h2⟩ := List.getElem?_eq_some_iff.1 hv
        rw [List.drop_eq_getElem_cons h1, h2]
        rfl
      rw [hc] at hf
      exact ⟨v, _, b.2, hv, by rw [hf, hb1]⟩
    · cases h
/-- A laid list of numbers. -/
theorem nums_open {fuel : Nat} {v : Value} {zs : List Int} {p : List MemPlace} (hz : zs ≠ []) (h : DataW.trod enc Tryd.prog w base sp held fuel 76 [v] = some (.slice (zs.map fun z => .lit (.int .i64 z)) [], p)) :
    ∃ b o c, v = .slice (some ⟨b, o, none⟩) zs.length c ∧ ∀ j, j < zs.length → w.cell? ⟨b, o + j, none⟩ = some (.int .i64 (zs.getD j 0)) := by
  obtain ⟨a, cap, hcs, hlc, hel⟩ := open_row Tryd.underlying76 cells73L h
  rw [List.length_map] at hcs
  have hat : ∀ j, j < zs.length → w.cell? (a.add j) = some (.int .i64 (zs.getD j 0)) := by
    intro j hj
    obtain ⟨c, n, q, hc, ht⟩ := hel j (.lit (.int .i64 (zs.getD j 0))) (by rw [List.getElem?_map, List.getElem?_eq_getElem hj, List.getD_eq_getElem?_getD, List.getElem?_eq_getElem hj]; rfl)
    obtain ⟨z, e, hz, _⟩ := DataW.trod_int Tryd.underlying73 ht
    simp at e
    subst e
    have hz : zs.getD j 0 = z := by have h9 := congrArg Prod.fst hz; simpa using h9
    rw [hc, hz]
  have h0 : 0 < zs.length := List.length_pos_iff.2 hz
  obtain ⟨b, off, spot⟩ := a
  have hspot : spot = none := World.cell?_spot (hat 0 h0)
  subst hspot
  refine ⟨b, off, cap, (List.cons.inj hcs).1, fun j hj => ?_⟩
  have := hat j hj
  rw [Go.WideShapes.add_plain] at this
  exact this
end
theorem of_laid {W : World} (h : laidMetH Tryd.prog [("flyover/mess.fieldsOf", Rows.laid_flyover_mess_fieldsOf)] W) : Flds W := by
  rw [MakeChecks.laidMetH_plain _ _ _ (by kernel_rfl)] at h
  obtain ⟨ps, ⟨g', t', cs, fuel, p, q, hg', ht', hvar, hd, _, _⟩, _⟩ := h
  obtain rfl := Option.some.inj (gFields.symm.trans hg')
  obtain rfl := Option.some.inj (gFieldsType.symm.trans ht')
  have hcell : ∀ i v, cs.toList[i]? = some v → W.cell? ⟨0, i, none⟩ = some v := fun i v hv => by
    rw [World.var?_cell gFields hvar i]
    simpa using hv
  refine ⟨?_, fun i h1 h4 => ?_⟩
  · obtain ⟨v, n, q, hv, ht⟩ := five_open hd 0 (by decide)
    rcases DataW.trod_slice Tryd.underlying76 ht with ⟨hcs, _⟩ | ⟨_, _, _, _, _, _, _, _, hx, _⟩
    · rw [hcell 0 v hv, (List.cons.inj hcs).1]
    · cases hx
  · have : i = 1 ∨ i = 2 ∨ i = 3 ∨ i = 4 := by omega
    rcases this with rfl | rfl | rfl | rfl
    all_goals (first | (obtain ⟨v, n, q, hv, ht⟩ := five_open hd 1 (by decide); obtain ⟨b, o, c, rfl, hb⟩ := nums_open (zs := [0, 1, 2, 7, 8]) (by decide) ht; exact ⟨b, o, c, hcell 1 _ hv, hb⟩) | (obtain ⟨v, n, q, hv, ht⟩ := five_open hd 2 (by decide); obtain ⟨b, o, c, rfl, hb⟩ := nums_open (zs := [0, 1, 2, 9]) (by decide) ht; exact ⟨b, o, c, hcell 2 _ hv, hb⟩) | (obtain ⟨v, n, q, hv, ht⟩ := five_open hd 3 (by decide); obtain ⟨b, o, c, rfl, hb⟩ := nums_open (zs := [3, 0, 4, 5, 6, 7]) (by decide) ht; exact ⟨b, o, c, hcell 3 _ hv, hb⟩) | (obtain ⟨v, n, q, hv, ht⟩ := five_open hd 4 (by decide); obtain ⟨b, o, c, rfl, hb⟩ := nums_open (zs := [3, 0, 6, 9]) (by decide) ht; exact ⟨b, o, c, hcell 4 _ hv, hb⟩))
end Go.Proofs.YtchmiiclogmheaaDoor.C2
