/-
  An item that came in, as the walks want it.
-/
import Derived.Test.YtchmiiclogmheaaDoorCEncode
import Derived.OpenShut
import Derived.ChangeArms
import Derived.Deep.Slices
import Derived.SizedLaws
namespace Go.Proofs.YtchmiiclogmheaaDoor.C2
open Go.RowKit
open Go.Deep (open_slice choose_lt)
set_option maxRecDepth 100000 in
theorem cells25 : Tryd.prog.cellsOf 54 = 4 := by kernel_rfl
theorem cells3 : Tryd.prog.cellsOf 3 = 1 := by kernel_rfl
theorem cells22 : Tryd.prog.cellsOf 39 = 1 := by kernel_rfl
set_option maxRecDepth 100000 in
theorem cells9' : Tryd.prog.cellsOf 9 = 1 := by kernel_rfl
theorem cells23 : Tryd.prog.cellsOf 52 = 1 := by kernel_rfl
theorem bytes25 : Tryd.prog.bytesOf 54 = 56 := by kernel_rfl
instance : Inhabited T := ⟨T.zero⟩
section
variable {H : Type} {enc : TypeId × Value → H} {W : World} {base : Nat} {spare : Nat → Bool} {held : Bool}
set_option maxRecDepth 100000 in
theorem trod_item {fuel : Nat} {cs : List Value} {x : DataW H × List MemPlace} (h : DataW.trod enc Tryd.prog W base spare held fuel 54 cs = some x) :
    ∃ (k n : Int) (s : ByteArray) (v : Value) (y : DataW H × List MemPlace) (m : Nat), cs = [.int .i64 k, .int .u64 n, .string s, v] ∧ (Lit.int .u64 n).wf = true ∧ x.1 = .agg [.lit (.int .i64 k), .lit (.int .u64 n), .lit (.string s.data.toList), y.1] ∧ DataW.trod enc Tryd.prog W base spare held m 52 [v] = some y := by
  obtain ⟨xs, n, _, rfl, hl, hlen, hf⟩ := DataW.trod_struct Tryd.underlying54 h
  rw [cells25] at hl
  match cs, hl with
  | [c0, c1, c2, c3], _ =>
    match xs, hlen with
    | [y0, y1, y2, y3], _ =>
      have f0 := hf 0 _ rfl
      have f1 := hf 1 _ rfl
      have f2 := hf 2 _ rfl
      have f3 := hf 3 _ rfl
      simp [cells3, cells22, cells9', cells23] at f0 f1 f2 f3
      obtain ⟨k, e0, g0, _⟩ := DataW.trod_int Tryd.underlying3 f0
      obtain ⟨u, e1, g1, w1⟩ := DataW.trod_int Tryd.underlying39 f1
      obtain ⟨s, e2, g2, _⟩ := DataW.trod_string Tryd.underlying9 f2
      simp at e0 e1 e2
      subst e0 e1 e2 g0 g1 g2
      exact ⟨k, u, s, c3, y3, n, rfl, w1, rfl, f3⟩
/-- The item's cells. -/
def T.cells (t : T) : List Value := [.int .i64 t.k, .int .u64 t.n, .string t.s, .slice t.a t.l.length t.cap]
set_option maxRecDepth 100000 in
theorem mem_all {P : Program} {e : TypeId} {ds : List (DataW H)} {d : DataW H} {q : Nat} (hd : d ∈ ds) (hq : q ∈ d.weights P e) : q ∈ DataW.weightsAll P e ds := by
  induction ds with
  | nil => cases hd
  | cons x r ih =>
    unfold DataW.weightsAll
    rcases List.mem_cons.1 hd with rfl | h
    · exact List.mem_append_left _ hq
    · exact List.mem_append_right _ (ih h)
set_option maxRecDepth 100000 in
theorem agg_weights (k n : Int) (l : List UInt8) (d : DataW H) : (DataW.agg [.lit (.int .i64 k), .lit (.int .u64 n), .lit (.string l), d]).weights Tryd.prog 54 = l.length :: (d.weights Tryd.prog 52 ++ []) := by
  rw [DataW.weights.eq_def]
  simp only [Tryd.underlying54]
  rfl
set_option maxRecDepth 100000 in
theorem item_in (f : Nat) : ∀ (fuel : Nat) (cs : List Value) (x : DataW H × List MemPlace), DataW.trod enc Tryd.prog W base spare held fuel 54 cs = some x → (∀ q ∈ x.1.weights Tryd.prog 54, q ≤ reachBytes) → ∃ t : T, cs = t.cells ∧ InF W f t := by
  induction f with
  | zero =>
    intro fuel cs x h _
    obtain ⟨k, n, s, v, y, m, rfl, hn, hx, hy⟩ := trod_item h
    rcases open_slice Tryd.underlying52 hy with ⟨hv, _⟩ | ⟨a, len, cap, mm, nn, D, Pl, hv, _⟩
    · simp at hv
      subst hv
      exact ⟨.mk k n s none 0 [], rfl, trivial⟩
    · simp at hv
      subst hv
      exact ⟨.mk k n s (some a) cap (List.replicate len T.zero), by simp [T.cells, T.k, T.n, T.s, T.a, T.l, T.cap], trivial⟩
  | succ f ih =>
    intro fuel cs x h hw
    obtain ⟨k, n, s, v, y, m, rfl, hn, hx, hy⟩ := trod_item h
    have hwx : x.1.weights Tryd.prog 54 = (s.data.toList.length :: (y.1.weights Tryd.prog 52 ++ [])) := by
      rw [hx]
      exact agg_weights _ _ _ _
    rw [hwx, List.append_nil] at hw
    have hs : s.size ≤ 140737488355328 := by
      have := hw _ List.mem_cons_self
      unfold reachBytes at this
      simp at this; omega
    have hnb : 0 ≤ n ∧ n ≤ 18446744073709551615 := by
      have e1 : IntKind.u64.min = 0 := rfl
      have e2 : IntKind.u64.max = 18446744073709551615 := rfl
      simp [Lit.wf, e1, e2] at hn
      exact hn
    rcases open_slice Tryd.underlying52 hy with ⟨hv, _⟩ | ⟨a, len, cap, mm, nn, D, Pl, hv, hba, hlc, hcm, hmm, hyx, hel⟩
    · simp at hv
      subst hv
      exact ⟨.mk k n s none 0 [], rfl, ⟨hnb.1, hnb.2, hs, by simp [T.l]⟩, fun h => absurd h (by simp [T.l]), fun j h => absurd h (by simp [T.l])⟩
    · simp at hv
      subst hv
      have hlm : len ≤ mm := by rw [hmm]; split <;> omega
      rw [cells25] at hel
      have hwy : ∀ q ∈ DataW.weights Tryd.prog 52 y.1, q ≤ reachBytes := fun q hq => hw q (List.mem_cons_of_mem _ hq)
      rw [hyx] at hwy
      rw [DataW.weights.eq_def] at hwy
      simp only [Tryd.underlying52] at hwy
      have hlen : len ≤ 140737488355328 := by
        have := hwy _ List.mem_cons_self
        rw [bytes25] at this
        simp only [List.length_map, List.length_range, reachBytes] at this
        omega
      obtain ⟨V, hV⟩ := choose_lt (α := T) (n := len) (p := fun i t => Tryd.prog.cellsOf 54 = 4 ∧ W.cells? base (a.add (i * 4)) 4 = some t.cells ∧ InF W f t) (fun i hi => by
        obtain ⟨cs', hc, ht⟩ := hel i (by omega)
        obtain ⟨t, rfl, hin⟩ := ih nn cs' (D i, Pl i) ht (fun q hq => hwy q (by
          apply List.mem_cons_of_mem
          apply List.mem_append_left
          exact mem_all (List.mem_map.2 ⟨i, List.mem_range.2 hi, rfl⟩) hq))
        exact ⟨t, cells25, hc, hin⟩)
      refine ⟨.mk k n s (some a) cap ((List.range len).map V), by simp [T.cells, T.k, T.n, T.s, T.a, T.l, T.cap], ⟨hnb.1, hnb.2, hs, by simp [T.l]; exact hlen⟩, ?_, ?_⟩
      · intro h0
        have h0' : 0 < len := by simpa [T.l] using h0
        obtain ⟨b, off, spot⟩ := a
        have hc0 := (World.cells?_some (hV 0 h0').2.1).2.2 0 (by decide)
        have hspot : spot = none := by
          have e : W.cell? ((((⟨b, off, spot⟩ : Addr).add (0 * 4))).add 0) = some (.int .i64 (V 0).k) := hc0
          simpa [Addr.add] using World.cell?_spot e
        subst hspot
        refine ⟨b, off, rfl, fun j hj => ?_⟩
        have hj' : j < len := by simpa [T.l] using hj
        have hcj := (World.cells?_some (hV j hj').2.1).2.2
        have e : (T.mk k n s (some ⟨b, off, none⟩) cap ((List.range len).map V)).l[j] = V j := by simp [T.l]
        rw [e]
        have e0 := hcj 0 (by decide)
        have e1 := hcj 1 (by decide)
        have e2 := hcj 2 (by decide)
        have e3 := hcj 3 (by decide)
        rw [Go.WideShapes.add_plain, Go.WideShapes.add_plain] at e0 e1 e2 e3
        exact ⟨e0, e1, e2, e3⟩
      · intro j hj
        have hj' : j < len := by simpa [T.l] using hj
        have e : (T.mk k n s (some a) cap ((List.range len).map V)).l[j] = V j := by simp [T.l]
        rw [e]
        exact (hV j hj').2.2
end
end Go.Proofs.YtchmiiclogmheaaDoor.C2
