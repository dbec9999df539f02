/-
  Contract of net.New.
-/
import Derived.Test.YtfhlfklgngpklaaOps
import Derived.Laws.MakeOwn
import Derived.Carry
namespace Go.Proofs.Ytfhlfklgngpklaa
open Go.RowKit Go.Maps
/-- A net at the start. -/
def NS.init (N : Nat) : NS := ⟨N, List.replicate N false, fun _ => [], [], 0⟩
theorem info4 : ∃ i, Try.prog.info? 4 = some i ∧ i.zero = some (.bool false) ∧ i.size = 1 ∧ i.bytes = 1 := by
  have h : (Try.prog.info? 4).map (fun i => (i.zero, i.size, i.bytes)) = some (some (.bool false), 1, 1) := by kernel_rfl
  cases hi : Try.prog.info? 4 with
  | none => rw [hi] at h; cases h
  | some i => rw [hi] at h; simp at h; exact ⟨i, rfl, h.1, h.2.1, h.2.2⟩
theorem made_bools (n : Nat) : madeCells (Value.bool false).cells (n * 1) = (boolsC (List.replicate n false)).toArray := by
  apply Array.ext'
  show (madeCells #[Value.bool false] (n * 1)).toList = _
  rw [toList_madeCells_one, Nat.mul_one]
  unfold boolsC
  rw [List.map_replicate]
theorem net_at (w : World) (N : Nat) (h1 : 1 ≤ N) (h2 : N ≤ 65) :
    NT (((w.alloc (.cells (boolsC (List.replicate N false)).toArray 4)).alloc (.map #[] 0)).alloc (.cells #[.slice (some ⟨w.heap.size, 0, none⟩) N N, .map (some (w.heap.size + 1)), .slice none 0 0, .int .i64 0] 59)) (w.heap.size + 1 + 1)
      (fun b => b = w.heap.size ∨ b = w.heap.size + 1 ∨ b = w.heap.size + 1 + 1) (NS.init N) := by
  have s1 : (w.alloc (.cells (boolsC (List.replicate N false)).toArray 4)).heap.size = w.heap.size + 1 := by simp
  have s2 : ((w.alloc (.cells (boolsC (List.replicate N false)).toArray 4)).alloc (.map #[] 0)).heap.size = w.heap.size + 1 + 1 := by simp
  refine ⟨w.heap.size, w.heap.size + 1, .slice none 0 0, fun _ => .slice none 0 0, .map [], 0, ?_, ?_, by simp [NS.init], ⟨h1, h2⟩, ?_, World.ownsRow_nil _ _ _ _, fun p _ => World.ownsRow_nil _ _ _ _, fun p _ => (by simp [DataW.atKey, slD]), fun p _ => (by simp [Maps.has, NS.init]),
    fun l hl => (by simp [Maps.has] at hl), fun p q b _ _ e => (by cases e), fun p _ => (by simp [NS.init]), by simp [NS.init], by simp [NS.init], Or.inr (Or.inr rfl), Or.inl rfl, Or.inr (Or.inl rfl), fun b e => (by cases e), fun p b _ e => (by cases e), fun b e => ?_⟩
  · rw [← s2]
    exact heap_top _ _
  · rw [Below.heap_alloc _ _ _ (by rw [s2]; omega), Below.heap_alloc _ _ _ (by rw [s1]; omega)]
    exact heap_top _ _
  · have := (World.ownsMap_made (w.alloc (.cells (boolsC (List.replicate N false)).toArray 4)) Try.prog 64 slR).alloc (.cells #[.slice (some ⟨w.heap.size, 0, none⟩) N N, .map (some (w.heap.size + 1)), .slice none 0 0, .int .i64 0] 59)
    rw [s1] at this
    exact this
  · have : (((w.alloc (.cells (boolsC (List.replicate N false)).toArray 4)).alloc (.map #[] 0)).alloc (.cells #[.slice (some ⟨w.heap.size, 0, none⟩) N N, .map (some (w.heap.size + 1)), .slice none 0 0, .int .i64 0] 59)).heap.size = w.heap.size + 1 + 1 + 1 := by simp
    rw [this]
    omega
set_option maxRecDepth 100000 in
theorem New_any (N : Nat) (w : World) (h1 : 1 ≤ N) (h2 : N ≤ 65) :
    Calls Try.prog 8 #[.int .i64 (N : Int)] w fun e w' => ∃ n P, e = .returned (.tuple #[.pointer (some ⟨n, 0, none⟩), .int .i64 0]) ∧ NT w' n P (NS.init N) ∧ (∀ b, P b → w.heap.size ≤ b) ∧ Below w.heap.size w w' := by
  have g1 : ¬ ((N : Int) < 1) := by omega
  have g2 : ¬ ((65 : Int) < N) := by omega
  have hmkB : ∀ w, (Instr.makeSlice 56 (.int .i64 N) (.int .i64 N)).run Try.prog w = .ok (.slice (some ⟨w.heap.size, 0, none⟩) N N) (w.alloc (.cells (boolsC (List.replicate N false)).toArray 4)) := fun w => by
    obtain ⟨i4, hi4, hz4, hs4, hb4⟩ := info4
    have := run_make (P := Try.prog) w 56 4 i4 (.bool false) Try.underlying56 hi4 hz4 .i64 .i64 N N (by omega) (by omega) (by rw [hb4]; omega) (by omega)
    rw [this, Int.toNat_natCast, hs4, made_bools]
  have hmkM : ∀ w, (Instr.makeMap 57 none).run Try.prog w = .ok (.map (some w.heap.size)) (w.alloc (.map #[] 0)) := fun w => run_makeMap (P := Try.prog) 57 w
  have HNET := Lib.hid (net_at w N h1 h2)
  have HB : Hid (Below w.heap.size w (((w.alloc (.cells (boolsC (List.replicate N false)).toArray 4)).alloc (.map #[] 0)).alloc (.cells #[.slice (some ⟨w.heap.size, 0, none⟩) N N, .map (some (w.heap.size + 1)), .slice none 0 0, .int .i64 0] 59))) :=
    Lib.hid ((((Below.refl _ _).alloc (Nat.le_refl _) _).alloc (by simp) _).alloc (by simp; omega) _)
  go_enter Try.func8, Try.ntmps8
  go_wp2_with fail
  go_ret2
  exact ⟨w.heap.size + 1 + 1, rfl, _, HNET.out, fun b e => (by rcases e with rfl | rfl | rfl <;> omega), HB.out⟩
theorem New_no (x : Int) (w : World) (h : x < 1 ∨ 65 < x) :
    Calls Try.prog 8 #[.int .i64 x] w fun e w' => e = .returned (.tuple #[.pointer none, .int .i64 1]) ∧ w' = w := by
  by_cases h1 : x < 1
  · clear h
    go_enter Try.func8, Try.ntmps8
    go_wp2_with fail
    go_ret2
    exact ⟨rfl, rfl⟩
  · have h2 : 65 < x := by omega
    clear h
    go_enter Try.func8, Try.ntmps8
    go_wp2_with fail
    go_ret2
    exact ⟨rfl, rfl⟩
end Go.Proofs.Ytfhlfklgngpklaa
