/-
  Contracts of graph.around, and of graph.Out and graph.In.
-/
import Derived.Test.YtkhgnefnmibomaaLists
namespace Go.Proofs.Ytkhgnefnmibomaa
open Go.RowKit
/-- What is told of a vertex. -/
def outE (N : Int) (l : List A) (v : Int) : Int := if chkE N l = 0 then (if okV N v then 0 else 5) else chkE N l
def outL (N : Int) (l : List A) (v : Int) (xs : List Int) : List Int := if outE N l v = 0 then xs else []
/-- A list of numbers that a call made. -/
def Made (w w' : World) (e : Ending) (xs : List Int) (E : Int) : Prop :=
  ∃ a c, e = .returned (.tuple #[.slice a xs.length c, .int .i64 E]) ∧ w'.ownsRow w.heap.size 3 1 (.slice a xs.length c) xs.length (cellsI xs) ∧ Below w.heap.size w w'
theorem made_nil {w w' : World} {E : Int} (hb : Below w.heap.size w w') : Made w w' (.returned (.tuple #[.slice none 0 0, .int .i64 E])) [] E :=
  ⟨none, 0, rfl, World.ownsRow_nil _ _ _ _, hb⟩
theorem own_slice {w : World} {base : Nat} {e : TypeId} {size : Nat} {v : Value} {n : Nat} {xs : List Value} (h : w.ownsRow base e size v n xs) : ∃ a c, v = .slice a n c := by
  rcases h.2 with ⟨rfl, rfl⟩ | ⟨g, c, cur, rfl, _⟩
  · exact ⟨none, 0, rfl⟩
  · exact ⟨_, c, rfl⟩
theorem own_base {w : World} {base base' : Nat} {e : TypeId} {size : Nat} {v : Value} {n : Nat} {xs : List Value} (h : w.ownsRow base e size v n xs) (hb : base' ≤ base) : w.ownsRow base' e size v n xs := by
  refine ⟨h.1, ?_⟩
  rcases h.2 with h' | ⟨g, c, cur, h1, h2, h3⟩
  · exact Or.inl h'
  · exact Or.inr ⟨g, c, cur, h1, Nat.le_trans hb h2, h3⟩
theorem filled_new (w : World) : Filled (w.alloc (.cells #[.slice none 0 0] 65)) w.heap.size [] := ⟨_, heap_top w _, World.ownsRow_nil _ _ _ _, fun _ => rfl⟩
theorem made_up {w w' : World} {o : Obj} {e : Ending} {xs : List Int} {E : Int} (h : Made (w.alloc o) w' e xs E) : Made w w' e xs E := by
  obtain ⟨a, c, he, ho, hb⟩ := h
  exact ⟨a, c, he, own_base ho (by simp), bthen ((Below.refl _ _).alloc (Nat.le_refl _) _) hb (by simp)⟩
set_option maxHeartbeats 800000 in
theorem around37 (N v : Int) (a : Option Addr) (l : List A) (cap : Nat) (w : World) (xs : List Int) (hl : l.length ≤ 9223372036854775807) (hr : Arcs w a l)
    (H : chkE N l = 0 → okV N v = true → ∀ m w', w.heap.size ≤ m → ArcsB m w' a l → Filled w' m [] → Calls Try.prog 37 #[.agg #[.int .i64 N, .slice a l.length cap], .int .i64 v, .func (.func 50) #[.pointer (some ⟨m, 0, none⟩)] #[]] w' fun e w'' => e = .returned (.tuple #[]) ∧ Filled w'' m xs ∧ Kp m w' w'') :
    Calls Try.prog 36 #[.agg #[.int .i64 N, .slice a l.length cap], .int .i64 v, .func (.func 37) #[] #[]] w fun e w' => Made w w' e (outL N l v xs) (outE N l v) := by
  have hb0 : Below w.heap.size w (w.alloc (.cells #[.int .i64 N, .slice a l.length cap] 24)) := (Below.refl _ _).alloc (Nat.le_refl _) _
  have hr0 := hr.on hb0
  obtain ⟨T, HT⟩ := named (chkAt N l)
  by_cases hE : chkE N l = 0
  · by_cases hv : okV N v = true
    · rw [show outE N l v = 0 by simp [outE, hE, hv], show outL N l v xs = xs by simp [outL, outE, hE, hv]]
      have HH := Lib.hid (H hE hv)
      clear H
      go_enter Try.func36, Try.ntmps36
      go_wp2_with fail
      refine (check_any N a l cap _ hl hr0).mono ?_
      rintro e w1 ⟨rfl, hb1⟩
      rw [hE, HT.out]
      have hg1 := (hb1.block _ (by simp)).trans (heap_top w _)
      have b1 := bthen hb0 hb1 (by simp)
      have s1 := lt_of_block hg1
      clear hb1 hb0
      obtain ⟨⟨g0, g1⟩, gf0, gf1⟩ := two_cells hg1
      go_wp2_with fail
      refine (vert_any N v _ _ _ _).mono ?_
      rintro e w2 ⟨rfl, hb2⟩
      rw [hv]
      have hg2 := (hb2.block _ s1).trans hg1
      have b2 := bthen b1 hb2 (by omega)
      have s2 := lt_of_block hg2
      clear hb2 hg1 g0 g1 gf0 gf1 b1
      obtain ⟨⟨g0, g1⟩, gf0, gf1⟩ := two_cells hg2
      have hf3 := filled_new w2
      have hr3 : ArcsB w2.heap.size (w2.alloc (.cells #[.slice none 0 0] 65)) a l := ((hr.b.on b2).up (by omega)).on ((Below.refl _ _).alloc (Nat.le_refl _) _)
      go_wp2_with (go_at_call 37; refine (HH.out w2.heap.size _ (by omega) hr3 hf3).mono ?_; rintro e w3 ⟨rfl, hf4, hk4⟩; obtain ⟨v4, hm4, hown4, _⟩ := hf4; have c4 := cell_of_one hm4)
      obtain ⟨a4, q4, rfl⟩ := own_slice hown4
      go_ret2
      refine ⟨a4, q4, rfl, own_base hown4 (by omega), ?_⟩
      exact (b2.alloc (by omega) _).trans (hk4.1.mono (by omega))
    · have hv' : okV N v = false := by simpa using hv
      rw [show outE N l v = 5 by simp [outE, hE, hv'], show outL N l v xs = [] by simp [outL, outE, hE, hv']]
      clear H hv
      go_enter Try.func36, Try.ntmps36
      go_wp2_with fail
      refine (check_any N a l cap _ hl hr0).mono ?_
      rintro e w1 ⟨rfl, hb1⟩
      rw [hE, HT.out]
      have hg1 := (hb1.block _ (by simp)).trans (heap_top w _)
      have b1 := bthen hb0 hb1 (by simp)
      have s1 := lt_of_block hg1
      clear hb1 hb0
      obtain ⟨⟨g0, g1⟩, gf0, gf1⟩ := two_cells hg1
      go_wp2_with fail
      refine (vert_any N v _ _ _ _).mono ?_
      rintro e w2 ⟨rfl, hb2⟩
      rw [hv']
      have b2 := bthen b1 hb2 (by omega)
      go_wp2_with fail
      go_ret2
      exact made_nil b2
  · rw [show outE N l v = chkE N l by simp [outE, hE], show outL N l v xs = [] by simp [outL, outE, hE]]
    obtain ⟨E, HE⟩ := named (chkE N l)
    rw [HE.out] at hE ⊢
    have hE' : (E == 0) = false := beq_eq_false_iff_ne.2 hE
    clear H hE
    go_enter Try.func36, Try.ntmps36
    go_wp2_with fail
    refine (check_any N a l cap _ hl hr0).mono ?_
    rintro e w1 ⟨rfl, hb1⟩
    rw [HE.out, HT.out]
    have b1 := bthen hb0 hb1 (by simp)
    go_wp2_with fail
    go_ret2
    exact made_nil b1
set_option maxHeartbeats 800000 in
theorem around39 (N v : Int) (a : Option Addr) (l : List A) (cap : Nat) (w : World) (xs : List Int) (hl : l.length ≤ 9223372036854775807) (hr : Arcs w a l)
    (H : chkE N l = 0 → okV N v = true → ∀ m w', w.heap.size ≤ m → ArcsB m w' a l → Filled w' m [] → Calls Try.prog 39 #[.agg #[.int .i64 N, .slice a l.length cap], .int .i64 v, .func (.func 50) #[.pointer (some ⟨m, 0, none⟩)] #[]] w' fun e w'' => e = .returned (.tuple #[]) ∧ Filled w'' m xs ∧ Kp m w' w'') :
    Calls Try.prog 36 #[.agg #[.int .i64 N, .slice a l.length cap], .int .i64 v, .func (.func 39) #[] #[]] w fun e w' => Made w w' e (outL N l v xs) (outE N l v) := by
  have hb0 : Below w.heap.size w (w.alloc (.cells #[.int .i64 N, .slice a l.length cap] 24)) := (Below.refl _ _).alloc (Nat.le_refl _) _
  have hr0 := hr.on hb0
  obtain ⟨T, HT⟩ := named (chkAt N l)
  by_cases hE : chkE N l = 0
  · by_cases hv : okV N v = true
    · rw [show outE N l v = 0 by simp [outE, hE, hv], show outL N l v xs = xs by simp [outL, outE, hE, hv]]
      have HH := Lib.hid (H hE hv)
      clear H
      go_enter Try.func36, Try.ntmps36
      go_wp2_with fail
      refine (check_any N a l cap _ hl hr0).mono ?_
      rintro e w1 ⟨rfl, hb1⟩
      rw [hE, HT.out]
      have hg1 := (hb1.block _ (by simp)).trans (heap_top w _)
      have b1 := bthen hb0 hb1 (by simp)
      have s1 := lt_of_block hg1
      clear hb1 hb0
      obtain ⟨⟨g0, g1⟩, gf0, gf1⟩ := two_cells hg1
      go_wp2_with fail
      refine (vert_any N v _ _ _ _).mono ?_
      rintro e w2 ⟨rfl, hb2⟩
      rw [hv]
      have hg2 := (hb2.block _ s1).trans hg1
      have b2 := bthen b1 hb2 (by omega)
      have s2 := lt_of_block hg2
      clear hb2 hg1 g0 g1 gf0 gf1 b1
      obtain ⟨⟨g0, g1⟩, gf0, gf1⟩ := two_cells hg2
      have hf3 := filled_new w2
      have hr3 : ArcsB w2.heap.size (w2.alloc (.cells #[.slice none 0 0] 65)) a l := ((hr.b.on b2).up (by omega)).on ((Below.refl _ _).alloc (Nat.le_refl _) _)
      go_wp2_with (go_at_call 39; refine (HH.out w2.heap.size _ (by omega) hr3 hf3).mono ?_; rintro e w3 ⟨rfl, hf4, hk4⟩; obtain ⟨v4, hm4, hown4, _⟩ := hf4; have c4 := cell_of_one hm4)
      obtain ⟨a4, q4, rfl⟩ := own_slice hown4
      go_ret2
      refine ⟨a4, q4, rfl, own_base hown4 (by omega), ?_⟩
      exact (b2.alloc (by omega) _).trans (hk4.1.mono (by omega))
    · have hv' : okV N v = false := by simpa using hv
      rw [show outE N l v = 5 by simp [outE, hE, hv'], show outL N l v xs = [] by simp [outL, outE, hE, hv']]
      clear H hv
      go_enter Try.func36, Try.ntmps36
      go_wp2_with fail
      refine (check_any N a l cap _ hl hr0).mono ?_
      rintro e w1 ⟨rfl, hb1⟩
      rw [hE, HT.out]
      have hg1 := (hb1.block _ (by simp)).trans (heap_top w _)
      have b1 := bthen hb0 hb1 (by simp)
      have s1 := lt_of_block hg1
      clear hb1 hb0
      obtain ⟨⟨g0, g1⟩, gf0, gf1⟩ := two_cells hg1
      go_wp2_with fail
      refine (vert_any N v _ _ _ _).mono ?_
      rintro e w2 ⟨rfl, hb2⟩
      rw [hv']
      have b2 := bthen b1 hb2 (by omega)
      go_wp2_with fail
      go_ret2
      exact made_nil b2
  · rw [show outE N l v = chkE N l by simp [outE, hE], show outL N l v xs = [] by simp [outL, outE, hE]]
    obtain ⟨E, HE⟩ := named (chkE N l)
    rw [HE.out] at hE ⊢
    have hE' : (E == 0) = false := beq_eq_false_iff_ne.2 hE
    clear H hE
    go_enter Try.func36, Try.ntmps36
    go_wp2_with fail
    refine (check_any N a l cap _ hl hr0).mono ?_
    rintro e w1 ⟨rfl, hb1⟩
    rw [HE.out, HT.out]
    have b1 := bthen hb0 hb1 (by simp)
    go_wp2_with fail
    go_ret2
    exact made_nil b1
/-- The arcs out of a vertex. -/
def outs (l : List A) (v : Int) : List Int := hits (fun k => decide ((l.getD k A.zero).f = v)) l.length
set_option maxHeartbeats 400000 in
theorem outs_any (N v : Int) (a : Option Addr) (l : List A) (cap : Nat) (w : World) (hl : l.length ≤ 9223372036854775807) (hr : Arcs w a l) :
    Calls Try.prog 12 #[.agg #[.int .i64 N, .slice a l.length cap], .int .i64 v] w fun e w' => Made w w' e (outL N l v (outs l v)) (outE N l v) := by
  have hr0 := hr.on ((Below.refl _ _).alloc (Nat.le_refl _) (.cells #[.int .i64 N, .slice a l.length cap] 24))
  have HX := Lib.hid (around37 N v a l cap _ (outs l v) hl hr0 (fun hE _ m w' _ hr' hf' => arcsOut_any m N v a l cap w' (chk_zero hE).2.2.1 hr' hf'))
  obtain ⟨xs, HXS⟩ := named (outL N l v (outs l v))
  obtain ⟨E, HE⟩ := named (outE N l v)
  rw [HXS.out, HE.out] at HX ⊢
  go_enter Try.func12, Try.ntmps12
  go_wp2_with fail
  refine HX.out.mono ?_
  rintro e w1 h1
  obtain ⟨a1, q1, rfl, hown1, hb1⟩ := made_up h1
  go_wp2_with fail
  go_ret2
  exact ⟨a1, q1, rfl, hown1, hb1⟩
/-- The arcs into a vertex. -/
def ins (l : List A) (v : Int) : List Int := hits (fun k => decide ((l.getD k A.zero).t = v)) l.length
set_option maxHeartbeats 400000 in
theorem ins_any (N v : Int) (a : Option Addr) (l : List A) (cap : Nat) (w : World) (hl : l.length ≤ 9223372036854775807) (hr : Arcs w a l) :
    Calls Try.prog 15 #[.agg #[.int .i64 N, .slice a l.length cap], .int .i64 v] w fun e w' => Made w w' e (outL N l v (ins l v)) (outE N l v) := by
  have hr0 := hr.on ((Below.refl _ _).alloc (Nat.le_refl _) (.cells #[.int .i64 N, .slice a l.length cap] 24))
  have HX := Lib.hid (around39 N v a l cap _ (ins l v) hl hr0 (fun hE _ m w' _ hr' hf' => arcsInto_any m N v a l cap w' (chk_zero hE).2.2.1 hr' hf'))
  obtain ⟨xs, HXS⟩ := named (outL N l v (ins l v))
  obtain ⟨E, HE⟩ := named (outE N l v)
  rw [HXS.out, HE.out] at HX ⊢
  go_enter Try.func15, Try.ntmps15
  go_wp2_with fail
  refine HX.out.mono ?_
  rintro e w1 h1
  obtain ⟨a1, q1, rfl, hown1, hb1⟩ := made_up h1
  go_wp2_with fail
  go_ret2
  exact ⟨a1, q1, rfl, hown1, hb1⟩
end Go.Proofs.Ytkhgnefnmibomaa
