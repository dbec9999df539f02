/-
  The reference's net: contract of New.
-/
import Derived.Test.YtfhlfklgngpklaaR11
namespace Go.Proofs.Ytfhlfklgngpklaa
open Go.RowKit Go.Maps
def R0 (j : Nat) : RS := ⟨List.replicate j true, [], [], 0⟩
theorem boolsC_one (l : List Bool) : ∀ u ∈ boolsC l, u.oneCell' = true := by
  intro u hu
  obtain ⟨x, _, rfl⟩ := List.mem_map.1 hu
  rfl
theorem boolsC_append (l m : List Bool) : boolsC (l ++ m) = boolsC l ++ boolsC m := by unfold boolsC; simp
theorem wpList_appB {ops : Array Oper} {rest : List Oper} {o : Oper} {a : Act} {w : World} {Q : Exit → Act → World → Prop} (base : Nat) (hgd : o.guard = none) (s x : Operand)
    (ho : o.op = .call { callee := .builtin .append, args := #[s, x], argTypes := #[56, 56] })
    (v : Value) (l : List Bool) (hs : a.eval s = v) (hown : w.ownsRow base 4 1 v l.length (boolsC l))
    (b : Nat) (t : Bool) (hx : a.eval x = .slice (some ⟨b, 0, none⟩) 1 1) (hb : w.heap[b]? = some (.cells #[.bool t] 4 (0, 0))) (hl : l.length ≤ 1000000) (hbase : base ≤ w.heap.size)
    (hK : ∀ v' w', w'.ownsRow base 4 1 v' (l ++ [t]).length (boolsC (l ++ [t])) → w.grownBy w' v.ownBlock → wpList Try.prog ops Q rest (a.put o.dst v') w') : wpList Try.prog ops Q (o :: rest) a w := by
  refine wpList_plain hgd fun _ hK' => ?_
  obtain ⟨i, h1, h2, h3, h4⟩ := info4
  obtain ⟨v', w', hrun, r1, r2, _, r4⟩ := run_append_own_at (P := Try.prog) w base 56 o.type 4 i _ 1 1 Try.underlying56 h1 h2 h3 h4 rfl (by decide) v l.length (boolsC l) hown ⟨b, 0, none⟩ 1 1 (boolsC [t]) rfl
    (World.news_of_block hb) (boolsC_one _) (by unfold maxLen; omega) (by omega) hbase
  unfold Oper.wp
  simp [execOp, ho, resolve, invoke, builtin, hs, hx, hrun, Result.andThen]
  refine hK' _ _ (hK v' w' ?_ r2)
  rw [boolsC_append, List.length_append]
  exact r1
section
variable {w w' : World} {r : Nat} {uv lv tv : Value} {R : RS} {D : Nat → Prop}
/-- The nodes in a new row. -/
theorem RM.newU {l' : List Bool} {v' : Value} (h : RM w r uv lv tv R) (hf : Fr (fun k => uv.ownBlock = some k) w w') (ho : w'.ownsRow 0 4 1 v' l'.length (boolsC l')) :
    RM (w'.setCell ⟨r, 0, none⟩ v') r v' lv tv { R with up := l' } ∧ w'.cell? ⟨r, 0, none⟩ = some uv ∧ w'.frozen? ⟨r, 0, none⟩ = false ∧ v'.ownBlock ≠ some r := by
  obtain ⟨a1, a2, a3⟩ := h.apart
  have hrl := lt_of_block h.hd
  have hq := hf.block r hrl (fun e => (a1 r e).1 rfl)
  have hd' : w'.heap[r]? = some (.cells #[uv, lv, tv, .int .i64 R.now] 62 (0, 0)) := hq.trans h.hd
  have hne : v'.ownBlock ≠ some r := fun e => by
    obtain ⟨c, e2⟩ := own_type ho e
    exact absurd (type_ne e2 hd') (by decide)
  obtain ⟨⟨c0, _, _, _⟩, f0, _, _, _⟩ := cells4 hd'
  refine ⟨⟨?_, ?_, ?_, ?_⟩, c0, f0, hne⟩
  · rw [setR hd']
    rfl
  · exact ownsRow_same ho (fun k hk => setO w' _ (fun e => hne (by rw [hk, e])))
  · exact ownsRow_same h.lo (fun k hk => (setO w' _ (a2 k hk).1).trans (hf.block k (h.lo.lt k hk).2 (a2 k hk).2.1))
  · exact ownsRow_same h.to_ (fun k hk => (setO w' _ (a3 k hk).1).trans (hf.block k (h.to_.lt k hk).2 (a3 k hk).2.1))
theorem new_step {w wr w4 : World} {v v4 : Value} {j : Nat} (hm : RM wr w.heap.size v (.slice none 0 0) (.slice none 0 0) (R0 j)) (hf : Fr (fun k => v.ownBlock = some k) wr w4) (ho : w4.ownsRow w.heap.size 4 1 v4 (List.replicate j true ++ [true]).length (boolsC (List.replicate j true ++ [true]))) :
    (∃ uv, RM (w4.setCell ⟨w.heap.size, 0, none⟩ v4) w.heap.size uv (.slice none 0 0) (.slice none 0 0) (R0 (j + 1)) ∧ (w4.setCell ⟨w.heap.size, 0, none⟩ v4).ownsRow w.heap.size 4 1 uv (j + 1) (boolsC (List.replicate (j + 1) true))) ∧ w4.cell? ⟨w.heap.size, 0, none⟩ = some v ∧ w4.frozen? ⟨w.heap.size, 0, none⟩ = false := by
  obtain ⟨h1, h2, h3, h4⟩ := hm.newU hf (own_le ho (Nat.zero_le _))
  have e : List.replicate j true ++ [true] = List.replicate (j + 1) true := by rw [List.replicate_succ']
  rw [e] at h1 ho
  rw [List.length_replicate] at ho
  exact ⟨⟨v4, h1, ownsRow_same ho (fun k hk => setO w4 _ (fun e => h4 (by rw [hk, e])))⟩, h2, h3⟩
set_option maxRecDepth 100000 in
set_option maxHeartbeats 3200000 in
theorem RNew_any (N : Nat) (w : World) (h1 : 1 ≤ N) (h2 : N ≤ 65) :
    Calls Try.prog 9 #[.int .i64 (N : Int)] w fun e w' => ∃ r D, e = .returned (.tuple #[.pointer (some ⟨r, 0, none⟩), .int .i64 0]) ∧ RK w' r (R0 N) D ∧ (∀ k, D k → w.heap.size ≤ k) ∧ Below w.heap.size w w' := by
  have hb0 : Below w.heap.size w (w.alloc (.cells #[.slice none 0 0, .slice none 0 0, .slice none 0 0, .int .i64 0] 62)) := (Below.refl _ _).alloc (Nat.le_refl _) _
  have hm : RM (w.alloc (.cells #[.slice none 0 0, .slice none 0 0, .slice none 0 0, .int .i64 0] 62)) w.heap.size (.slice none 0 0) (.slice none 0 0) (.slice none 0 0) (R0 0) :=
    ⟨heap_top _ _, ⟨rfl, Or.inl ⟨rfl, rfl⟩⟩, ⟨rfl, Or.inl ⟨rfl, rfl⟩⟩, ⟨rfl, Or.inl ⟨rfl, rfl⟩⟩⟩
  have HB0 := Lib.hid hb0
  have HM := Lib.hid hm
  clear hb0 hm
  go_enter Try.func9, Try.ntmps9
  go_wp2_with fail
  generalize w.alloc (.cells #[.slice none 0 0, .slice none 0 0, .slice none 0 0, .int .i64 0] 62) = W1 at *
  go_loopw [5] (fun i wr => ∃ j : Nat, j ≤ N ∧ i = .int .i64 j ∧ Hid (∃ uv, RM wr w.heap.size uv (.slice none 0 0) (.slice none 0 0) (R0 j) ∧ wr.ownsRow w.heap.size 4 1 uv j (boolsC (List.replicate j true))) ∧ Hid (Below w.heap.size w wr)) (fun i _ => N - (intOf i).toNat)
  case atStart => exact ⟨0, Nat.zero_le _, rfl, ⟨_, HM.out, ⟨rfl, Or.inl ⟨rfl, rfl⟩⟩⟩, HB0⟩
  case round =>
    clear HM HB0
    obtain ⟨j, hj, rfl, H, HB⟩ := hrel
    by_cases hlt : j < N
    · have hlt' : (j : Int) < N := by omega
      obtain ⟨uv, hm, ho⟩ := H.out
      obtain ⟨ua, uc, rfl⟩ := own_slice ho
      obtain ⟨⟨c0, -, -, -⟩, -⟩ := cells4 hm.hd
      have hl : (R0 j).up.length = j := by simp [R0]
      have HO := Lib.hid ho
      have HM := Lib.hid hm
      have HSZ := HB.out.size
      have HR : Hid (List.replicate (j + 1) true = List.replicate j true ++ [true]) := Lib.hid (by rw [List.replicate_succ'])
      have HLR : Hid ((List.replicate j true).length = j) := Lib.hid (by simp)
      have HJ : Hid (j ≤ 1000000) := Lib.hid (by omega)
      clear hm ho hl H
      go_wp2_with (first | (at_builtin; refine wpList_appB w.heap.size rfl (.tmp 23) (.tmp 24) rfl (.slice ua j uc) (List.replicate j true) rfl (by rw [HLR.out]; exact HO.out.alloc _) wr.heap.size true rfl (heap_top _ _) (by rw [HLR.out]; exact HJ.out) (by simp; omega) ?_; intro v4 w4 ho4 hg4; have hfr : Fr (fun k => (Value.slice ua j uc).ownBlock = some k) wr w4 := (Fr.of ((Below.refl _ _).alloc (Nat.le_refl _) _)).grown hg4 (fun k e => Or.inl e); obtain ⟨hM4, d0, g0⟩ := new_step HM.out hfr ho4; have HM4 := Lib.hid hM4; have HB4 : Hid (Below w.heap.size w w4) := Lib.hid ((HB.out.alloc HSZ _).grown hg4 (by simp; omega) (fun k hk => (HO.out.lt k hk).1)); obtain ⟨av4, cv4, hvv4⟩ := own_slice ho4; clear hM4 ho4 hg4 hfr; generalize (List.replicate j true ++ [true]).length = N4 at hvv4; subst hvv4))
      exact ⟨⟨j + 1, by omega, by go_num, HM4, HB4.out.setCell (p := ⟨w.heap.size, 0, none⟩) (Nat.le_refl _) _⟩, by simp [intOf]; omega⟩
    · obtain rfl : j = N := by omega
      go_wp2_with fail
      go_ret2
      obtain ⟨uv, hm, ho⟩ := H.out
      refine ⟨w.heap.size, _, rfl, ⟨uv, _, _, hm, rfl⟩, ?_, HB.out⟩
      rintro k (rfl | hk | hk | hk)
      · exact Nat.le_refl _
      · exact (ho.lt k hk).1
      · cases hk
      · cases hk
end
end Go.Proofs.Ytfhlfklgngpklaa
