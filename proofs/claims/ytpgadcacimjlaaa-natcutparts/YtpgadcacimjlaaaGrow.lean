/-
  Growth as it lies in memory; contracts of chain and across.
-/
import Derived.Test.YtpgadcacimjlaaaMem
namespace Go.Proofs.Ytpgadcacimjlaaa
open Go.RowKit
/-- The header of growth. -/
structure Gw (w : World) (f b1 b2 bs n m : Nat) (a : Option Addr) (cap : Nat) : Prop where
  hd : w.heap[f]? = some (.cells #[.slice a m cap, .slice (some ⟨b1, 0, none⟩) n n, .slice (some ⟨b2, 0, none⟩) (2 * m) (2 * m), .slice (some ⟨bs, 0, none⟩) n n] 81 (0, 0))
theorem four_cells {w : World} {g : Nat} {a b c d : Value} {t : TypeId} (hh : w.heap[g]? = some (.cells #[a, b, c, d] t)) : w.cell? ⟨g, 0, none⟩ = some a ∧ w.cell? ⟨g, 1, none⟩ = some b ∧ w.cell? ⟨g, 2, none⟩ = some c ∧ w.cell? ⟨g, 3, none⟩ = some d := by
  simp [World.cell?, hh]
theorem Gw.fr {D : Nat → Prop} {w w' : World} {f b1 b2 bs n m : Nat} {a : Option Addr} {cap : Nat} (h : Gw w f b1 b2 bs n m a cap) (hf : Fr D w w') (hn : ¬ D f) : Gw w' f b1 b2 bs n m a cap := ⟨(hf.block f (lt_of_block h.hd) hn).trans h.hd⟩
set_option maxHeartbeats 1600000 in
set_option maxRecDepth 100000 in
theorem chain_any {w : World} {f b1 b2 bs n m : Nat} {a : Option Addr} {cap : Nat} {F G : Nat → Int} (hg : Gw w f b1 b2 bs n m a cap) (h1 : TbV w b1 n 3 (fun v => .int .i64 (F v))) (h2 : TbV w b2 (2 * m) 3 (fun v => .int .i64 (G v))) (hne : b1 ≠ b2) (hf1 : f ≠ b1) (hf2 : f ≠ b2) {v k : Nat} (hv : v < n) (hk : k < 2 * m) :
    Calls Try.prog 36 #[.pointer (some ⟨f, 0, none⟩), .int .i64 v, .int .i64 k] w fun e w' => e = .returned (.tuple #[]) ∧ TbV w' b1 n 3 (fun x => .int .i64 (updI F v k x)) ∧ TbV w' b2 (2 * m) 3 (fun x => .int .i64 (updI G k (F v) x)) ∧ Fr (fun j => j = b1 ∨ j = b2) w w' := by
  obtain ⟨c0, c1, c2, c3⟩ := four_cells hg.hd
  have d1 := h1.cell hv
  have d1f := h1.free v
  have d2 := h2.cell hk
  have d2f := h2.free k
  have hv' : (v : Int) < n := by omega
  have hk' : (k : Int) < ((2 * m : Nat) : Int) := by omega
  have f1 : Fr (fun j => j = b2) w (w.setCell ⟨b2, k, none⟩ (.int .i64 (F v))) := (Fr.refl _ w).setCell ⟨b2, k, none⟩ _ rfl
  have f2 : Fr (fun j => j = b1) (w.setCell ⟨b2, k, none⟩ (.int .i64 (F v))) ((w.setCell ⟨b2, k, none⟩ (.int .i64 (F v))).setCell ⟨b1, v, none⟩ (.int .i64 k)) := (Fr.refl _ _).setCell ⟨b1, v, none⟩ _ rfl
  have t2 := ((h2.set k (.int .i64 (F v))).fr f2 (fun e => hne e.symm)).congr (fun x _ => upd_rank G k (F v) x)
  have t1 := ((h1.fr f1 hne).set v (.int .i64 k)).congr (fun x _ => upd_rank F v k x)
  have f3 := (f1.imp (D2 := fun j => j = b1 ∨ j = b2) (fun _ h => .inr h)).trans (f2.imp (fun _ h => .inl h))
  have HT1 := Lib.hid t1
  have HT2 := Lib.hid t2
  have HF3 := Lib.hid f3
  have hne2 := hne.symm
  have hf1' := hf1.symm
  have hf2' := hf2.symm
  clear h1 h2 f1 f2 f3 t1 t2
  generalize hFv : F v = fv at *
  generalize hGk : G k = gk at *
  go_enter Try.func36, Try.ntmps36
  go_wp2_with fail
  go_region
  all_goals
    go_wp2_with fail
    go_end0
    exact ⟨rfl, HT1.out, HT2.out, ⟨HF3.out.os, HF3.out.tape, HF3.out.output, HF3.out.size, HF3.out.block⟩⟩
set_option maxHeartbeats 800000 in
theorem across_any {w : World} {f b1 b2 bs n : Nat} {a : Option Addr} {l : List A} {cap : Nat} (hg : Gw w f b1 b2 bs n l.length a cap) (hr : Arcs w a l) (hp : ∀ x, x ∈ l → 0 ≤ x.f ∧ 0 ≤ x.t) (hm : l.length ≤ 16384) {k : Nat} (hk : k < 2 * l.length) :
    Calls Try.prog 50 #[.pointer (some ⟨f, 0, none⟩), .int .i64 k] w fun e w' => e = .returned (.int .i64 (tto (edl l) k)) ∧ w' = w := by
  obtain ⟨c0, c1, c2, c3⟩ := four_cells hg.hd
  have hj : k / 2 < l.length := by omega
  obtain ⟨b, o, rfl, hbl, hat⟩ : ∃ b o, a = some ⟨b, o, none⟩ ∧ b < w.heap.size ∧ ∀ j, j < l.length → (l.getD j A.zero).at w b (o + j * 3) := by
    rcases hr with rfl | ⟨b, o, h⟩
    · simp at hj
    · exact ⟨b, o, h⟩
  obtain ⟨x0, x1, x2⟩ := hat (k / 2) hj
  have hpo := hp (l.getD (k / 2) A.zero) (by simp [List.getD, List.getElem?_eq_getElem hj])
  have he := edl_at hj
  have hj' : ((k / 2 : Nat) : Int) < l.length := by omega
  generalize l.getD (k / 2) A.zero = x at *
  obtain ⟨T, HT⟩ := named (tto (edl l) k)
  rw [HT.out]
  have E1 : Hid ((k : Int) / 2 = ((k / 2 : Nat) : Int)) := by show _ = _; omega
  by_cases hp2 : k % 2 = 0
  · have e2 : ((k : Int) % 2 == 0) = true := by simp; omega
    have hT : (T : Int) = x.t := by
      rw [← HT.out]; unfold tto; rw [if_pos hp2, he]; exact Int.toNat_of_nonneg hpo.2
    have HTT := Lib.hid hT
    clear hT
    go_enter Try.func50, Try.ntmps50
    go_wp2_with fail
    go_ret
    exact ⟨by rw [HTT.out]; rfl, rfl⟩
  · have e2 : ((k : Int) % 2 == 0) = false := by simp; omega
    have hT : (T : Int) = x.f := by
      rw [← HT.out]; unfold tto; rw [if_neg hp2, he]; exact Int.toNat_of_nonneg hpo.1
    have HTT := Lib.hid hT
    clear hT
    go_enter Try.func50, Try.ntmps50
    go_wp2_with fail
    go_ret
    exact ⟨by rw [HTT.out]; rfl, rfl⟩
end Go.Proofs.Ytpgadcacimjlaaa
