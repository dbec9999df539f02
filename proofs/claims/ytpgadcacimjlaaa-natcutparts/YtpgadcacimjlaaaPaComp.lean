/-
  The contract of slices.Compact at pairs.
-/
import Derived.Test.YtpgadcacimjlaaaPaMem
import Derived.Laws.StructEq
import Derived.Lib.SliceRun
import Derived.Laws.IdiomCopy
import Derived.BigRegion
import Derived.Deep.QuietTactic
import Derived.BigQuiet
namespace Go.Proofs.Ytpgadcacimjlaaa
open Go.RowKit
/-- What is left of the first k of a list when each that is the same as the one ahead of it goes. -/
def ddk (d : List Pr) : Nat → List Pr
  | 0 => []
  | k + 1 => if 0 < k ∧ d.getD k Pr.zero = d.getD (k - 1) Pr.zero then ddk d k else ddk d k ++ [d.getD k Pr.zero]
theorem ddk_keep {d : List Pr} {k : Nat} (h : ¬ (0 < k ∧ d.getD k Pr.zero = d.getD (k - 1) Pr.zero)) : ddk d (k + 1) = ddk d k ++ [d.getD k Pr.zero] := by rw [ddk, if_neg h]
theorem ddk_skip {d : List Pr} {k : Nat} (h : 0 < k ∧ d.getD k Pr.zero = d.getD (k - 1) Pr.zero) : ddk d (k + 1) = ddk d k := by rw [ddk, if_pos h]
theorem ddk_len (d : List Pr) : ∀ k, (ddk d k).length ≤ k
  | 0 => by simp [ddk]
  | k + 1 => by
    rw [ddk]
    have := ddk_len d k
    split
    · omega
    · simp; omega
/-- The pairs in a block: n of them, as D says; the block is so great. -/
def PB (w : World) (g n s : Nat) (D : Nat → Pr) : Prop := ∃ cur, w.heap[g]? = some (.cells cur 41 (0, 0)) ∧ cur.size = s ∧ n * 2 ≤ s ∧ ∀ j, j < n → cur[j * 2]? = some (.int .i64 ((D j).a : Int)) ∧ cur[j * 2 + 1]? = some (.int .i64 ((D j).b : Int))
theorem PB.cell {w : World} {g n s : Nat} {D : Nat → Pr} (h : PB w g n s D) {j : Nat} (hj : j < n) : w.cell? ⟨g, j * 2, none⟩ = some (.int .i64 ((D j).a : Int)) ∧ w.cell? ⟨g, j * 2 + 1, none⟩ = some (.int .i64 ((D j).b : Int)) := by
  obtain ⟨cur, h1, _, _, h4⟩ := h
  obtain ⟨h5, h6⟩ := h4 j hj
  exact ⟨by simp [World.cell?, h1, h5], by simp [World.cell?, h1, h6]⟩
theorem PB.free {w : World} {g n s : Nat} {D : Nat → Pr} (h : PB w g n s D) (o : Nat) : w.frozen? ⟨g, o, none⟩ = false := by
  obtain ⟨cur, h1, _⟩ := h
  simp [World.frozen?, h1]
theorem PB.lt {w : World} {g n s : Nat} {D : Nat → Pr} (h : PB w g n s D) : g < w.heap.size := by obtain ⟨cur, h1, _⟩ := h; exact lt_of_block h1
theorem PB.same {w w' : World} {g n s : Nat} {D : Nat → Pr} (h : PB w g n s D) (hs : w'.heap[g]? = w.heap[g]?) : PB w' g n s D := by obtain ⟨cur, h1, h2⟩ := h; exact ⟨cur, hs.trans h1, h2⟩
def updP (D : Nat → Pr) (x : Nat) (u : Pr) : Nat → Pr := fun y => if y = x then u else D y
theorem PB.put {w : World} {g n s : Nat} {D : Nat → Pr} (h : PB w g n s D) {k : Nat} (hk : k < n) (u : Pr) : PB ((w.setCell ⟨g, k * 2, none⟩ (.int .i64 (u.a : Int))).setCell ⟨g, k * 2 + 1, none⟩ (.int .i64 (u.b : Int))) g n s (updP D k u) := by
  obtain ⟨cur, h1, h2, h3, h4⟩ := h
  refine ⟨(cur.setIfInBounds (k * 2) (.int .i64 (u.a : Int))).setIfInBounds (k * 2 + 1) (.int .i64 (u.b : Int)), ?_, by simpa using h2, h3, fun j hj => ?_⟩
  · rw [heap_setCell_same _ g (k * 2 + 1) _ _ _ (heap_setCell_same w g (k * 2) _ _ _ h1)]
  · obtain ⟨h5, h6⟩ := h4 j hj
    unfold updP
    by_cases e : j = k
    · subst e
      have q1 : j * 2 < cur.size := by omega
      have q2 : j * 2 + 1 < cur.size := by omega
      constructor
      · rw [Array.getElem?_setIfInBounds, if_neg (by omega), Array.getElem?_setIfInBounds]; simp [q1]
      · rw [Array.getElem?_setIfInBounds]; simp [q2]
    · rw [if_neg e]
      constructor
      · rw [Array.getElem?_setIfInBounds, if_neg (by omega), Array.getElem?_setIfInBounds, if_neg (by omega)]; exact h5
      · rw [Array.getElem?_setIfInBounds, if_neg (by omega), Array.getElem?_setIfInBounds, if_neg (by omega)]; exact h6
theorem PB.less {w : World} {g n s m : Nat} {D : Nat → Pr} (h : PB w g n s D) (hm : m ≤ n) : PB w g m s D := by
  obtain ⟨cur, h1, h2, h3, h4⟩ := h
  exact ⟨cur, h1, h2, by omega, fun j hj => h4 j (by omega)⟩
theorem PB.congr {w : World} {g n s : Nat} {D E : Nat → Pr} (h : PB w g n s D) (e : ∀ j, j < n → D j = E j) : PB w g n s E := by
  obtain ⟨cur, h1, h2, h3, h4⟩ := h
  exact ⟨cur, h1, h2, h3, fun j hj => by rw [← e j hj]; exact h4 j hj⟩
theorem setCells_fr (g : Nat) : ∀ (vs : List Value) (o : Nat) (w : World), Fr (fun j => j = g) w (w.setCells g o vs)
  | [], _, w => Fr.refl _ w
  | v :: r, o, w => ((Fr.refl (fun j => j = g) w).setCell ⟨g, o, none⟩ v rfl).trans (setCells_fr g r (o + 1) _)
theorem setCells_PB {g n s : Nat} {D : Nat → Pr} : ∀ (vs : List Value) (o : Nat) (w : World), n * 2 ≤ o → PB w g n s D → PB (w.setCells g o vs) g n s D
  | [], _, w, _, h => h
  | v :: r, o, w, ho, h => by
    refine setCells_PB r (o + 1) _ (by omega) ?_
    obtain ⟨cur, h1, h2, h3, h4⟩ := h
    refine ⟨cur.setIfInBounds o v, heap_setCell_same w g o _ _ _ h1, by simpa using h2, h3, fun j hj => ?_⟩
    obtain ⟨h5, h6⟩ := h4 j hj
    rw [Array.getElem?_setIfInBounds, if_neg (by omega), Array.getElem?_setIfInBounds, if_neg (by omega)]
    exact ⟨h5, h6⟩
/-- 'clear(s)' at pairs. -/
theorem run_clear2 (w : World) (ty : TypeId) (b o n c : Nat) (hn : 0 < n) (hc : ∀ j, j < n * 2 → (w.cell? ⟨b, o + j, none⟩).isSome = true) (hf : ∀ j, j < n * 2 → w.frozen? ⟨b, o + j, none⟩ = false) :
    ∃ zs, (Builtin.clear_ #[27] ty #[.slice (some ⟨b, o, none⟩) n c]).run Try.prog w = .ok (.tuple #[]) (w.setCells b o zs) := by
  refine ⟨(Builtin.zeroCells (Value.agg #[.int .i64 0, .int .i64 0]).cells n).toList, ?_⟩
  have hlen : (Builtin.zeroCells (Value.agg #[.int .i64 0, .int .i64 0]).cells n).toList.length = n * 2 := by
    simp [Builtin.zeroCells, Value.cells]
  have hst := run_storeCells_cells (P := Try.prog) b o (Builtin.zeroCells (Value.agg #[.int .i64 0, .int .i64 0]).cells n).toList 0 w (by rw [hlen]; simpa using hc) (by rw [hlen]; simpa using hf) (by
    intro v hv
    simp [Builtin.zeroCells, Value.cells] at hv
    obtain ⟨j, _, rfl⟩ := hv
    have : j % 2 = 0 ∨ j % 2 = 1 := by omega
    rcases this with e | e <;> simp [e, Value.oneCell'])
  simp only [Nat.add_zero] at hst
  obtain ⟨m, rfl⟩ : ∃ m, n = m + 1 := ⟨n - 1, by omega⟩
  simp [Builtin.clear_, run_underlying Try.underlying27, hst]
theorem own_PB {w : World} {B g c : Nat} {d : List Pr} (h : OwnP w B (some ⟨g, 0, none⟩) c d) : PB w g d.length (c * 2) (fun j => d.getD j Pr.zero) ∧ B ≤ g ∧ d.length ≤ c ∧ c ≤ 9223372036854775807 := by
  rcases h.2 with ⟨e, _⟩ | ⟨g', c', cur, e, hb, hg, hn, hm, hs, ht⟩
  · cases e
  · injection e with e1 e2 e3
    injection e1 with e1
    injection e1 with e1
    subst e1; subst e3
    refine ⟨⟨cur, hg, hs, by omega, fun j hj => ?_⟩, hb, hn, hm⟩
    obtain ⟨h1, h2⟩ := cellsP_at d j hj
    rw [← ht, List.getElem?_take, if_pos (by omega)] at h1 h2
    exact ⟨by rw [← h1]; simp, by rw [← h2]; simp⟩
theorem PB_own {w : World} {B g c : Nat} {d : List Pr} (h : PB w g d.length (c * 2) (fun j => d.getD j Pr.zero)) (hB : B ≤ g) (hc : d.length ≤ c) (hm : c ≤ 9223372036854775807) : OwnP w B (some ⟨g, 0, none⟩) c d := by
  obtain ⟨cur, h1, h2, h3, h4⟩ := h
  refine ⟨cellsP_len d, .inr ⟨g, c, cur, rfl, hB, h1, hc, hm, h2, ?_⟩⟩
  apply List.ext_getElem?
  intro i
  rw [List.getElem?_take]
  by_cases hi : i < d.length * 2
  · rw [if_pos hi]
    obtain ⟨j, hj⟩ : ∃ j, i = j * 2 ∨ i = j * 2 + 1 := ⟨i / 2, by omega⟩
    obtain ⟨q1, q2⟩ := cellsP_at d j (by omega)
    obtain ⟨q3, q4⟩ := h4 j (by omega)
    rcases hj with rfl | rfl
    · rw [q1]; simpa using q3
    · rw [q2]; simpa using q4
  · rw [if_neg hi, List.getElem?_eq_none (by rw [cellsP_len]; omega)]
theorem take_snocP {p : List Pr} {k : Nat} (h : k < p.length) : p.take (k + 1) = p.take k ++ [p.getD k Pr.zero] := by
  rw [List.take_succ_eq_append_getElem h]
  simp [List.getD, List.getElem?_eq_getElem h]
theorem pr_ext {x y : Pr} (h1 : x.a = y.a) (h2 : x.b = y.b) : x = y := by cases x; cases y; simp_all
/-- While the list is made short: kk are kept of the first m. -/
structure Ci (d : List Pr) (m kk : Nat) (D : Nat → Pr) : Prop where
  len : (ddk d m).length = kk
  low : ∀ j, j < kk → D j = (ddk d m).getD j Pr.zero
  high : ∀ j, m ≤ j + 1 → D j = d.getD j Pr.zero
  lt : kk < m
theorem Ci.skip {d : List Pr} {m kk : Nat} {D : Nat → Pr} (h : Ci d m kk D) (hm : 0 < m) (e : d.getD m Pr.zero = d.getD (m - 1) Pr.zero) : Ci d (m + 1) kk D := by
  have hs := ddk_skip (d := d) ⟨hm, e⟩
  exact ⟨by rw [hs]; exact h.len, fun j hj => by rw [hs]; exact h.low j hj, fun j hj => h.high j (by omega), by have := h.lt; omega⟩
theorem Ci.keep {d : List Pr} {m kk : Nat} {D : Nat → Pr} (h : Ci d m kk D) (e : d.getD m Pr.zero ≠ d.getD (m - 1) Pr.zero) : Ci d (m + 1) (kk + 1) (updP D kk (d.getD m Pr.zero)) := by
  have hs := ddk_keep (d := d) (k := m) (fun h => e h.2)
  have hl := h.len
  have hlt := h.lt
  refine ⟨by rw [hs, List.length_append, hl]; rfl, fun j hj => ?_, fun j hj => ?_, by omega⟩
  · rw [hs]
    unfold updP
    by_cases ej : j = kk
    · subst ej
      rw [if_pos rfl]
      simp [List.getD, ← hl]
    · rw [if_neg ej, h.low j (by omega)]
      simp [List.getD, List.getElem?_append_left (show j < (ddk d m).length by omega)]
  · unfold updP
    rw [if_neg (by omega)]
    exact h.high j (by omega)
theorem Ci.start {d : List Pr} {k : Nat} (hk : k < d.length) (h0 : 0 < k) (ht : ddk d k = d.take k) (e : d.getD k Pr.zero = d.getD (k - 1) Pr.zero) : Ci d (k + 1) k (fun j => d.getD j Pr.zero) := by
  have hs := ddk_skip (d := d) ⟨h0, e⟩
  refine ⟨by rw [hs, ht, List.length_take]; omega, fun j hj => ?_, fun j _ => rfl, by omega⟩
  rw [hs, ht]
  simp [List.getD, hj]
theorem own_drew {w : World} {B : Nat} {a : Option Addr} {c : Nat} {d : List Pr} (h : OwnP w B a c d) (q : Nat) : OwnP (w.drewN q) B a c d := h
set_option maxRecDepth 100000 in
set_option maxHeartbeats 1600000 in
theorem compact_any {w : World} {B g c : Nat} {d : List Pr} (h : OwnP w B (some ⟨g, 0, none⟩) c d) : Calls Try.prog 28 #[.slice (some ⟨g, 0, none⟩) d.length c] w fun e w' => e = .returned (.slice (some ⟨g, 0, none⟩) (ddk d d.length).length c) ∧ OwnP w' B (some ⟨g, 0, none⟩) c (ddk d d.length) ∧ Fr (fun j => j = g) w w' := by
  obtain ⟨hP, hB, hdc, hcm⟩ := own_PB h
  have HP := Lib.hid hP
  have HOWN := Lib.hid h
  clear h hP
  by_cases h2 : d.length < 2
  · have h2' : (d.length : Int) < 2 := by omega
    have hdd : ddk d d.length = d := by
      match d, h2 with
      | [], _ => rfl
      | [x], _ => simp [ddk]
    rw [hdd]
    go_enter Try.func28, Try.ntmps28
    go_wp2_with fail
    go_ret
    exact ⟨rfl, HOWN.out, Fr.refl _ _⟩
  · have h2' : ¬ (d.length : Int) < 2 := by omega
    go_enter Try.func28, Try.ntmps28
    go_wp2_with fail
    go_loopw [3] (fun i wr => ∃ k q : Nat, 1 ≤ k ∧ k ≤ d.length ∧ i = .int .i64 k ∧ Hid (ddk d k = d.take k) ∧ wr = w.drewN q) (fun i _ => d.length - (intOf i).toNat)
    case atStart => exact ⟨1, 0, by omega, by omega, rfl, by show _ = _; rw [take_snocP (by omega)]; simp [ddk], rfl⟩
    case round =>
      obtain ⟨k, q, hk1, hk, rfl, HT, rfl⟩ := hrel
      obtain ⟨m, rfl⟩ : ∃ m, k = m + 1 := ⟨k - 1, by omega⟩
      by_cases hlt : m + 1 < d.length
      · have hlt' : (((m + 1 : Nat) : Int)) < d.length := by omega
        obtain ⟨x0, x1⟩ := (HP.out.cell hlt)
        obtain ⟨y0, y1⟩ := (HP.out.cell (show m < d.length by omega))
        obtain ⟨x, HX⟩ := named (d.getD (m + 1) Pr.zero)
        obtain ⟨y, HY⟩ := named (d.getD m Pr.zero)
        rw [HX.out] at x0 x1
        rw [HY.out] at y0 y1
        by_cases hxy : x = y
        · subst hxy
          go_wp2_with fail
          go_quiet (fail)
          go_wp2_with fail
          have HCI : Hid (Ci d (m + 1 + 1) (m + 1) (fun j => d.getD j Pr.zero)) := Ci.start hlt (by omega) HT.out (by rw [HX.out]; exact HY.out.symm)
          clear x0 x1 y0 y1
          generalize hL : d.length - (m + 1) = L at *
          go_loopw [3, 5] (fun s3 s5 wr => ∃ (kk k2 : Nat) (D : Nat → Pr), 1 ≤ k2 ∧ k2 ≤ L ∧ s3 = .int .i64 kk ∧ s5 = .int .i64 k2 ∧ Hid (Ci d (m + 1 + k2) kk D) ∧ Hid (PB wr g d.length (c * 2) D) ∧ Hid (Fr (fun j => j = g) w wr)) (fun _ s5 _ => L - (intOf s5).toNat)
          case atStart => exact ⟨m + 1, 1, _, by omega, by omega, rfl, rfl, HCI, HP.out, (Fr.refl _ _).drewN _⟩
          case round =>
            obtain ⟨kk, k2, D, hk21, hk2, rfl, rfl, HC, HPB, HF⟩ := hrel
            obtain ⟨t, rfl⟩ : ∃ t, k2 = t + 1 := ⟨k2 - 1, by omega⟩
            have hkk := HC.out.lt
            by_cases hlt2 : t + 1 < L
            · have hlt2' : ((t + 1 : Nat) : Int) < L := by omega
              obtain ⟨z0, z1⟩ := HPB.out.cell (show m + 1 + (t + 1) < d.length by omega)
              obtain ⟨v0, v1⟩ := HPB.out.cell (show m + 1 + t < d.length by omega)
              obtain ⟨o0, o1⟩ := HPB.out.cell (show kk < d.length by omega)
              have f0 := HPB.out.free (kk * 2)
              have f1 := HPB.out.free (kk * 2 + 1)
              rw [HC.out.high _ (by omega)] at z0 z1 v0 v1
              rw [show (m + 1 + (t + 1)) * 2 = (m + 1) * 2 + (t + 1) * 2 by omega] at z0 z1
              rw [show (m + 1 + t) * 2 = (m + 1) * 2 + t * 2 by omega] at v0 v1
              obtain ⟨u, HU⟩ := named (d.getD (m + 1 + (t + 1)) Pr.zero)
              obtain ⟨v, HV⟩ := named (d.getD (m + 1 + t) Pr.zero)
              rw [HU.out] at z0 z1
              rw [HV.out] at v0 v1
              have HE : Hid (m + 1 + (t + 1) = m + 1 + t + 1) := rfl
              by_cases huv : u = v
              · subst huv
                have HC2 : Hid (Ci d (m + 1 + (t + 1 + 1)) kk D) := HC.out.skip (by omega) (by rw [HU.out]; exact HV.out.symm)
                generalize D kk = old at *
                go_wp2_with fail
                go_quiet (fail)
                go_wp2_with fail
                exact ⟨⟨kk, t + 1 + 1, D, by omega, by omega, rfl, by simp, HC2, HPB.out, HF.out.drewN _⟩, by simp [intOf]; omega⟩
              · have HC2 : Hid (Ci d (m + 1 + (t + 1 + 1)) (kk + 1) (updP D kk u)) := by
                  have := HC.out.keep (by rw [HU.out]; exact fun e => huv (e.trans HV.out))
                  rw [HU.out] at this
                  exact this
                generalize D kk = old at o0 o1
                by_cases ha : u.a = v.a
                · have hb : u.b ≠ v.b := fun hb => huv (pr_ext ha hb)
                  have hb' : ((u.b : Int) == (v.b : Int)) = false := by simp; omega
                  have ha' : ((u.a : Int) == (v.a : Int)) = true := by simp [ha]
                  clear ha hb
                  go_wp2_with fail
                  go_quiet (fail)
                  go_wp2_with fail
                  exact ⟨⟨kk + 1, t + 1 + 1, _, by omega, by omega, by simp, by simp, HC2, PB.put (w := wr.drewN nq) HPB.out (show kk < d.length by omega) u, ((HF.out.drewN nq).setCell ⟨g, kk * 2, none⟩ _ rfl).setCell ⟨g, kk * 2 + 1, none⟩ _ rfl⟩, by simp [intOf]; omega⟩
                · have ha' : ((u.a : Int) == (v.a : Int)) = false := by simp; omega
                  go_wp2_with fail
                  go_quiet (fail)
                  go_wp2_with fail
                  exact ⟨⟨kk + 1, t + 1 + 1, _, by omega, by omega, by simp, by simp, HC2, PB.put (w := wr.drewN nq) HPB.out (show kk < d.length by omega) u, ((HF.out.drewN nq).setCell ⟨g, kk * 2, none⟩ _ rfl).setCell ⟨g, kk * 2 + 1, none⟩ _ rfl⟩, by simp [intOf]; omega⟩
            · have hlt2' : ¬ ((t + 1 : Nat) : Int) < L := by omega
              have hend : m + 1 + (t + 1) = d.length := by omega
              rw [hend] at HC
              have hkd : kk < d.length := by omega
              obtain ⟨zs, hcl⟩ : ∃ zs, ∀ ty, (Builtin.clear_ #[27] ty #[.slice (some ⟨g, kk * 2, none⟩) (d.length - kk) (c - kk)]).run Try.prog wr = .ok (.tuple #[]) (wr.setCells g (kk * 2) zs) := by
                obtain ⟨zs, hz⟩ := run_clear2 wr 0 g (kk * 2) (d.length - kk) (c - kk) (by omega) (fun j hj => by
                  obtain ⟨i, hi⟩ : ∃ i, kk * 2 + j = i * 2 ∨ kk * 2 + j = i * 2 + 1 := ⟨(kk * 2 + j) / 2, by omega⟩
                  obtain ⟨q0, q1⟩ := HPB.out.cell (show i < d.length by omega)
                  rcases hi with e | e
                  · rw [e, q0]; rfl
                  · rw [e, q1]; rfl) (fun j _ => HPB.out.free _)
                exact ⟨zs, fun ty => hz⟩
              have HPE := Lib.hid (setCells_PB zs (kk * 2) wr (Nat.le_refl _) (HPB.out.less (Nat.le_of_lt hkd)))
              have HFE := Lib.hid (HF.out.trans (setCells_fr g zs (kk * 2) wr))
              have hkc : (kk : Int) ≤ c := by omega
              go_wp2_with fail
              go_ret
              have hl := HC.out.len
              have hlow := HC.out.low
              rw [hl]
              refine ⟨rfl, ?_, HFE.out⟩
              refine PB_own ?_ hB (by rw [hl]; omega) hcm
              rw [hl]
              exact HPE.out.congr hlow
        · have HKP : Hid (ddk d (m + 1 + 1) = d.take (m + 1 + 1)) := by
            show _ = _
            rw [ddk_keep (fun h => hxy (by rw [← HX.out, ← HY.out]; exact h.2)), HT.out, ← take_snocP hlt]
          by_cases ha : x.a = y.a
          · have hb : x.b ≠ y.b := fun hb => hxy (pr_ext ha hb)
            have hb' : ((x.b : Int) == (y.b : Int)) = false := by simp; omega
            rw [ha] at x0
            go_wp2_with fail
            go_quiet (fail)
            go_wp2_with fail
            exact ⟨⟨m + 1 + 1, _, by omega, by omega, by simp, HKP, rfl⟩, by simp [intOf]; omega⟩
          · have ha' : ((x.a : Int) == (y.a : Int)) = false := by simp; omega
            go_wp2_with fail
            go_quiet (fail)
            go_wp2_with fail
            exact ⟨⟨m + 1 + 1, _, by omega, by omega, by simp, HKP, rfl⟩, by simp [intOf]; omega⟩
      · have hlt' : ¬ (((m + 1 : Nat) : Int)) < d.length := by omega
        have hlen : m + 1 = d.length := by omega
        have hdd : ddk d d.length = d := by rw [← hlen, HT.out, hlen, List.take_length]
        have HDD := Lib.hid hdd
        clear hdd hlen
        go_wp2_with fail
        go_ret
        rw [HDD.out]
        exact ⟨rfl, own_drew HOWN.out _, (Fr.refl _ _).drewN _⟩
end Go.Proofs.Ytpgadcacimjlaaa
