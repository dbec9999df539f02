/-
  Contracts of flyoverref08.All and Pairs. All pairs of a graph, vertex by vertex: they are the graph's pairs in order.
-/
import Derived.Test.YtchfccbneedejaaZAF
import Derived.Test.YtchfccbneedejaaZAM
import Derived.Test.YtchfccbneedejaaZAN
namespace Go.Proofs.Ytchfccbneedejaa
open Go.RowKit
/-- The pairs of one vertex with greater ones. -/
def rowQ (v : Nat) (q : List Nat) : List Pr := (q.filter (fun u => decide (v < u))).map (fun u => ⟨v, u⟩)
theorem rowQ_nil (v : Nat) : rowQ v [] = [] := rfl
theorem rowQ_snoc (v : Nat) (q : List Nat) (u : Nat) : rowQ v (q ++ [u]) = if v < u then rowQ v q ++ [⟨v, u⟩] else rowQ v q := by
  unfold rowQ
  rw [List.filter_append, List.map_append]
  by_cases h : v < u
  · rw [if_pos h]; simp [h]
  · rw [if_neg h]; simp [h]
theorem rowQ_len (v : Nat) (q : List Nat) : (rowQ v q).length ≤ q.length := by
  unfold rowQ
  rw [List.length_map]
  exact List.length_filter_le _ _
/-- The pairs of the first k vertices. -/
def allP (l : List A) (N : Nat) : Nat → List Pr
  | 0 => []
  | k + 1 => allP l N k ++ rowQ k (nbl l N k)
theorem mem_rowQ {v : Nat} {q : List Nat} {p : Pr} : p ∈ rowQ v q ↔ p.a = v ∧ p.b ∈ q ∧ v < p.b := by
  unfold rowQ
  rw [List.mem_map]
  constructor
  · rintro ⟨u, hu, rfl⟩
    have := List.mem_filter.1 hu
    exact ⟨rfl, this.1, by simpa using this.2⟩
  · rintro ⟨rfl, h1, h2⟩
    exact ⟨p.b, List.mem_filter.2 ⟨h1, by simpa using h2⟩, rfl⟩
theorem mem_allP {l : List A} {N : Nat} {p : Pr} : ∀ k, p ∈ allP l N k ↔ p.a < k ∧ p.b < N ∧ p.a < p.b ∧ nr l p.a p.b = true
  | 0 => by simp [allP]
  | k + 1 => by
    rw [allP, List.mem_append, mem_allP k, mem_rowQ, mem_nbl]
    constructor
    · rintro (⟨h1, h2⟩ | ⟨h1, ⟨h2, h3, _⟩, h4⟩)
      · exact ⟨by omega, h2⟩
      · subst h1; exact ⟨by omega, h2, h4, h3⟩
    · rintro ⟨h1, h2, h3, h4⟩
      by_cases e : p.a = k
      · subst e; exact .inr ⟨rfl, ⟨h2, h4, by omega⟩, h3⟩
      · exact .inl ⟨by omega, h2, h3, h4⟩
theorem nbl_sorted (l : List A) (N v : Nat) : (nbl l N v).Pairwise (· < ·) := List.Pairwise.filter _ List.pairwise_lt_range
theorem rowQ_sorted {v : Nat} {q : List Nat} (h : q.Pairwise (· < ·)) : (rowQ v q).Pairwise ltP := by
  unfold rowQ
  rw [List.pairwise_map]
  exact (h.filter _).imp (fun h => .inr ⟨rfl, h⟩)
theorem allP_sorted (l : List A) (N : Nat) : ∀ k, (allP l N k).Pairwise ltP
  | 0 => List.Pairwise.nil
  | k + 1 => by
    rw [allP, List.pairwise_append]
    refine ⟨allP_sorted l N k, rowQ_sorted (nbl_sorted l N k), fun x hx y hy => ?_⟩
    have h1 := ((mem_allP k).1 hx).1
    have h2 := (mem_rowQ.1 hy).1
    exact .inl (by omega)
theorem ltP_irr (x : Pr) : ¬ ltP x x := by unfold ltP; omega
theorem ltP_asy {x y : Pr} (h : ltP x y) : ¬ ltP y x := by unfold ltP at *; omega
/-- A list in order is told by its members. -/
theorem sorted_oneP : ∀ {a b : List Pr}, a.Pairwise ltP → b.Pairwise ltP → (∀ x, x ∈ a ↔ x ∈ b) → a = b
  | [], [], _, _, _ => rfl
  | [], y :: _, _, _, h => absurd ((h y).2 List.mem_cons_self) (by simp)
  | x :: _, [], _, _, h => absurd ((h x).1 List.mem_cons_self) (by simp)
  | x :: a, y :: b, ha, hb, h => by
    have ha' := List.pairwise_cons.1 ha
    have hb' := List.pairwise_cons.1 hb
    have e : x = y := by
      rcases List.mem_cons.1 ((h x).1 List.mem_cons_self) with e | e
      · exact e
      · rcases List.mem_cons.1 ((h y).2 List.mem_cons_self) with e2 | e2
        · exact e2.symm
        · exact absurd (ha'.1 y e2) (ltP_asy (hb'.1 x e))
    subst e
    congr 1
    refine sorted_oneP ha'.2 hb'.2 (fun z => ⟨fun hz => ?_, fun hz => ?_⟩)
    · rcases List.mem_cons.1 ((h z).1 (List.mem_cons_of_mem _ hz)) with e | e
      · subst e; exact absurd (ha'.1 z hz) (ltP_irr z)
      · exact e
    · rcases List.mem_cons.1 ((h z).2 (List.mem_cons_of_mem _ hz)) with e | e
      · subst e; exact absurd (hb'.1 z hz) (ltP_irr z)
      · exact e
theorem nr_lt {l : List A} {N : Nat} (hpo : ∀ x, x ∈ l → (0 ≤ x.f ∧ x.f < N) ∧ 0 ≤ x.t ∧ x.t < N) {v u : Nat} (h : nr l v u = true) : v < N ∧ u < N := by
  unfold nr at h
  obtain ⟨x, hx, hq⟩ := List.any_eq_true.1 h
  have := hpo x hx
  simp only [Bool.or_eq_true, Bool.and_eq_true, beq_iff_eq] at hq
  omega
theorem allP_prl {l : List A} {N : Nat} (hpo : ∀ x, x ∈ l → (0 ≤ x.f ∧ x.f < N) ∧ 0 ≤ x.t ∧ x.t < N) : allP l N N = prl l :=
  sorted_oneP (allP_sorted l N N) (prl_sorted l) (fun p => by
    rw [mem_allP, prl_mem (fun x hx => ⟨(hpo x hx).1.1, (hpo x hx).2.1⟩)]
    constructor
    · rintro ⟨_, _, h3, h4⟩; exact ⟨h3, h4⟩
    · rintro ⟨h3, h4⟩
      have := nr_lt hpo h4
      exact ⟨this.1, this.2, h3, h4⟩)
end Go.Proofs.Ytchfccbneedejaa
namespace Go.Proofs.Ytchfccbneedejaa
open Go.RowKit
theorem nbl_len (l : List A) (N v : Nat) : (nbl l N v).length ≤ N := allk_len _ _
theorem allP_len (l : List A) (N : Nat) : ∀ k, (allP l N k).length ≤ k * N
  | 0 => by simp [allP]
  | k + 1 => by
    rw [allP, List.length_append, Nat.succ_mul]
    exact Nat.add_le_add (allP_len l N k) (Nat.le_trans (rowQ_len _ _) (nbl_len _ _ _))
theorem take_snocQ {q : List Nat} {k : Nat} (h : k < q.length) : q.take (k + 1) = q.take k ++ [q.getD k 0] := by
  rw [List.take_succ_eq_append_getElem h]
  simp [List.getD, List.getElem?_eq_getElem h]
/-- Rows of unlike members lie in unlike blocks. -/
theorem own_apart {w : World} {b1 b2 : Nat} {e1 e2 : TypeId} {s1 s2 : Nat} {v1 v2 : Value} {n1 n2 : Nat} {x1 x2 : List Value} (h1 : w.ownsRow b1 e1 s1 v1 n1 x1) (h2 : w.ownsRow b2 e2 s2 v2 n2 x2) (he : e1 ≠ e2) : ∀ b, v1.ownBlock = some b → v2.ownBlock ≠ some b := by
  intro b hb hb2
  rcases h1.2 with ⟨rfl, _⟩ | ⟨g, c, cur, rfl, _, h3, _⟩
  · cases hb
  · rcases h2.2 with ⟨rfl, _⟩ | ⟨g', c', cur', rfl, _, h3', _⟩
    · cases hb2
    · have ea : g = b := Option.some.inj hb
      have eb : g' = b := Option.some.inj hb2
      subst ea
      subst eb
      rw [h3] at h3'
      have := Option.some.inj h3'
      injection this with _ e
      exact he e
theorem own_grown {w w' : World} {base : Nat} {e : TypeId} {size : Nat} {v : Value} {k : Nat} {xs : List Value} {ob : Option Nat} (h : w.ownsRow base e size v k xs) (hg : w.grownBy w' ob) (hne : ∀ b, v.ownBlock = some b → ob ≠ some b) : w'.ownsRow base e size v k xs := by
  refine ⟨h.1, ?_⟩
  rcases h.2 with h' | ⟨g, c, cur, h1, h2, h3, h4⟩
  · exact Or.inl h'
  · exact Or.inr ⟨g, c, cur, h1, h2, (hg.block g (lt_of_block h3) (hne g (by rw [h1]; rfl)).symm).trans h3, h4⟩
set_option maxRecDepth 100000 in
set_option maxHeartbeats 3200000 in
theorem rall8_any (n : Nat) (a : Option Addr) (l : List A) (cap : Nat) (w : World) (hE : chkE n l = 0) (hr : Arcs w a l) :
    Calls Try.prog 64 #[.agg #[.int .i64 n, .slice a l.length cap]] w fun e w' => ∃ v c, e = .returned (.slice v (prl l).length c) ∧ OwnP w' w.heap.size v c (prl l) ∧ Below w.heap.size w w' := by
  obtain ⟨h1n, hn, hl, hoa⟩ := chk_zero hE
  have hn' : n ≤ 1024 := by omega
  have HPO := Lib.hid hoa
  have HPR := Lib.hid (allP_prl hoa)
  have hb0 : Below w.heap.size w (w.alloc (.cells #[.int .i64 n, .slice a l.length cap] 24)) := (Below.refl _ _).alloc (Nat.le_refl _) _
  have hg := heap_top w (.cells #[.int .i64 n, .slice a l.length cap] 24)
  have HR := Lib.hid hr
  have HB0 := Lib.hid hb0
  obtain ⟨i0, hi, hz0, hz1, hz2⟩ := info_parts info41
  clear hb0 hr hoa hE h1n hn
  generalize hp : w.heap.size = p at *
  go_enter Try.func64, Try.ntmps64
  go_wp2_with fail
  generalize hW : w.alloc (.cells #[.int .i64 n, .slice a l.length cap] 24) = W at *
  clear hW
  have hpW : p < W.heap.size := lt_of_block hg
  go_loopw [3, 4] (fun s3 i wr => ∃ (k : Nat) (av : Option Addr) (cv len : Nat), k ≤ n ∧ i = .int .i64 k ∧ s3 = .slice av len cv ∧ Hid ((allP l n k).length = len) ∧ Hid (wr.ownsRow (p + 1) 42 2 (.slice av len cv) len (cellsP (allP l n k))) ∧ Hid (Below (p + 1) W wr)) (fun _ i _ => n - (intOf i).toNat)
  case atStart => exact ⟨0, none, 0, 0, Nat.zero_le _, rfl, rfl, rfl, World.ownsRow_nil _ _ _ _, Below.refl _ _⟩
  case round =>
    obtain ⟨k, av, cv, len, hk, rfl, rfl, HLN, HOW, HBR⟩ := hrel
    have hgr := (HBR.out.block p (by omega)).trans hg
    obtain ⟨⟨g0, g1⟩, _⟩ := two_cells hgr
    have hwr : W.heap.size ≤ wr.heap.size := HBR.out.size
    by_cases hlt : k < n
    · have hlt' : (k : Int) < n := by omega
      have HRr : Hid (Arcs wr a l) := HR.out.on (hp ▸ (HB0.out.trans (HBR.out.mono (by omega))))
      go_wp2_with fail
      refine (rnear_any n k a l cap wr hn' hl hlt HPO.out HRr.out).mono ?_
      rintro e w2 ⟨bn, rfl, hbn, htn, hb2⟩
      have HB2 : Hid (Below (p + 1) W w2) := HBR.out.trans (hb2.mono (by omega))
      have HO2 : Hid (w2.ownsRow (p + 1) 42 2 (.slice av len cv) len (cellsP (allP l n k))) := own_on HOW.out hb2
      have hz2' : wr.heap.size ≤ w2.heap.size := hb2.size
      clear hb2
      go_wp2_with fail
      refine (rall_any hn' htn).mono ?_
      rintro e w3 ⟨v3, rfl, hown3, hb3⟩
      obtain ⟨a3, c3, rfl⟩ := own_slice hown3
      obtain ⟨q, HQ⟩ := named (nbl l n k)
      have HQ' : Hid (allk (fun u => nr l k u && !decide (u = k)) n = q) := HQ
      rw [HQ'.out] at hown3 ⊢
      have hql : q.length ≤ 1024 := by rw [← HQ.out]; exact Nat.le_trans (nbl_len _ _ _) hn'
      have HB3 : Hid (Below (p + 1) W w3) := HB2.out.trans (hb3.mono (by omega))
      have HO3 : Hid (w3.ownsRow (p + 1) 42 2 (.slice av len cv) len (cellsP (allP l n k))) := own_on HO2.out hb3
      have HI3 := Lib.hid hown3
      have hz3 : w2.heap.size ≤ w3.heap.size := hb3.size
      have HLM : Hid (len ≤ 1048576) := by
        show _ ≤ _
        rw [← HLN.out]
        exact Nat.le_trans (allP_len l n k) (Nat.mul_le_mul (Nat.le_trans hk hn') hn')
      have HAN : Hid ((allP l n k ++ rowQ k (q.take 0)) = allP l n k) := by show _ = _; rw [List.take_zero, rowQ_nil, List.append_nil]
      clear hb3 hown3 HO2 HB2 HQ'
      go_wp2_with fail
      go_loopw [3, 6] (fun s3 i wx => ∃ (j : Nat) (au : Option Addr) (cu lu : Nat), j ≤ q.length ∧ i = .int .i64 j ∧ s3 = .slice au lu cu ∧ lu ≤ len + j ∧ Hid ((allP l n k ++ rowQ k (q.take j)).length = lu) ∧ Hid (wx.ownsRow (p + 1) 42 2 (.slice au lu cu) lu (cellsP (allP l n k ++ rowQ k (q.take j)))) ∧ Hid (wx.ownsRow w2.heap.size 3 1 (.slice a3 q.length c3) q.length (cellsI (ints q))) ∧ Hid (Below (p + 1) W wx)) (fun _ i _ => q.length - (intOf i).toNat)
      case atStart => exact ⟨0, av, cv, len, Nat.zero_le _, rfl, rfl, Nat.le_refl _, by rw [HAN.out]; exact HLN, by rw [HAN.out]; exact HO3, HI3, HB3⟩
      case round =>
        obtain ⟨j, au, cu, lu, hj, rfl, rfl, hlu, HLU, HOU, HOI, HBU⟩ := hrel
        have hwU : W.heap.size ≤ wr.heap.size := HBU.out.size
        have hlu' : lu ≤ 1048576 + 1024 := by have := HLM.out; omega
        by_cases hjq : j < q.length
        · obtain ⟨ix, ox, hix⟩ := (own_ints HOI.out rfl).get
          obtain ⟨rfl, hbl, hat⟩ := hix (by rw [ints_len]; omega)
          have hjq' : (j : Int) < q.length := by omega
          have y0 := hat j (by rw [ints_len]; exact hjq)
          rw [ints_getD hjq] at y0
          have HTS := Lib.hid (take_snocQ hjq)
          clear hat hix
          generalize q.getD j 0 = u at *
          have HRS := Lib.hid (rowQ_snoc k (q.take j) u)
          rw [← HTS.out] at HRS
          by_cases hku : k < u
          · have hku' : (k : Int) < u := by omega
            have e1 := HRS.out
            rw [if_pos hku] at e1
            have HE1 := Lib.hid e1
            clear e1 HRS hku
            have HNW := Lib.hid (news1 wr k u)
            have HO5 : Hid ((wr.alloc (.cells #[.int .i64 (k : Int), .int .i64 (u : Int)] 42)).ownsRow (p + 1) 42 2 (.slice au lu cu) lu (cellsP (allP l n k ++ rowQ k (q.take j)))) := HOU.out.alloc _
            have HI5 : Hid ((wr.alloc (.cells #[.int .i64 (k : Int), .int .i64 (u : Int)] 42)).ownsRow w2.heap.size 3 1 (.slice (some ⟨ix, ox, none⟩) q.length c3) q.length (cellsI (ints q))) := HOI.out.alloc _
            have HB5 : Hid (Below (p + 1) W (wr.alloc (.cells #[.int .i64 (k : Int), .int .i64 (u : Int)] 42))) := HBU.out.alloc (by omega) _
            have HS5 : Hid (p + 1 ≤ (wr.alloc (.cells #[.int .i64 (k : Int), .int .i64 (u : Int)] 42)).heap.size) := by show _ ≤ _; simp; omega
            have HCA : Hid (cellsP (allP l n k ++ rowQ k (q.take j)) ++ cellsP [⟨k, u⟩] = cellsP (allP l n k ++ rowQ k (q.take (j + 1)))) := by show _ = _; rw [HE1.out, ← List.append_assoc, cellsP_append (allP l n k ++ rowQ k (q.take j))]
            have HL5 : Hid ((allP l n k ++ rowQ k (q.take (j + 1))).length = lu + 1) := by show _ = _; rw [HE1.out, ← List.append_assoc, List.length_append, HLU.out]; rfl
            have HOL : Hid (∀ b, (Value.slice au lu cu).ownBlock = some b → p + 1 ≤ b) := fun b hb => (HOU.out.lt b hb).1
            go_wp2_with (at_builtin; refine wpList_append_own _ rfl (.tmp 29) (.tmp 36) 38 rfl (p + 1) 42 i0 _ 2 16 Try.underlying38 hi hz0 hz1 hz2 rfl (by decide) (.slice au lu cu) lu (cellsP (allP l n k ++ rowQ k (q.take j))) rfl HO5.out ⟨wr.heap.size, 0, none⟩ 1 1 (cellsP [⟨k, u⟩]) rfl rfl HNW.out (cellsP_one _) (by unfold maxLen; omega) (by omega) HS5.out ?_; intro v6 w6 hown6 hgrow6 hnil6; obtain ⟨g6, c6, hv6, _, _, _, _⟩ := own_shape hown6 (fun e => by have := hnil6.1 e; simp at this); subst hv6; rw [HCA.out] at hown6; have HO6 := Lib.hid hown6; have HI6 := Lib.hid (own_grown HI5.out hgrow6 (own_apart HI5.out HO5.out (by decide))); have HB6 := Lib.hid (HB5.out.grown hgrow6 (by have := HS5.out; omega) (by intro b hb; exact HOL.out b hb)); clear hown6 hgrow6 hnil6)
            exact ⟨⟨j + 1, some ⟨g6, 0, none⟩, c6, lu + 1, by omega, by simp, rfl, by omega, HL5, HO6, HI6, HB6⟩, by simp [intOf]; omega⟩
          · have hku' : ¬ (k : Int) < u := by omega
            have e1 := HRS.out
            rw [if_neg hku] at e1
            have HE1 := Lib.hid e1
            clear e1 HRS hku
            go_wp2_with fail
            exact ⟨⟨j + 1, au, cu, lu, by omega, by simp, rfl, by omega, by rw [HE1.out]; exact HLU, by rw [HE1.out]; exact HOU, HOI, HBU⟩, by simp [intOf]; omega⟩
        · have hjq' : ¬ (j : Int) < q.length := by omega
          have HAS : Hid (allP l n k ++ rowQ k (q.take j) = allP l n (k + 1)) := by
            show _ = _
            rw [List.take_of_length_le (by omega), ← HQ.out]; rfl
          go_wp2_with fail
          exact ⟨⟨k + 1, au, cu, lu, by omega, by simp, rfl, by rw [← HAS.out]; exact HLU, by rw [← HAS.out]; exact HOU, HBU⟩, by simp [intOf]; omega⟩
    · obtain rfl : k = n := by omega
      have hlt' : ¬ (k : Int) < k := by omega
      obtain rfl : len = (prl l).length := by rw [← HLN.out, HPR.out]
      rw [HPR.out] at HOW
      go_wp2_with fail
      go_ret
      exact ⟨av, cv, rfl, own_base HOW.out (by omega), HB0.out.trans (HBR.out.mono (by omega))⟩
end Go.Proofs.Ytchfccbneedejaa
