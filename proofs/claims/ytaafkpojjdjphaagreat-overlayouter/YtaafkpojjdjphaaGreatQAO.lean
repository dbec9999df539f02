import Derived.Test.YtaafkpojjdjphaaGreatQAN
set_option maxRecDepth 100000
namespace Go.Proofs.YtaafkpojjdjphaaGreat
open Go.RowKit
open N5 (Wk IsD)
theorem leastN {P : Nat → Prop} : ∀ k, P k → ∃ m, P m ∧ ∀ j, P j → m ≤ j := by
 intro k
 induction k using Nat.strongRecOn with
 | ind k ih =>
   intro hk
   by_cases h : ∃ j, j < k ∧ P j
   ·obtain ⟨j, hj, hp⟩ := h
    exact ih j hj hp
   ·exact ⟨k, hk, fun j hj => Nat.le_of_not_lt (fun hlt => h ⟨j, hlt, hj⟩)⟩
theorem wk_lo {l : List N5.A} (hw : ∀ x ∈ l, 0 ≤ x.w) {ok : Nat → Bool} {s v : Nat} {d : Int} (h : Wk l ok s v d) : 0 ≤ d := by
 induction h with
 | nil _ => exact Int.le_refl _
 | snoc hx _ _ ih => have := hw _ hx; omega
theorem isD_ex {l : List N5.A} (hw : ∀ x ∈ l, 0 ≤ x.w) (ok : Nat → Bool) (s : Nat) : ∃ F, IsD l ok s F := by
 have key : ∀ v, ∃ f : Int, 0 ≤ f ∧ f ≤ N5.Inf ∧ (f < N5.Inf → Wk l ok s v f) ∧ ∀ d, Wk l ok s v d → f ≤ d := fun v => by
  by_cases h : ∃ k : Nat, Wk l ok s v (k : Int)
  ·obtain ⟨k, hk⟩ := h
   obtain ⟨m, hm, hl⟩ := leastN (P := fun k => Wk l ok s v (k : Int)) k hk
   have hl2 : ∀ d, Wk l ok s v d → (m : Int) ≤ d := fun d hd => by
    have h0 := wk_lo hw hd
    have := hl d.toNat (by show Wk l ok s v ((d.toNat : Nat) : Int); rw [Int.toNat_of_nonneg h0]; exact hd)
    omega
   by_cases hi : (m : Int) ≤ N5.Inf
   ·exact ⟨m, by omega, hi, fun _ => hm, hl2⟩
   ·exact ⟨N5.Inf, by decide, Int.le_refl _, fun h => absurd h (by omega), fun d hd => by have := hl2 d hd; omega⟩
  ·exact ⟨N5.Inf, by decide, Int.le_refl _, fun h => absurd h (by omega), fun d hd => absurd ⟨d.toNat, by rw [Int.toNat_of_nonneg (wk_lo hw hd)]; exact hd⟩ h⟩
 exact ⟨fun v => (key v).choose, fun v => (key v).choose_spec.1, fun v => (key v).choose_spec.2.1, fun v => (key v).choose_spec.2.2.1, fun v => (key v).choose_spec.2.2.2⟩
theorem dF_isd {wl : List A} (hw : ∀ x ∈ wl, 0 ≤ x.w) (s : Nat) : IsD (wl.map toN) (fun _ => true) s (dF wl s) := by
 obtain ⟨F, h⟩ := isD_ex (l := wl.map toN) (fun x hx => by
  obtain ⟨y, hy, rfl⟩ := List.mem_map.1 hx
  exact hw y hy) (fun _ => true) s
 rw [dF_is h]
 exact h
theorem getA_nn {l : List A} (hw : ∀ x ∈ l, 0 ≤ x.w ∧ x.w < 4294967296) (i : Nat) : 0 ≤ (l.getD i A.zero).w := by
 by_cases h : i < l.length
 ·exact (hw _ (getA_memU h)).1
 ·rw [List.getD_eq_getElem?_getD, List.getElem?_eq_none (by omega)]
  exact Int.le_refl _
theorem wi_nn {l : List A} (hw : ∀ x ∈ l, 0 ≤ x.w ∧ x.w < 4294967296) (ids : List Nat) : ∀ x ∈ wiL l ids, 0 ≤ x.w := fun x hx => by
 unfold wiL wgL at hx
 obtain ⟨i, hi, rfl⟩ := List.mem_map.1 hx
 rw [List.mem_range] at hi
 show 0 ≤ (wtL l (ints ids)).getD i 0
 rw [wtL_at (by rw [ints_len]; exact hi)]
 exact getA_nn hw _
noncomputable def rD (n : Nat) (l : List A) (bs : List Int) (cs : List (List Int)) (j i : Nat) : List Int := mxL (wiL l (inV n l bs cs ((j : Int) + 1) i)) (bdV n l bs cs ((j : Int) + 1) i)
noncomputable def rMs (n : Nat) (l : List A) (bs : List Int) (cs : List (List Int)) (j : Nat) : List Mt := (List.range (szL (lvl cs j)).length).map (fun i => ⟨(j : Int) + 1, (i : Nat), 0, none, 0, rD n l bs cs j i⟩)
theorem rMs_at {n : Nat} {l : List A} {bs : List Int} {cs : List (List Int)} {j i : Nat} (h : i < (szL (lvl cs j)).length) : mt (rMs n l bs cs j) i = ⟨(j : Int) + 1, (i : Nat), 0, none, 0, rD n l bs cs j i⟩ := by
 unfold mt rMs
 rw [List.getD_eq_getElem?_getD, List.getElem?_map, List.getElem?_range h]
 rfl
theorem rMs_rgt {n : Nat} {l : List A} {bs : List Int} {cs : List (List Int)} (hw : ∀ x ∈ l, 0 ≤ x.w ∧ x.w < 4294967296) (j : Nat) : Rgt n l bs cs j (rMs n l bs cs j) := by
 have hl : (rMs n l bs cs j).length = (szL (lvl cs j)).length := by simp [rMs]
 refine ⟨hl, fun i hi => ?_, fun i hi t ht => dF_isd (wi_nn hw _) _⟩
 rw [rMs_at (by rw [← hl]; exact hi)]
 exact ⟨rfl, rfl, rfl, rfl⟩
theorem rD_len (n : Nat) (l : List A) (bs : List Int) (cs : List (List Int)) (j i : Nat) : (rD n l bs cs j i).length = (bdV n l bs cs ((j : Int) + 1) i).length * (bdV n l bs cs ((j : Int) + 1) i).length := mxL_len _ _
theorem rD_val {n : Nat} {l : List A} {bs : List Int} {cs : List (List Int)} (hw : ∀ x ∈ l, 0 ≤ x.w ∧ x.w < 4294967296) {j i : Nat} : ∀ k, k < (rD n l bs cs j i).length → 0 ≤ (rD n l bs cs j i).getD k 0 ∧ (rD n l bs cs j i).getD k 0 ≤ N5.Inf := fun k hk => by
 obtain ⟨h1, h2, h3⟩ := mxL_at hk
 have hd := dF_isd (wi_nn hw (inV n l bs cs ((j : Int) + 1) i)) ((bdV n l bs cs ((j : Int) + 1) i).getD (k / (bdV n l bs cs ((j : Int) + 1) i).length) 0)
 have e : (rD n l bs cs j i).getD k 0 = _ := h3
 rw [e]
 exact ⟨hd.lo _, hd.hi _⟩
theorem kidM_D {M M' : List Mt} {K : List Nat} (h : ∀ i, i < K.length → (mt M (K.getD i 0)).D = (mt M' (K.getD i 0)).D) : (fun i => (mt (kidM M K) i).D) = fun i => (mt (kidM M' K) i).D := by
 funext i
 by_cases hi : i < K.length
 ·rw [kidM_at hi, kidM_at hi]; exact h i hi
 ·unfold mt
  rw [List.getD_eq_getElem?_getD, List.getD_eq_getElem?_getD, List.getElem?_eq_none (by rw [kidM_len]; omega), List.getElem?_eq_none (by rw [kidM_len]; omega)]
theorem upL_nn {n : Nat} {l : List A} {bs : List Int} {cs : List (List Int)} {lv ce : Int} {ids : List Nat} {M : List Mt} (hw : ∀ x ∈ l, 0 ≤ x.w ∧ x.w < 4294967296) (hM : ∀ i t, t < (mt M i).D.length → 0 ≤ (mt M i).D.getD t 0) (hb : btV n l bs cs lv ce = ids) : ∀ x ∈ upL n l bs cs lv ce (wtL l (ints ids)) M, 0 ≤ x.w := fun x hx => by
 unfold upL at hx
 rcases (adA_mem _ _).1 hx with h | ⟨h, _⟩
 ·obtain ⟨i, hi, t, ht, e, _⟩ := (upR_mem _).1 h
  rw [e]
  exact hM i t ht
 ·rw [hb] at h
  exact wi_nn hw ids x h
theorem rise_D {n : Nat} {l : List A} {bs : List Int} {cs : List (List Int)} {j q : Nat} {M2 : List Mt} (hNR : NR n l bs cs) (hj : j + 1 < bs.length) (hq : q < (szL (lvl cs (j + 1))).length) (hw : ∀ x ∈ l, 0 ≤ x.w ∧ x.w < 4294967296) (h2 : ∀ i, i < (szL (lvl cs j)).length → (mt M2 i).D = rD n l bs cs j i) :
  mxL (upL n l bs cs (((j + 1 : Nat) : Int) + 1) (q : Nat) (wtL l (ints (btV n l bs cs (((j + 1 : Nat) : Int) + 1) (q : Nat)))) (kidM M2 (chL (lvl cs j) (lvl cs (j + 1)) (q : Nat)))) (bdV n l bs cs (((j + 1 : Nat) : Int) + 1) (q : Nat)) = rD n l bs cs (j + 1) q := by
 obtain ⟨b1, b2, _⟩ := hNR.lv (k := j) (by omega)
 have e0 : (((j + 1 : Nat) : Int) + 1) = (j : Int) + 2 := by omega
 have t2 : ((j : Int) + 2).toNat - 2 = j := by omega
 have t1 : ((j : Int) + 2).toNat - 1 = j + 1 := by omega
 have hD := kidM_D (M := M2) (M' := rMs n l bs cs j) (K := chL (lvl cs j) (lvl cs (j + 1)) (q : Nat)) (fun i hi => by
  rw [h2 _ (ch_lt b2 hi), rMs_at (ch_lt b2 hi)])
 have hU : upL n l bs cs (((j + 1 : Nat) : Int) + 1) (q : Nat) (wtL l (ints (btV n l bs cs (((j + 1 : Nat) : Int) + 1) (q : Nat)))) (kidM M2 (chL (lvl cs j) (lvl cs (j + 1)) (q : Nat))) = upL n l bs cs (((j + 1 : Nat) : Int) + 1) (q : Nat) (wtL l (ints (btV n l bs cs (((j + 1 : Nat) : Int) + 1) (q : Nat)))) (kidM (rMs n l bs cs j) (chL (lvl cs j) (lvl cs (j + 1)) (q : Nat))) := by
  unfold upL
  rw [hD]
 rw [hU]
 have hF : ∀ s, IsD ((upL n l bs cs (((j + 1 : Nat) : Int) + 1) (q : Nat) (wtL l (ints (btV n l bs cs (((j + 1 : Nat) : Int) + 1) (q : Nat)))) (kidM (rMs n l bs cs j) (chL (lvl cs j) (lvl cs (j + 1)) (q : Nat)))).map toN) (fun _ => true) s (dF (upL n l bs cs (((j + 1 : Nat) : Int) + 1) (q : Nat) (wtL l (ints (btV n l bs cs (((j + 1 : Nat) : Int) + 1) (q : Nat)))) (kidM (rMs n l bs cs j) (chL (lvl cs j) (lvl cs (j + 1)) (q : Nat)))) s) := fun s => dF_isd (upL_nn hw (fun i t ht => by
  by_cases hi : i < (chL (lvl cs j) (lvl cs (j + 1)) (q : Nat)).length
  ·rw [kidM_at hi, rMs_at (ch_lt b2 hi)] at ht ⊢
   exact (rD_val hw t ht).1
  ·unfold mt at ht
   rw [List.getD_eq_getElem?_getD, List.getElem?_eq_none (by rw [kidM_len]; omega)] at ht
   exact absurd ht (by simp [Mt.zero])) rfl) s
 have h := (up_right hNR hj hq hw (rMs_rgt hw (j + 1)) (rMs_rgt hw j)).2 (fun i _ => hF _)
 rw [rMs_at hq] at h
 exact h
structure Fit (n : Nat) (l : List A) (bs : List Int) (cs : List (List Int)) (j : Nat) (ep : Int) (M : List Mt) : Prop where
 len : M.length = (szL (lvl cs j)).length
 fit : ∀ i, i < M.length → (mt M i).lv = (j : Int) + 1 ∧ (mt M i).ce = i ∧ (0 ≤ (mt M i).ep ∧ (mt M i).ep ≤ ep) ∧ (mt M i).D.length = (bdV n l bs cs ((j : Int) + 1) i).length * (bdV n l bs cs ((j : Int) + 1) i).length
theorem up_fit {n : Nat} {l : List A} {bs : List Int} {cs : List (List Int)} {j q : Nat} {ep : Int} {M2 : List Mt} (hNR : NR n l bs cs) (hj : j + 1 < bs.length) (hq : q < (szL (lvl cs (j + 1))).length) (he : epB ep = true) (h2 : Fit n l bs cs j ep M2) :
  upE n l bs cs (((j + 1 : Nat) : Int) + 1) (q : Nat) ep (btV n l bs cs (((j + 1 : Nat) : Int) + 1) (q : Nat)).length (kidM M2 (chL (lvl cs j) (lvl cs (j + 1)) (q : Nat))) = 0 := by
 obtain ⟨b1, b2, _⟩ := hNR.lv (k := j) (by omega)
 have e0 : (((j + 1 : Nat) : Int) + 1) = (j : Int) + 2 := by omega
 rw [e0]
 have hin : inE n l bs cs ((j : Int) + 2) (q : Nat) = 0 := by
  have := inE_ok hNR hj hq
  rw [e0] at this
  exact this
 have hbt : btE n l bs cs ((j : Int) + 2) (q : Nat) = 0 := by
  unfold btE
  rw [hin, if_neg (fun h => h rfl), if_neg (by omega)]
 have hki : ∀ i, i < (chL (lvl cs j) (lvl cs (j + 1)) (q : Nat)).length → (chL (lvl cs j) (lvl cs (j + 1)) (q : Nat)).getD i 0 < M2.length := fun i hi => by
  rw [h2.len]
  exact ch_lt b2 hi
 have t2 : ((j : Int) + 2).toNat - 2 = j := by omega
 have t1 : ((j : Int) + 2).toNat - 1 = j + 1 := by omega
 have s1 : (j : Int) + 2 - 1 = (j : Int) + 1 := by omega
 have he2 : 0 ≤ ep ∧ ep ≤ 1073741824 := by simpa [epB] using he
 unfold upE
 rw [hbt, if_neg (fun h => h rfl), if_neg (by unfold jbE; rw [if_neg (by rw [he]; decide), if_neg (by simp)]; simp), t2, t1, s1, if_neg (by rw [kidM_len]; simp), if_pos]
 rw [List.all_eq_true]
 intro i hi
 rw [List.mem_range, kidM_len] at hi
 obtain ⟨r1, r2, r3, r4⟩ := h2.fit _ (hki i hi)
 unfold kidB hsB mbB epB
 rw [kidM_at hi, r1, r2, r4]
 have g1 : decide ((0 : Int) ≤ (mt M2 ((chL (lvl cs j) (lvl cs (j + 1)) (q : Nat)).getD i 0)).ep) = true := decide_eq_true r3.1
 have g2 : decide ((mt M2 ((chL (lvl cs j) (lvl cs (j + 1)) (q : Nat)).getD i 0)).ep ≤ 1073741824) = true := decide_eq_true (by omega)
 have g3 : decide ((mt M2 ((chL (lvl cs j) (lvl cs (j + 1)) (q : Nat)).getD i 0)).ep ≤ ep) = true := decide_eq_true r3.2
 rw [g1, g2, g3]
 simp
end Go.Proofs.YtaafkpojjdjphaaGreat
namespace Go.Proofs.YtaafkpojjdjphaaGreat
open Go.RowKit
structure TR (ty e : TypeId) (sz : Nat) (w : World) (B g n : Nat) (rv : Nat → Value) (ln : Nat → Nat) (xs : Nat → List Value) : Prop where
 ne : ty ≠ e
 tb : TbV w g n ty rv
 gb : B ≤ g
 ro : ∀ v, v < n → w.ownsRow B e sz (rv v) (ln v) (xs v)
 ap : ∀ u v, u < n → v < n → u ≠ v → ∀ k, (rv u).ownBlock = some k → (rv v).ownBlock ≠ some k
theorem TR.on {ty e : TypeId} {sz : Nat} {w w' : World} {B g n : Nat} {rv : Nat → Value} {ln : Nat → Nat} {xs : Nat → List Value} (h : TR ty e sz w B g n rv ln xs) (hb : Below w.heap.size w w') : TR ty e sz w' B g n rv ln xs :=
 ⟨h.ne, h.tb.same (hb.block g h.tb.lt), h.gb, fun v hv => own_on (h.ro v hv) hb, h.ap⟩
theorem TR.kg {ty e : TypeId} {sz : Nat} {w : World} {B g n : Nat} {rv : Nat → Value} {ln : Nat → Nat} {xs : Nat → List Value} (h : TR ty e sz w B g n rv ln xs) {v : Nat} (hv : v < n) : (rv v).ownBlock ≠ some g := fun e' => by
 obtain ⟨cs, fz, h1⟩ := Lib.ownsRow_kind (h.ro v hv) g e'
 have h2 := h.tb
 unfold TbV at h2
 rw [h2] at h1
 injection h1 with h1
 injection h1 with _ h1 _
 exact h.ne h1
theorem TR.congr {ty e : TypeId} {sz : Nat} {w : World} {B g n : Nat} {rv : Nat → Value} {ln ln' : Nat → Nat} {xs xs' : Nat → List Value} (h : TR ty e sz w B g n rv ln xs) (h1 : ∀ v, v < n → ln v = ln' v) (h2 : ∀ v, v < n → xs v = xs' v) : TR ty e sz w B g n rv ln' xs' :=
 ⟨h.ne, h.tb, h.gb, fun v hv => by rw [← h1 v hv, ← h2 v hv]; exact h.ro v hv, h.ap⟩
theorem TR.rb {ty e : TypeId} {sz : Nat} {w : World} {B g n : Nat} {rv : Nat → Value} {ln : Nat → Nat} {xs : Nat → List Value} (h : TR ty e sz w B g n rv ln xs) {b : Nat} (hb : RB g n rv b) : B ≤ b ∧ b < w.heap.size := by
 rcases hb with e | ⟨v, hv, e⟩
 ·subst e
  exact ⟨h.gb, h.tb.lt⟩
 ·exact own_lt (h.ro v hv) e
theorem TR.below {ty e : TypeId} {sz : Nat} {w w' : World} {B g n : Nat} {rv rv' : Nat → Value} {ln : Nat → Nat} {xs : Nat → List Value} (h : TR ty e sz w B g n rv ln xs) (ht : RdT g n w rv w' rv') (hB : B ≤ w.heap.size) : Below B w w' := ht.fr.below hB (fun _ hb => (h.rb hb).1)
theorem TR.put {ty e : TypeId} {sz : Nat} {w w1 w7 : World} {B g n : Nat} {rv : Nat → Value} {ln : Nat → Nat} {xs : Nat → List Value} (h : TR ty e sz w B g n rv ln xs) {f : Nat} (hf : f < n) (hb1 : Below w.heap.size w w1) (hg : w1.grownBy w7 (rv f).ownBlock) {gg cap m : Nat} {ys : List Value} (ho : w7.ownsRow B e sz (.slice (some ⟨gg, 0, none⟩) m cap) m ys) (hat : (rv f).ownBlock = some gg ∨ w.heap.size ≤ gg) :
  TR ty e sz (w7.setCell ⟨g, f, none⟩ (.slice (some ⟨gg, 0, none⟩) m cap)) B g n (updV rv f (.slice (some ⟨gg, 0, none⟩) m cap)) (fun v => if v = f then m else ln v) (fun v => if v = f then ys else xs v) ∧ RdT g n w rv (w7.setCell ⟨g, f, none⟩ (.slice (some ⟨gg, 0, none⟩) m cap)) (updV rv f (.slice (some ⟨gg, 0, none⟩) m cap)) := by
 have hgl := h.tb.lt
 have hkg : ∀ v, v < n → (rv v).ownBlock ≠ some g := fun v hv => h.kg hv
 have hggg : gg ≠ g := fun e => by
  rcases hat with h1 | h1
  ·exact hkg _ hf (by rw [h1, e])
  ·omega
 have h7 : ∀ k, k < w.heap.size → (rv f).ownBlock ≠ some k → w7.heap[k]? = w.heap[k]? := fun k hk hne => (hg.block k (Nat.lt_of_lt_of_le hk hb1.size) (fun e => hne e.symm)).trans (hb1.block k hk)
 have hs : ∀ (y : Value) (k : Nat), k ≠ g → (w7.setCell ⟨g, f, none⟩ y).heap[k]? = w7.heap[k]? := fun y k hk => Below.heap_setCell _ _ _ _ hk
 refine ⟨⟨h.ne, ?_, h.gb, fun v hv => ?_, fun u v hu hv huv k hk => ?_⟩, ?_⟩
 ·exact (TbV.same h.tb (h7 g hgl (hkg _ hf))).set _ _
 ·by_cases e : v = f
  ·subst e
   rw [updV_self, if_pos rfl, if_pos rfl]
   refine own_keep ho (fun k hk => hs _ k (fun e => hggg ?_))
   have : gg = k := by simpa [Value.ownBlock] using hk
   omega
  ·rw [updV_ne _ _ e, if_neg e, if_neg e]
   refine own_keep (h.ro v hv) (fun k hk => (hs _ k (fun e2 => hkg v hv (by rw [hk, e2]))).trans (h7 k (own_lt (h.ro v hv) hk).2 (fun e2 => ?_)))
   exact h.ap _ _ hf hv (fun e3 => e e3.symm) k e2 hk
 ·by_cases e1 : u = f
  ·subst e1
   rw [updV_self] at hk
   have e2 : gg = k := by simpa [Value.ownBlock] using hk
   rw [updV_ne _ _ (fun e => huv e.symm)]
   intro h3
   rcases hat with h4 | h4
   ·exact h.ap _ _ hf hv huv k (by rw [h4, e2]) h3
   ·have := (own_lt (h.ro v hv) h3).2
    omega
  ·rw [updV_ne _ _ e1] at hk
   by_cases e2 : v = f
   ·subst e2
    rw [updV_self]
    intro h3
    have e3 : gg = k := by simpa [Value.ownBlock] using h3
    rcases hat with h4 | h4
    ·exact h.ap _ _ hu hf huv k hk (by rw [h4, e3])
    ·have := (own_lt (h.ro u hu) hk).2
     omega
   ·rw [updV_ne _ _ e2]
    exact h.ap _ _ hu hv huv k hk
 ·have hfr : Fr (RB g n rv) w w7 := ⟨hg.os.trans hb1.os, hg.tape.trans hb1.tape, hg.output.trans hb1.output, Nat.le_trans hb1.size hg.size, fun k hk hn => h7 k hk (fun e => hn (Or.inr ⟨_, hf, e⟩))⟩
  refine ⟨hfr.setCell ⟨g, f, none⟩ _ (Or.inl rfl), fun b hb => ?_⟩
  rcases hb with e | ⟨v, hv, e⟩
  ·exact Or.inl (Or.inl e)
  ·by_cases e1 : v = f
   ·subst e1
    rw [updV_self] at e
    have e2 : gg = b := by simpa [Value.ownBlock] using e
    rcases hat with h4 | h4
    ·exact Or.inl (Or.inr ⟨_, hf, by rw [h4, e2]⟩)
    ·exact Or.inr (by omega)
   ·rw [updV_ne _ _ e1] at e
    exact Or.inl (Or.inr ⟨v, hv, e⟩)
theorem TR.new {ty e : TypeId} {sz : Nat} (hne : ty ≠ e) (w : World) (n : Nat) : TR ty e sz (w.alloc (.cells ((List.range n).map (fun _ => Value.slice none 0 0)).toArray ty)) w.heap.size w.heap.size n (fun _ => .slice none 0 0) (fun _ => 0) (fun _ => []) :=
 ⟨hne, heap_top _ _, Nat.le_refl _, fun _ _ => World.ownsRow_nil _ _ _ _, fun _ _ _ _ _ _ h => absurd h (by simp [Value.ownBlock])⟩
theorem own_other {w w' : World} {B : Nat} {e : TypeId} {size : Nat} {v : Value} {n : Nat} {xs : List Value} {D : Nat → Prop} (h : w.ownsRow B e size v n xs) (hf : Fr D w w') (hD : ∀ k, v.ownBlock = some k → ¬ D k) : w'.ownsRow B e size v n xs :=
 own_keep h (fun k hk => hf.block k (own_lt h hk).2 (hD k hk))
theorem TR.other {ty e e2 : TypeId} {sz sz2 : Nat} {w w' : World} {B B2 g n : Nat} {rv rv' : Nat → Value} {ln : Nat → Nat} {xs : Nat → List Value} (h : TR ty e sz w B g n rv ln xs) (ht : RdT g n w rv w' rv') {v : Value} {m : Nat} {ys : List Value} (ho : w.ownsRow B2 e2 sz2 v m ys) (h1 : e2 ≠ ty) (h2 : e2 ≠ e) : w'.ownsRow B2 e2 sz2 v m ys := by
 refine own_other ho ht.fr (fun k hk hd => ?_)
 obtain ⟨cs, fz, q1⟩ := Lib.ownsRow_kind ho k hk
 rcases hd with rfl | ⟨u, hu, hk2⟩
 ·have q2 := h.tb
  unfold TbV at q2
  rw [q2] at q1
  injection q1 with q1
  injection q1 with _ q1 _
  exact h1 q1.symm
 ·obtain ⟨cs2, fz2, q2⟩ := Lib.ownsRow_kind (h.ro u hu) k hk2
  rw [q2] at q1
  injection q1 with q1
  injection q1 with _ q1 _
  exact h2 q1.symm
structure Lw where
 a : Option Addr
 c : Nat
 M : List Mt
def Lw.zero : Lw := ⟨none, 0, []⟩
def lw (O : List Lw) (j : Nat) : Lw := O.getD j Lw.zero
def Ovs (w : World) (a : Option Addr) (O : List Lw) : Prop :=
 (O = [] ∨ ∃ b o, a = some ⟨b, o, none⟩ ∧ b < w.heap.size ∧ ∀ j, j < O.length → w.cell? ⟨b, o + j, none⟩ = some (.slice (lw O j).a (lw O j).M.length (lw O j).c)) ∧ ∀ j, j < O.length → Mts w (lw O j).a (lw O j).M ∧ (lw O j).M.length ≤ 9223372036854775807
theorem Ovs.on {w w' : World} {a : Option Addr} {O : List Lw} (h : Ovs w a O) (hb : Below w.heap.size w w') : Ovs w' a O := by
 refine ⟨?_, fun j hj => ⟨(h.2 j hj).1.on hb, (h.2 j hj).2⟩⟩
 rcases h.1 with h1 | ⟨b, o, h1, h2, h3⟩
 ·exact .inl h1
 ·exact .inr ⟨b, o, h1, Nat.lt_of_lt_of_le h2 hb.size, fun j hj => (hb.cell (p := ⟨b, o + j, none⟩) h2).trans (h3 j hj)⟩
theorem Ovs.get {w : World} {a : Option Addr} {O : List Lw} (h : Ovs w a O) : ∃ b o, 0 < O.length → a = some ⟨b, o, none⟩ ∧ b < w.heap.size ∧ ∀ j, j < O.length → w.cell? ⟨b, o + j, none⟩ = some (.slice (lw O j).a (lw O j).M.length (lw O j).c) := by
 rcases h.1 with h1 | ⟨b, o, h1⟩
 ·subst h1; exact ⟨0, 0, fun h => absurd h (by simp)⟩
 ·exact ⟨b, o, fun _ => h1⟩
def Bnd (M : List Mt) : Prop := ∀ i, i < M.length → (mt M i).D.length ≤ 9223372036854775807 ∧ ∀ k, k < (mt M i).D.length → 0 ≤ (mt M i).D.getD k 0 ∧ (mt M i).D.getD k 0 ≤ N5.Inf
theorem Bnd.snoc {M : List Mt} {m : Mt} (h : Bnd M) (hm : m.D.length ≤ 9223372036854775807 ∧ ∀ k, k < m.D.length → 0 ≤ m.D.getD k 0 ∧ m.D.getD k 0 ≤ N5.Inf) : Bnd (M ++ [m]) := fun i hi => by
 by_cases e : i = M.length
 ·subst e; rw [mt_snoc_eq]; exact hm
 ·rw [mt_snoc_lt (by simp at hi; omega)]; exact h i (by simp at hi; omega)
theorem mts_own {w : World} {B : Nat} {a : Option Addr} {c : Nat} {M : List Mt} (hr : w.ownsRow B 40 4 (.slice a M.length c) M.length (cellsM M)) (hm : MtO w B M) (hb : Bnd M) : Mts w a M := by
 refine ⟨?_, fun j hj => ⟨dts_own (hm j hj), hb j hj⟩⟩
 by_cases h0 : 0 < M.length
 ·obtain ⟨g, c2, e, _, hl⟩ := World.ownsRow.form hr h0
  cases e
  refine Or.inr ⟨g, 0, rfl, hl, fun j hj => ?_⟩
  obtain ⟨q0, q1, q2, q3⟩ := cellsM_at M j hj
  have hml := cellsM_len M
  rw [Nat.zero_add, World.ownsRow.cellAt hr (j * 4) (by omega), World.ownsRow.cellAt hr (j * 4 + 1) (by omega), World.ownsRow.cellAt hr (j * 4 + 2) (by omega), World.ownsRow.cellAt hr (j * 4 + 3) (by omega)]
  exact ⟨q0, q1, q2, q3⟩
 ·exact Or.inl (List.eq_nil_of_length_eq_zero (by omega))
theorem wq_zero {n : Nat} {l : List A} {ids : List Nat} (h : chkE n l = 0) (h8 : ids.length ≤ 8192) (hid : ∀ i, i < ids.length → ids.getD i 0 < l.length) : wqE n l (ints ids) = 0 := by
 unfold wqE
 rw [h, if_neg (fun h => h rfl), if_neg (by rw [ints_len]; omega), if_pos]
 rw [List.all_eq_true]
 intro x hx
 unfold ints at hx
 obtain ⟨k, hk, rfl⟩ := List.mem_map.1 hx
 obtain ⟨i, hi, e⟩ := mem_getD.1 hk
 have := hid i hi
 exact decide_eq_true (by omega)
theorem wt_ok {l : List A} {ids : List Nat} (hwt : ∀ x ∈ l, 0 ≤ x.w ∧ x.w < 4294967296) (hid : ∀ i, i < ids.length → ids.getD i 0 < l.length) : ∀ i, i < (wtL l (ints ids)).length → 0 ≤ (wtL l (ints ids)).getD i 0 ∧ (wtL l (ints ids)).getD i 0 < 4294967296 := fun i hi => by
 have hi' : i < ids.length := by simpa [wtL, ints_len] using hi
 rw [wtL_at (by rw [ints_len]; exact hi'), ints_getD hi', Int.toNat_natCast]
 exact hwt _ (getA_memU (hid i hi'))
theorem five_cells {w : World} {g : Nat} {a b c d e : Value} {t : TypeId} (h : w.heap[g]? = some (.cells #[a, b, c, d, e] t)) : w.cell? ⟨g, 0, none⟩ = some a ∧ w.cell? ⟨g, 1, none⟩ = some b ∧ w.cell? ⟨g, 2, none⟩ = some c ∧ w.cell? ⟨g, 3, none⟩ = some d ∧ w.cell? ⟨g, 4, none⟩ = some e := by
 simp [World.cell?, h]
set_option maxHeartbeats 3200000 in
theorem ovLeaf_any (n : Nat) (a : Option Addr) (l : List A) (cap : Nat) (ba : Option Addr) (bs : List Int) (bc : Nat) (ca : Option Addr) (C : List Cl) (cc : Nat) (ep : Int) (q : Nat) (w : World) (hq : q < (szL (lvl (csl C) 0)).length) (hNR : NR n l bs (csl C)) (he : epB ep = true) (hl : l.length ≤ 9223372036854775807) (hbl : bs.length ≤ 9223372036854775807) (hr : Arcs w a l) (hi : Ints w ba bs) (hR : Rws w ca C) (hwt : ∀ x ∈ l, 0 ≤ x.w ∧ x.w < 4294967296) :
  Calls Tryz.prog 162 #[.agg #[.int .i64 n, .slice a l.length cap, .slice ba bs.length bc, .slice ca C.length cc, .int .i64 ep], .int .i64 (q : Nat)] w fun e w' => ∃ v c, e = .returned (.tuple #[.agg #[.int .i64 1, .int .i64 (q : Nat), .int .i64 ep, .slice v (rD n l bs (csl C) 0 q).length c], .int .i64 0]) ∧ w'.ownsRow w.heap.size 48 1 (.slice v (rD n l bs (csl C) 0 q).length c) (rD n l bs (csl C) 0 q).length (cellsU (rD n l bs (csl C) 0 q)) ∧ Below w.heap.size w w' := by
 have h0 : 0 < bs.length := hNR.2.1
 have HIN0 : Hid (inE n l bs (csl C) 1 (q : Nat) = 0) := by
  have := inE_ok hNR h0 hq
  exact this
 obtain ⟨n2, en2, _, hid, h8, _⟩ := by_facts HIN0.out
 have HID := Lib.hid hid
 have HXE : Hid (mxL (wgL l (inV n l bs (csl C) 1 (q : Nat)) (wtL l (ints (inV n l bs (csl C) 1 (q : Nat))))) (bdV n l bs (csl C) 1 (q : Nat)) = rD n l bs (csl C) 0 q) := rfl
 have HIc : Hid (∀ W2, Below w.heap.size w W2 → Calls Tryz.prog 31 #[.agg #[.int .i64 n, .slice a l.length cap], .agg #[.slice ba bs.length bc, .slice ca C.length cc], .int .i64 1, .int .i64 (q : Nat)] W2 fun e w' => ∃ v, e = .returned (.tuple #[.slice v (inV n l bs (csl C) 1 (q : Nat)).length (inV n l bs (csl C) 1 (q : Nat)).length, .int .i64 0]) ∧ RowI w' W2.heap.size v (ints (inV n l bs (csl C) 1 (q : Nat))) ∧ Below W2.heap.size W2 w') := fun W2 hb => by
  have h := inner_any n a l cap ba bs bc ca C cc 1 (q : Nat) W2 hl hbl (hr.on hb) (hi.on hb) (hR.on hb)
  rw [HIN0.out] at h
  exact h
 have HWE : Hid (∀ W2, Below w.heap.size w W2 → ∀ (v : Option Addr) (ids : List Nat) (dc : Nat), ids.length ≤ 8192 → (∀ i, i < ids.length → ids.getD i 0 < l.length) → Ints W2 v (ints ids) → Calls Tryz.prog 32 #[.agg #[.int .i64 n, .slice a l.length cap], .slice v ids.length dc] W2 fun e w' => ∃ g, e = .returned (.tuple #[.slice (some ⟨g, 0, none⟩) ids.length ids.length, .int .i64 0]) ∧ Wts w' (some ⟨g, 0, none⟩) (wtL l (ints ids)) ∧ Below W2.heap.size W2 w') := fun W2 hb v ids dc h8 hid hin => by
  have h := weights_any n a l cap v (ints ids) dc W2 hl (by rw [ints_len]; omega) (hr.on hb) hin
  rw [ints_len] at h
  refine h.mono ?_
  rintro e w' ⟨h1, _, h3⟩
  obtain ⟨g, e1, _, e2⟩ := h1 (wq_zero hNR.1 h8 hid)
  exact ⟨g, e1, e2, h3⟩
 have HWEc := Lib.hid (fun W2 hb v dc hin => HWE.out W2 hb v (inV n l bs (csl C) 1 (q : Nat)) dc h8 HID.out hin)
 obtain ⟨X, HX⟩ := named (rD n l bs (csl C) 0 q)
 rw [HX.out] at HXE
 rw [HX.out]
 have HLf : Hid (∀ W2, Below w.heap.size w W2 → ∀ g, Wts W2 (some ⟨g, 0, none⟩) (wtL l (ints (inV n l bs (csl C) 1 (q : Nat)))) → Calls Tryz.prog 33 #[.agg #[.int .i64 n, .slice a l.length cap], .agg #[.slice ba bs.length bc, .slice ca C.length cc], .int .i64 (q : Nat), .int .i64 ep, .slice (some ⟨g, 0, none⟩) (inV n l bs (csl C) 1 (q : Nat)).length (inV n l bs (csl C) 1 (q : Nat)).length] W2 fun e w' => ∃ v c', e = .returned (.tuple #[.agg #[.int .i64 1, .int .i64 (q : Nat), .int .i64 ep, .slice v X.length c'], .int .i64 0]) ∧ w'.ownsRow W2.heap.size 48 1 (.slice v X.length c') X.length (cellsU X) ∧ Below W2.heap.size W2 w') := fun W2 hb g hw => by
  have h := leaf_any n a l cap ba bs bc ca C cc (q : Nat) ep (some ⟨g, 0, none⟩) (wtL l (ints (inV n l bs (csl C) 1 (q : Nat)))) (inV n l bs (csl C) 1 (q : Nat)).length W2 hl hbl (hr.on hb) (hi.on hb) (hR.on hb) hw (wt_ok hwt HID.out)
  have hwl : (wtL l (ints (inV n l bs (csl C) 1 (q : Nat)))).length = (inV n l bs (csl C) 1 (q : Nat)).length := by rw [wtL_len, ints_len]
  rw [hwl] at h
  have e : byE n l bs (csl C) 1 (q : Nat) ep (inV n l bs (csl C) 1 (q : Nat)).length = 0 := by
   unfold byE jbE
   rw [HIN0.out, if_neg (fun h => h rfl), if_neg (by rw [he]; decide), if_neg (by simp)]
  rw [HXE.out] at h
  refine h.mono ?_
  rintro e' w' ⟨h1, _, h3⟩
  obtain ⟨v, c', g1, g2, _⟩ := h1 e
  exact ⟨v, c', g1, g2, h3⟩
 clear hid en2 HWE
 obtain ⟨ids, HIDS⟩ := named (inV n l bs (csl C) 1 (q : Nat))
 rw [HIDS.out] at HIc HLf HWEc
 obtain ⟨hg0, hg1, hb0, hsz⟩ := top2 w (.cells #[.int .i64 n, .slice a l.length cap, .slice ba bs.length bc, .slice ca C.length cc, .int .i64 ep] 150) (.cells #[.int .i64 0, .int .i64 0, .int .i64 0, .slice none 0 0] 40)
 obtain ⟨a0, a1, a2, a3, a4⟩ := five_cells hg0
 have HFST := Lib.hid (HIc.out _ hb0)
 have HG0 := Lib.hid hg0
 have HG1 := Lib.hid hg1
 have HB0 := Lib.hid hb0
 clear hr hi hR hb0 hg0 hg1 HIc
 generalize hp : w.heap.size = p at *
 go_enter Tryz.func162, Tryz.ntmps162
 go_wp2_with fail
 generalize hWW : (w.alloc (.cells #[.int .i64 n, .slice a l.length cap, .slice ba bs.length bc, .slice ca C.length cc, .int .i64 ep] 150)).alloc (.cells #[.int .i64 0, .int .i64 0, .int .i64 0, .slice none 0 0] 40) = W at *
 clear hWW
 refine HFST.out.mono ?_
 rintro e w5 ⟨v5, rfl, hrow5, hb5⟩
 have hz5 := hb5.size
 have HB5 : Hid (Below p w w5) := HB0.out.trans (hb5.mono (by omega))
 have HK0 := Lib.hid ((hb5.block p (by omega)).trans HG0.out)
 have HK1 := Lib.hid ((hb5.block (p + 1) (by omega)).trans HG1.out)
 have HW5 := Lib.hid (HWEc.out w5 HB5.out v5 ids.length hrow5.ints)
 clear hrow5 hb5 HFST HG0 HG1 HB0 a0 a1 a2 a3 a4
 obtain ⟨a0, a1, a2, a3, a4⟩ := five_cells HK0.out
 go_wp2_with fail
 refine HW5.out.mono ?_
 rintro e w6 ⟨wg, rfl, hwts, hb6⟩
 have hz6 := hb6.size
 have HB6 : Hid (Below p w w6) := HB5.out.trans (hb6.mono (by omega))
 have HL0 := Lib.hid ((hb6.block p (by omega)).trans HK0.out)
 have HL1 := Lib.hid ((hb6.block (p + 1) (by omega)).trans HK1.out)
 have HF6 := Lib.hid (HLf.out w6 HB6.out wg hwts)
 clear hwts hb6 HW5 HK0 HK1 HB5 a0 a1 a2 a3 a4
 obtain ⟨a0, a1, a2, a3, a4⟩ := five_cells HL0.out
 go_wp2_with fail
 refine HF6.out.mono ?_
 rintro e w7 ⟨v, c, rfl, hown, hb7⟩
 have hz7 := hb7.size
 have hK5 := (hb7.block (p + 1) (by omega)).trans HL1.out
 obtain ⟨⟨d0, d1, d2, d3⟩, f0, f1, f2, f3⟩ := four_cells hK5
 have HR5 := Lib.hid (four_cells (set4 hK5 (.int .i64 1) (.int .i64 (q : Nat)) (.int .i64 ep) (.slice v X.length c))).1
 have HO5 := Lib.hid (own_base (own_set4 hown (show p + 1 < w6.heap.size by omega) (.int .i64 1) (.int .i64 (q : Nat)) (.int .i64 ep) (.slice v X.length c)) (show p ≤ w6.heap.size by omega))
 have HB7 := Lib.hid (below_set4 (HB6.out.trans (hb7.mono (by omega))) (show p ≤ p + 1 by omega) (.int .i64 1) (.int .i64 (q : Nat)) (.int .i64 ep) (.slice v X.length c))
 clear hK5 hown hb7 HF6 a0 a1 a2 a3 a4
 go_wp2_with fail
 obtain ⟨r0, r1, r2, r3⟩ := HR5.out
 refine bodyPost_ret (v := .tuple #[.agg #[.int .i64 1, .int .i64 (q : Nat), .int .i64 ep, .slice v X.length c], .int .i64 0]) (by simp [results, Tryz.results162, go_sem, r0, r1, r2, r3]) rfl ?_
 exact ⟨v, c, rfl, HO5.out, HB7.out⟩

noncomputable def upD (n : Nat) (l : List A) (bs : List Int) (cs : List (List Int)) (j q : Nat) (M2 : List Mt) : List Int := mxL (upL n l bs cs (((j + 1 : Nat) : Int) + 1) (q : Nat) (wtL l (ints (btV n l bs cs (((j + 1 : Nat) : Int) + 1) (q : Nat)))) (kidM M2 (chL (lvl cs j) (lvl cs (j + 1)) (q : Nat)))) (bdV n l bs cs (((j + 1 : Nat) : Int) + 1) (q : Nat))
set_option maxHeartbeats 3200000 in
theorem ovUp_any (n : Nat) (a : Option Addr) (l : List A) (cap : Nat) (ba : Option Addr) (bs : List Int) (bc : Nat) (ca : Option Addr) (C : List Cl) (cc : Nat) (ep : Int) (j q : Nat) (M2 : List Mt) (ma : Option Addr) (kl mc : Nat) (w : World) (hj : j + 1 < bs.length) (hq : q < (szL (lvl (csl C) (j + 1))).length) (hkl : (chL (lvl (csl C) j) (lvl (csl C) (j + 1)) (q : Nat)).length = kl) (hM : Mts w ma (kidM M2 (chL (lvl (csl C) j) (lvl (csl C) (j + 1)) (q : Nat)))) (hF : Fit n l bs (csl C) j ep M2) (hNR : NR n l bs (csl C)) (he : epB ep = true) (hl : l.length ≤ 9223372036854775807) (hbl : bs.length ≤ 9223372036854775807) (hr : Arcs w a l) (hi : Ints w ba bs) (hR : Rws w ca C) (hwt : ∀ x ∈ l, 0 ≤ x.w ∧ x.w < 4294967296) :
  Calls Tryz.prog 163 #[.agg #[.int .i64 n, .slice a l.length cap, .slice ba bs.length bc, .slice ca C.length cc, .int .i64 ep], .int .i64 (((j + 1 : Nat) : Int) + 1), .int .i64 (q : Nat), .slice ma kl mc] w fun e w' => ∃ v c, e = .returned (.tuple #[.agg #[.int .i64 (((j + 1 : Nat) : Int) + 1), .int .i64 (q : Nat), .int .i64 ep, .slice v (upD n l bs (csl C) j q M2).length c], .int .i64 0]) ∧ w'.ownsRow w.heap.size 48 1 (.slice v (upD n l bs (csl C) j q M2).length c) (upD n l bs (csl C) j q M2).length (cellsU (upD n l bs (csl C) j q M2)) ∧ Below w.heap.size w w' := by
 have HIN0 : Hid (inE n l bs (csl C) (((j + 1 : Nat) : Int) + 1) (q : Nat) = 0) := inE_ok hNR hj hq
 have HBT0 : Hid (btE n l bs (csl C) (((j + 1 : Nat) : Int) + 1) (q : Nat) = 0) := by
  show _ = _
  unfold btE
  rw [HIN0.out, if_neg (fun h => h rfl), if_neg (by omega)]
 obtain ⟨_, _, hid, h8⟩ := bt_facts HBT0.out
 have HID := Lib.hid hid
 have hfit := up_fit hNR hj hq he hF
 have HXE : Hid (mxL (upL n l bs (csl C) (((j + 1 : Nat) : Int) + 1) (q : Nat) (wtL l (ints (btV n l bs (csl C) (((j + 1 : Nat) : Int) + 1) (q : Nat)))) (kidM M2 (chL (lvl (csl C) j) (lvl (csl C) (j + 1)) (q : Nat)))) (bdV n l bs (csl C) (((j + 1 : Nat) : Int) + 1) (q : Nat)) = upD n l bs (csl C) j q M2) := rfl
 have HIc : Hid (∀ W2, Below w.heap.size w W2 → Calls Tryz.prog 34 #[.agg #[.int .i64 n, .slice a l.length cap], .agg #[.slice ba bs.length bc, .slice ca C.length cc], .int .i64 (((j + 1 : Nat) : Int) + 1), .int .i64 (q : Nat)] W2 fun e w' => ∃ v, e = .returned (.tuple #[.slice v (btV n l bs (csl C) (((j + 1 : Nat) : Int) + 1) (q : Nat)).length (btV n l bs (csl C) (((j + 1 : Nat) : Int) + 1) (q : Nat)).length, .int .i64 0]) ∧ RowI w' W2.heap.size v (ints (btV n l bs (csl C) (((j + 1 : Nat) : Int) + 1) (q : Nat))) ∧ Below W2.heap.size W2 w') := fun W2 hb => by
  have h := between_any n a l cap ba bs bc ca C cc (((j + 1 : Nat) : Int) + 1) (q : Nat) W2 hl hbl (hr.on hb) (hi.on hb) (hR.on hb)
  rw [HBT0.out] at h
  exact h
 have HWE : Hid (∀ W2, Below w.heap.size w W2 → ∀ (v : Option Addr) (ids : List Nat) (dc : Nat), ids.length ≤ 8192 → (∀ i, i < ids.length → ids.getD i 0 < l.length) → Ints W2 v (ints ids) → Calls Tryz.prog 32 #[.agg #[.int .i64 n, .slice a l.length cap], .slice v ids.length dc] W2 fun e w' => ∃ g, e = .returned (.tuple #[.slice (some ⟨g, 0, none⟩) ids.length ids.length, .int .i64 0]) ∧ Wts w' (some ⟨g, 0, none⟩) (wtL l (ints ids)) ∧ Below W2.heap.size W2 w') := fun W2 hb v ids dc h8 hid hin => by
  have h := weights_any n a l cap v (ints ids) dc W2 hl (by rw [ints_len]; omega) (hr.on hb) hin
  rw [ints_len] at h
  refine h.mono ?_
  rintro e w' ⟨h1, _, h3⟩
  obtain ⟨g, e1, _, e2⟩ := h1 (wq_zero hNR.1 h8 hid)
  exact ⟨g, e1, e2, h3⟩
 have HWEc := Lib.hid (fun W2 hb v dc hin => HWE.out W2 hb v (btV n l bs (csl C) (((j + 1 : Nat) : Int) + 1) (q : Nat)) dc h8 HID.out hin)
 obtain ⟨X, HX⟩ := named (upD n l bs (csl C) j q M2)
 rw [HX.out] at HXE
 rw [HX.out]
 have HUp : Hid (∀ W2, Below w.heap.size w W2 → ∀ g, Wts W2 (some ⟨g, 0, none⟩) (wtL l (ints (btV n l bs (csl C) (((j + 1 : Nat) : Int) + 1) (q : Nat)))) → Calls Tryz.prog 20 #[.agg #[.int .i64 n, .slice a l.length cap], .agg #[.slice ba bs.length bc, .slice ca C.length cc], .int .i64 (((j + 1 : Nat) : Int) + 1), .int .i64 (q : Nat), .int .i64 ep, .slice (some ⟨g, 0, none⟩) (btV n l bs (csl C) (((j + 1 : Nat) : Int) + 1) (q : Nat)).length (btV n l bs (csl C) (((j + 1 : Nat) : Int) + 1) (q : Nat)).length, .slice ma kl mc] W2 fun e w' => ∃ v c', e = .returned (.tuple #[.agg #[.int .i64 (((j + 1 : Nat) : Int) + 1), .int .i64 (q : Nat), .int .i64 ep, .slice v X.length c'], .int .i64 0]) ∧ w'.ownsRow W2.heap.size 48 1 (.slice v X.length c') X.length (cellsU X) ∧ Below W2.heap.size W2 w') := fun W2 hb g hw => by
  have h := up_any n a l cap ba bs bc ca C cc (((j + 1 : Nat) : Int) + 1) (q : Nat) ep (some ⟨g, 0, none⟩) (wtL l (ints (btV n l bs (csl C) (((j + 1 : Nat) : Int) + 1) (q : Nat)))) (btV n l bs (csl C) (((j + 1 : Nat) : Int) + 1) (q : Nat)).length ma (kidM M2 (chL (lvl (csl C) j) (lvl (csl C) (j + 1)) (q : Nat))) mc W2 hl hbl (hr.on hb) (hi.on hb) (hR.on hb) hw (wt_ok hwt HID.out) (hM.on hb)
  have hwl : (wtL l (ints (btV n l bs (csl C) (((j + 1 : Nat) : Int) + 1) (q : Nat)))).length = (btV n l bs (csl C) (((j + 1 : Nat) : Int) + 1) (q : Nat)).length := by rw [wtL_len, ints_len]
  rw [hwl, kidM_len, hkl] at h
  rw [HXE.out] at h
  refine h.mono ?_
  rintro e' w' ⟨h1, _, h3⟩
  obtain ⟨v, c', g1, g2, _⟩ := h1 hfit
  exact ⟨v, c', g1, g2, h3⟩
 clear hid HWE hM hF hfit HXE
 obtain ⟨ids, HIDS⟩ := named (btV n l bs (csl C) (((j + 1 : Nat) : Int) + 1) (q : Nat))
 rw [HIDS.out] at HIc HUp HWEc
 obtain ⟨lv, HLV⟩ := named (((j + 1 : Nat) : Int) + 1)
 rw [HLV.out] at HIc HUp
 rw [HLV.out]
 obtain ⟨hg0, hg1, hb0, hsz⟩ := top2 w (.cells #[.int .i64 n, .slice a l.length cap, .slice ba bs.length bc, .slice ca C.length cc, .int .i64 ep] 150) (.cells #[.int .i64 0, .int .i64 0, .int .i64 0, .slice none 0 0] 40)
 obtain ⟨a0, a1, a2, a3, a4⟩ := five_cells hg0
 have HFST := Lib.hid (HIc.out _ hb0)
 have HG0 := Lib.hid hg0
 have HG1 := Lib.hid hg1
 have HB0 := Lib.hid hb0
 clear hr hi hR hb0 hg0 hg1 HIc
 generalize hp : w.heap.size = p at *
 go_enter Tryz.func163, Tryz.ntmps163
 go_wp2_with fail
 generalize hWW : (w.alloc (.cells #[.int .i64 n, .slice a l.length cap, .slice ba bs.length bc, .slice ca C.length cc, .int .i64 ep] 150)).alloc (.cells #[.int .i64 0, .int .i64 0, .int .i64 0, .slice none 0 0] 40) = W at *
 clear hWW
 refine HFST.out.mono ?_
 rintro e w5 ⟨v5, rfl, hrow5, hb5⟩
 have hz5 := hb5.size
 have HB5 : Hid (Below p w w5) := HB0.out.trans (hb5.mono (by omega))
 have HK0 := Lib.hid ((hb5.block p (by omega)).trans HG0.out)
 have HK1 := Lib.hid ((hb5.block (p + 1) (by omega)).trans HG1.out)
 have HW5 := Lib.hid (HWEc.out w5 HB5.out v5 ids.length hrow5.ints)
 clear hrow5 hb5 HFST HG0 HG1 HB0 a0 a1 a2 a3 a4
 obtain ⟨a0, a1, a2, a3, a4⟩ := five_cells HK0.out
 go_wp2_with fail
 refine HW5.out.mono ?_
 rintro e w6 ⟨wg, rfl, hwts, hb6⟩
 have hz6 := hb6.size
 have HB6 : Hid (Below p w w6) := HB5.out.trans (hb6.mono (by omega))
 have HL0 := Lib.hid ((hb6.block p (by omega)).trans HK0.out)
 have HL1 := Lib.hid ((hb6.block (p + 1) (by omega)).trans HK1.out)
 have HF6 := Lib.hid (HUp.out w6 HB6.out wg hwts)
 clear hwts hb6 HW5 HK0 HK1 HB5 a0 a1 a2 a3 a4
 obtain ⟨a0, a1, a2, a3, a4⟩ := five_cells HL0.out
 go_wp2_with fail
 refine HF6.out.mono ?_
 rintro e w7 ⟨v, c, rfl, hown, hb7⟩
 have hz7 := hb7.size
 have hK5 := (hb7.block (p + 1) (by omega)).trans HL1.out
 obtain ⟨⟨d0, d1, d2, d3⟩, f0, f1, f2, f3⟩ := four_cells hK5
 have HR5 := Lib.hid (four_cells (set4 hK5 (.int .i64 lv) (.int .i64 (q : Nat)) (.int .i64 ep) (.slice v X.length c))).1
 have HO5 := Lib.hid (own_base (own_set4 hown (show p + 1 < w6.heap.size by omega) (.int .i64 lv) (.int .i64 (q : Nat)) (.int .i64 ep) (.slice v X.length c)) (show p ≤ w6.heap.size by omega))
 have HB7 := Lib.hid (below_set4 (HB6.out.trans (hb7.mono (by omega))) (show p ≤ p + 1 by omega) (.int .i64 lv) (.int .i64 (q : Nat)) (.int .i64 ep) (.slice v X.length c))
 clear hK5 hown hb7 HF6 a0 a1 a2 a3 a4
 go_wp2_with fail
 obtain ⟨r0, r1, r2, r3⟩ := HR5.out
 refine bodyPost_ret (v := .tuple #[.agg #[.int .i64 lv, .int .i64 (q : Nat), .int .i64 ep, .slice v X.length c], .int .i64 0]) (by simp [results, Tryz.results163, go_sem, r0, r1, r2, r3]) rfl ?_
 exact ⟨v, c, rfl, HO5.out, HB7.out⟩
def mxI (X : List Int) : Nat → Int
 | 0 => X.getD 0 0
 | k + 1 => max (mxI X k) (X.getD (k + 1) 0)
theorem mxI_ge (X : List Int) : ∀ k j, j ≤ k → X.getD j 0 ≤ mxI X k
 | 0, j, h => by
   obtain rfl : j = 0 := by omega
   exact Int.le_refl _
 | k + 1, j, h => by
   show _ ≤ max (mxI X k) (X.getD (k + 1) 0)
   by_cases e : j = k + 1
   ·subst e; omega
   ·have := mxI_ge X k j (by omega); omega
theorem mxI_in (X : List Int) : ∀ k, ∃ j, j ≤ k ∧ mxI X k = X.getD j 0
 | 0 => ⟨0, Nat.le_refl _, rfl⟩
 | k + 1 => by
   obtain ⟨j, hj, e⟩ := mxI_in X k
   have e2 : mxI X (k + 1) = max (mxI X k) (X.getD (k + 1) 0) := rfl
   by_cases h : mxI X k ≤ X.getD (k + 1) 0
   ·exact ⟨k + 1, Nat.le_refl _, by rw [e2]; omega⟩
   ·exact ⟨j, by omega, by rw [e2, ← e]; omega⟩
theorem mxI_tdy {X : List Int} (ht : tdy X 0 = true) (h0 : 0 < X.length) : mxI X (X.length - 1) + 1 = (szL X).length := by
 obtain ⟨h1, h2, h3⟩ := ls_right ht
 rw [← ls_len ht]
 obtain ⟨j, hj, e⟩ := mxI_in X (X.length - 1)
 have b := h3 j (by omega)
 have c := h3 0 h0
 obtain ⟨d0, d1, _⟩ := h2 ((lsL X 0 []).length - 1) (by omega)
 have d2 := mxI_ge X (X.length - 1) _ (show (lsL X 0 []).getD ((lsL X 0 []).length - 1) 0 ≤ X.length - 1 by omega)
 rw [d1] at d2
 rw [e] at d2 ⊢
 omega
theorem fam_lead {X : List Int} (ht : tdy X 0 = true) {v : Nat} (hv : v < X.length) {S : List Nat} (h : LsP X v S) (e : X.getD v 0 = S.length) : (lsL X 0 []).getD S.length 0 = v ∧ S.length < (lsL X 0 []).length := by
 obtain ⟨h1, h2, h3⟩ := ls_right ht
 have hl := (h3 v hv).2
 rw [e, Int.toNat_natCast] at hl
 obtain ⟨g0, g1, g2⟩ := h2 _ hl
 have g3 := g2 v hv e
 refine ⟨?_, hl⟩
 by_cases k : (lsL X 0 []).getD S.length 0 < v
 ·have := (h.2.2 _ k).2
  rw [g1, Int.toNat_natCast] at this
  omega
 ·omega
theorem fam_end {X : List Int} (ht : tdy X 0 = true) {S : List Nat} (h : LsP X X.length S) : S.length = (lsL X 0 []).length := by
 rw [h.1, (ls_right ht).1]
theorem fam_old {X : List Int} (ht : tdy X 0 = true) {v : Nat} (hv : v < X.length) {S : List Nat} (h : LsP X v S) (e : X.getD v 0 ≠ S.length) : LsP X (v + 1) S := by
 have := h.step ht hv
 unfold lsS at this
 rw [if_neg e] at this
 exact this
theorem fam_new {X : List Int} (ht : tdy X 0 = true) {v : Nat} (hv : v < X.length) {S : List Nat} (h : LsP X v S) (e : X.getD v 0 = S.length) : LsP X (v + 1) (S ++ [v]) := by
 have := h.step ht hv
 unfold lsS at this
 rw [if_pos e] at this
 exact this
theorem fam_zero (X : List Int) : LsP X 0 [] := ⟨rfl, fun j hj => absurd hj (by simp), fun u hu => absurd hu (by omega)⟩
theorem cho_put {p q : Nat → Bool} {u : Nat} (h : ∀ v, v ≠ u → p v = q v) (h1 : p u = false) (h2 : q u = true) : ∀ n, u < n → (cho q n).length = (cho p n).length + 1
 | 0, hu => absurd hu (by omega)
 | n + 1, hu => by
   by_cases e : u = n
   ·subst e
    rw [cho_t h2, cho_f h1, List.length_append, cho_congr (p := q) (q := p) (fun v hv => (h v (by omega)).symm)]
    rfl
   ·have ih := cho_put h h1 h2 n (by omega)
    have hn := h n (fun e2 => e e2.symm)
    cases hq : q n with
    | true => rw [cho_t hq, cho_t (hn.trans hq), List.length_append, List.length_append, ih]; simp only [List.length_cons, List.length_nil]
    | false => rw [cho_f hq, cho_f (hn.trans hq), ih]
def szT (n : Nat) (L : List Int) (T : Nat → Bool) (c : Nat) : Nat := (cho (fun v => decide (L.getD v 0 = (c : Int)) && T v) n).length
theorem szT_put {n : Nat} {L : List Int} {T : Nat → Bool} {u c : Nat} (hu : u < n) (hT : T u = false) : szT n L (fun v => if v = u then true else T v) c = szT n L T c + if L.getD u 0 = (c : Int) then 1 else 0 := by
 unfold szT
 by_cases e : L.getD u 0 = (c : Int)
 ·rw [if_pos e]
  refine cho_put (u := u) (fun v hv => ?_) ?_ ?_ n hu
  ·show _ = (decide _ && (if v = u then true else T v))
   rw [if_neg hv]
  ·show (decide _ && T u) = false
   rw [hT, Bool.and_false]
  ·show (decide _ && (if u = u then true else T u)) = true
   rw [if_pos rfl, decide_eq_true e]; rfl
 ·rw [if_neg e, Nat.add_zero]
  refine congrArg List.length (cho_congr (fun v _ => ?_))
  by_cases hv : v = u
  ·subst hv; rw [decide_eq_false e]; rfl
  ·show (decide _ && (if v = u then true else T v)) = _
   rw [if_neg hv]
theorem szT_le (n : Nat) (L : List Int) (T : Nat → Bool) (c : Nat) : szT n L T c ≤ n := cho_len _ _
def crI (l : List A) (ids : List Nat) (k v : Nat) : Bool := (ids.take k).any (fun i => decide ((l.getD i A.zero).f.toNat = v) || decide ((l.getD i A.zero).t.toNat = v))
theorem crI_zero (l : List A) (ids : List Nat) (v : Nat) : crI l ids 0 v = false := by simp [crI]
theorem crI_step {l : List A} {ids : List Nat} {k : Nat} (hk : k < ids.length) (v : Nat) : crI l ids (k + 1) v = if v = (l.getD (ids.getD k 0) A.zero).t.toNat then true else if v = (l.getD (ids.getD k 0) A.zero).f.toNat then true else crI l ids k v := by
 unfold crI
 rw [take_snocS hk, List.any_append]
 by_cases h1 : v = (l.getD (ids.getD k 0) A.zero).t.toNat
 ·rw [if_pos h1]; simp [h1]
 ·rw [if_neg h1]
  by_cases h2 : v = (l.getD (ids.getD k 0) A.zero).f.toNat
  ·rw [if_pos h2]; simp [h2]
  ·rw [if_neg h2]
   have e1 : decide ((l.getD (ids.getD k 0) A.zero).t.toNat = v) = false := decide_eq_false (fun e => h1 e.symm)
   have e2 : decide ((l.getD (ids.getD k 0) A.zero).f.toNat = v) = false := decide_eq_false (fun e => h2 e.symm)
   simp only [List.any_cons, List.any_nil, Bool.or_false, e1, e2]
theorem crI_end (L : List Int) (l : List A) (v : Nat) : crI l (arL l (prt L)) (arL l (prt L)).length v = crs L l l.length v := by
 rw [Bool.eq_iff_iff, crs_iffU]
 unfold crI
 rw [List.take_length, List.any_eq_true]
 constructor
 ·rintro ⟨i, hi, h⟩
  unfold arL at hi
  rw [cho_mem] at hi
  refine ⟨_, getA_memU hi.1, hi.2, ?_⟩
  simpa using h
 ·rintro ⟨x, hx, hp, h⟩
  obtain ⟨i, hi, e⟩ := List.getElem_of_mem hx
  have e2 : l.getD i A.zero = x := by simp [List.getD, List.getElem?_eq_getElem hi, e]
  refine ⟨i, ?_, ?_⟩
  ·unfold arL
   rw [cho_mem]
   exact ⟨hi, by unfold arP; rw [e2]; exact hp⟩
  ·rw [e2]; simpa using h
theorem szT_bd (n : Nat) (L : List Int) (l : List A) (c : Nat) : szT n L (crI l (arL l (prt L)) (arL l (prt L)).length) c = (bdL n L l c).length := by
 unfold szT bdL
 refine congrArg List.length (cho_congr (fun v _ => ?_))
 show (_ && _) = (_ && _)
 rw [crI_end]
end Go.Proofs.YtaafkpojjdjphaaGreat
