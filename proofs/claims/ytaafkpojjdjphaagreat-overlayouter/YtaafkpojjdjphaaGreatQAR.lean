import Derived.Test.YtaafkpojjdjphaaGreatQAQ
namespace Go.Proofs.YtaafkpojjdjphaaGreat
open Go.RowKit
theorem cellsU_one (l : List Int) : ∀ u ∈ cellsU l, u.oneCell' = true := by
 intro u hu
 unfold cellsU at hu
 obtain ⟨x, _, rfl⟩ := List.mem_map.1 hu
 rfl
theorem own_shapeU {w : World} {base : Nat} {e : TypeId} {size : Nat} {v : Value} {n : Nat} {xs : List Value} (h : w.ownsRow base e size v n xs) (hn : v ≠ .slice none 0 0) : ∃ g c, v = .slice (some ⟨g, 0, none⟩) n c ∧ base ≤ g ∧ n ≤ c ∧ g < w.heap.size ∧ c ≤ 9223372036854775807 := by
 rcases h.2 with ⟨h', _⟩ | ⟨g, c, cur, h', hb, hg, hnc, hm, _⟩
 ·exact absurd h' hn
 ·exact ⟨g, c, h', hb, hnc, lt_of_block hg, hm⟩
theorem eqlU_nil (w : World) (a : Option Addr) (n c : Nat) : (binOp .eql 38 (.slice a n c) (.slice none 0 0)).run Tryz.prog w = .ok (.bool a.isNone) w := Lib.run_eql_slice_nil w 38 48 a n c 0 0 Tryz.underlying38
theorem newsU {w : World} {ad : Addr} {X : List Int} (h : Dts w (some ad) X) (o : Obj) : ∀ j u, (cellsU X)[j]? = some u → (w.alloc o).cell? (ad.add j) = some u := by
 intro j u hu
 rcases h with rfl | ⟨b, q, he, hb, hc⟩
 ·simp [cellsU] at hu
 ·cases he
  have hj : j < X.length := by
   have := (List.getElem?_eq_some_iff.1 hu).1
   simpa [cellsU] using this
  rw [cellsU_getD X j hj] at hu
  rw [Go.WideShapes.add_plain, World.cell?_alloc_past _ _ _ hb, hc j hj]
  exact hu
set_option maxHeartbeats 800000 in
theorem cloneD_any (a : Option Addr) (X : List Int) (cap : Nat) (w : World) (hlen : X.length * 8 ≤ 140737488351232) (hr : Dts w a X) :
  Calls Tryz.prog 161 #[.slice a X.length cap] w fun e w' => ∃ v c, e = .returned (.slice v X.length c) ∧ w'.ownsRow w.heap.size 48 1 (.slice v X.length c) X.length (cellsU X) ∧ Below w.heap.size w w' := by
 obtain ⟨i0, hi, hz0, hz1, hz2⟩ := info_parts info75
 match a, hr with
 | none, hr =>
   have e1 : X = [] := by
    rcases hr with h | ⟨b, o, h, _⟩
    ·exact h
    ·cases h
   subst e1
   go_enter Tryz.func161, Tryz.ntmps161
   have he := fun w => eqlU_nil w none 0 cap
   go_wp2_with fail
   go_ret
   exact ⟨none, 0, rfl, World.ownsRow_nil _ _ _ _, Below.refl _ _⟩
 | some ad, hr =>
   have HN := Lib.hid (newsU hr (.cells #[] 48))
   have HL : Hid ((cellsU X).length = X.length * 1) := by show _ = _; simp [cellsU]
   have hown0 := World.ownsRow_lit (base := w.heap.size) (e := 48) (size := 1) w #[] 0 (Nat.le_refl _) (by decide) rfl
   have he := fun w => eqlU_nil w (some ad) X.length cap
   go_enter Tryz.func161, Tryz.ntmps161
   go_wp2_with (at_builtin; refine wpList_append_own _ rfl (.tmp 5) (.tmp 6) 38 rfl w.heap.size 48 i0 _ 1 8 Tryz.underlying38 hi hz0 hz1 hz2 rfl (by decide) (.slice (some ⟨w.heap.size, 0, none⟩) 0 0) 0 [] rfl hown0 ad X.length cap (cellsU X) rfl HL.out HN.out (cellsU_one X) (by unfold maxLen; omega) (by omega) (by simp) ?_; intro v1 w1 hown1 hgrow1 hnil1; obtain ⟨g1, c1, hv1, hg1, hc1, hs1, hm1⟩ := own_shapeU hown1 (fun e => by have := hnil1.1 e; simp at this); rw [hv1] at hown1 ⊢; clear hnil1 hv1; simp only [Nat.zero_add, List.nil_append] at hown1 hc1 ⊢)
   go_ret
   exact ⟨_, _, rfl, hown1, ((Below.refl w.heap.size w).alloc (Nat.le_refl _) _).grown hgrow1 (by simp) (by intro k hk; cases hk; exact Nat.le_refl _)⟩
structure OS (w : World) (B g m : Nat) (rv : Nat → Value) (R : Nat → List Mt) : Prop where
 tr : TR 30 40 4 w B g m rv (fun j => (R j).length) (fun j => cellsM (R j))
 me : ∀ j, j < m → MtO w B (R j)
 bn : ∀ j, j < m → Bnd (R j)
theorem OS.on {w w' : World} {B g m : Nat} {rv : Nat → Value} {R : Nat → List Mt} (h : OS w B g m rv R) (hb : Below w.heap.size w w') : OS w' B g m rv R :=
 ⟨h.tr.on hb, fun j hj => (h.me j hj).on hb, h.bn⟩
theorem OS.mts {w : World} {B g m : Nat} {rv : Nat → Value} {R : Nat → List Mt} (h : OS w B g m rv R) {j : Nat} (hj : j < m) : ∃ a c, rv j = .slice a (R j).length c ∧ Mts w a (R j) := by
 obtain ⟨a, c, e⟩ := own_slice (h.tr.ro j hj)
 refine ⟨a, c, e, ?_⟩
 have := h.tr.ro j hj
 rw [e] at this
 exact mts_own this (h.me j hj) (h.bn j hj)
theorem OS.put {w w1 w7 : World} {B g m : Nat} {rv : Nat → Value} {R : Nat → List Mt} (h : OS w B g m rv R) {k : Nat} (hk : k < m) (hb1 : Below w.heap.size w w1) (hg : w1.grownBy w7 (rv k).ownBlock) {gg cap : Nat} {x : Mt} (ho : w7.ownsRow B 40 4 (.slice (some ⟨gg, 0, none⟩) ((R k).length + 1) cap) ((R k).length + 1) (cellsM (R k) ++ [.int .i64 x.lv, .int .i64 x.ce, .int .i64 x.ep, .slice x.a x.D.length x.c])) (hat : (rv k).ownBlock = some gg ∨ w.heap.size ≤ gg) (hx : w.ownsRow B 48 1 (.slice x.a x.D.length x.c) x.D.length (cellsU x.D)) (hbx : x.D.length ≤ 9223372036854775807 ∧ ∀ i, i < x.D.length → 0 ≤ x.D.getD i 0 ∧ x.D.getD i 0 ≤ N5.Inf) :
  OS (w7.setCell ⟨g, k, none⟩ (.slice (some ⟨gg, 0, none⟩) ((R k).length + 1) cap)) B g m (updV rv k (.slice (some ⟨gg, 0, none⟩) ((R k).length + 1) cap)) (fun j => if j = k then R k ++ [x] else R j) ∧ RdT g m w rv (w7.setCell ⟨g, k, none⟩ (.slice (some ⟨gg, 0, none⟩) ((R k).length + 1) cap)) (updV rv k (.slice (some ⟨gg, 0, none⟩) ((R k).length + 1) cap)) := by
 obtain ⟨h1, h2⟩ := h.tr.put hk hb1 hg ho hat
 have hkeep : ∀ {v : Value} {n : Nat} {ys : List Value}, w.ownsRow B 48 1 v n ys → (w7.setCell ⟨g, k, none⟩ (.slice (some ⟨gg, 0, none⟩) ((R k).length + 1) cap)).ownsRow B 48 1 v n ys := fun ho2 => h.tr.other h2 ho2 (by decide) (by decide)
 refine ⟨⟨h1.congr (fun v _ => ?_) (fun v _ => ?_), fun j hj => ?_, fun j hj => ?_⟩, h2⟩
 ·by_cases e : v = k
  ·subst e; rw [if_pos rfl, if_pos rfl, List.length_append]; rfl
  ·rw [if_neg e, if_neg e]
 ·by_cases e : v = k
  ·subst e; rw [if_pos rfl, if_pos rfl, cellsM_append]; rfl
  ·rw [if_neg e, if_neg e]
 ·by_cases e : j = k
  ·subst e
   rw [if_pos rfl]
   exact MtO.snoc (fun i hi => hkeep (h.me j hj i hi)) (hkeep hx)
  ·rw [if_neg e]
   exact fun i hi => hkeep (h.me j hj i hi)
 ·by_cases e : j = k
  ·subst e
   rw [if_pos rfl]
   exact (h.bn j hj).snoc hbx
  ·rw [if_neg e]
   exact h.bn j hj
theorem TR.blockK {ty e : TypeId} {sz : Nat} {w w' : World} {B g n : Nat} {rv rv' : Nat → Value} {ln : Nat → Nat} {xs : Nat → List Value} (h : TR ty e sz w B g n rv ln xs) (ht : RdT g n w rv w' rv') {b : Nat} {c : Array Value} {t : TypeId} {f : Nat × Nat} (hb : w.heap[b]? = some (.cells c t f)) (h1 : t ≠ ty) (h2 : t ≠ e) : w'.heap[b]? = some (.cells c t f) := by
 refine (ht.fr.block b (lt_of_block hb) (fun hd => ?_)).trans hb
 rcases hd with rfl | ⟨u, hu, hk2⟩
 ·have q2 := h.tb
  unfold TbV at q2
  rw [q2] at hb
  injection hb with hb
  injection hb with _ hb _
  exact h1 hb.symm
 ·obtain ⟨cs2, fz2, q2⟩ := Lib.ownsRow_kind (h.ro u hu) b hk2
  rw [q2] at hb
  injection hb with hb
  injection hb with _ hb _
  exact h2 hb.symm
theorem TR.keepK {ty e ty2 e2 : TypeId} {sz sz2 : Nat} {w w' : World} {B g n B2 g2 n2 : Nat} {rv rv' rv2 : Nat → Value} {ln ln2 : Nat → Nat} {xs xs2 : Nat → List Value} (h : TR ty e sz w B g n rv ln xs) (ht : RdT g n w rv w' rv') (k : TR ty2 e2 sz2 w B2 g2 n2 rv2 ln2 xs2) (h1 : ty2 ≠ ty) (h2 : ty2 ≠ e) (h3 : e2 ≠ ty) (h4 : e2 ≠ e) : TR ty2 e2 sz2 w' B2 g2 n2 rv2 ln2 xs2 :=
 ⟨k.ne, h.blockK ht k.tb h1 h2, k.gb, fun v hv => h.other ht (k.ro v hv) h3 h4, k.ap⟩
noncomputable def nwD (n : Nat) (l : List A) (bs : List Int) (cs : List (List Int)) (Rp : List Mt) (j i : Nat) : List Int := if j = 0 then rD n l bs cs 0 i else upD n l bs cs (j - 1) i Rp
def MF (n : Nat) (l : List A) (bs : List Int) (cs : List (List Int)) (ep : Int) (j i : Nat) (x : Mt) : Prop := x.lv = (j : Int) + 1 ∧ x.ce = (i : Nat) ∧ (0 ≤ x.ep ∧ x.ep ≤ ep) ∧ x.D.length = (bdV n l bs cs ((j : Int) + 1) (i : Nat)).length * (bdV n l bs cs ((j : Int) + 1) (i : Nat)).length
structure Mk (n : Nat) (l : List A) (bs : List Int) (cs : List (List Int)) (ep : Int) (xs : List Int) (O Rp : List Mt) (j : Nat) (M : List Mt) (k : Nat) : Prop where
 len : M.length = k
 mf : ∀ i, i < k → MF n l bs cs ep j i (mt M i)
 nw : ∀ i, i < k → xs.getD i 0 ≠ 0 → (mt M i).ep = ep ∧ (mt M i).D = nwD n l bs cs Rp j i
 kp : ∀ i, i < k → xs.getD i 0 = 0 → (mt M i).ep = (mt O i).ep ∧ (mt M i).D = (mt O i).D
theorem Mk.nil (n : Nat) (l : List A) (bs : List Int) (cs : List (List Int)) (ep : Int) (xs : List Int) (O Rp : List Mt) (j : Nat) : Mk n l bs cs ep xs O Rp j [] 0 := ⟨rfl, fun i hi => absurd hi (by omega), fun i hi => absurd hi (by omega), fun i hi => absurd hi (by omega)⟩
theorem Mk.snoc {n : Nat} {l : List A} {bs : List Int} {cs : List (List Int)} {ep : Int} {xs : List Int} {O Rp : List Mt} {j : Nat} {M : List Mt} {k : Nat} {x : Mt} (h : Mk n l bs cs ep xs O Rp j M k) (hx : MF n l bs cs ep j k x) (h1 : xs.getD k 0 ≠ 0 → x.ep = ep ∧ x.D = nwD n l bs cs Rp j k) (h2 : xs.getD k 0 = 0 → x.ep = (mt O k).ep ∧ x.D = (mt O k).D) : Mk n l bs cs ep xs O Rp j (M ++ [x]) (k + 1) := by
 have hl := h.len
 have old : ∀ i, i < k → mt (M ++ [x]) i = mt M i := fun i hi => mt_snoc_lt (by omega)
 have new : mt (M ++ [x]) k = x := by rw [← hl]; exact mt_snoc_eq M x
 refine ⟨by rw [List.length_append, hl]; rfl, fun i hi => ?_, fun i hi => ?_, fun i hi => ?_⟩
 ·by_cases e : i = k
  ·subst e; rw [new]; exact hx
  ·rw [old i (by omega)]; exact h.mf i (by omega)
 ·by_cases e : i = k
  ·subst e; rw [new]; exact h1
  ·rw [old i (by omega)]; exact h.nw i (by omega)
 ·by_cases e : i = k
  ·subst e; rw [new]; exact h2
  ·rw [old i (by omega)]; exact h.kp i (by omega)
theorem Mk.fit {n : Nat} {l : List A} {bs : List Int} {cs : List (List Int)} {ep : Int} {xs : List Int} {O Rp : List Mt} {j : Nat} {M : List Mt} (h : Mk n l bs cs ep xs O Rp j M (szL (lvl cs j)).length) : Fit n l bs cs j ep M := ⟨h.len, fun i hi => h.mf i (by rw [← h.len]; exact hi)⟩
theorem upD_len (n : Nat) (l : List A) (bs : List Int) (cs : List (List Int)) (j q : Nat) (M2 : List Mt) : (upD n l bs cs j q M2).length = (bdV n l bs cs (((j + 1 : Nat) : Int) + 1) q).length * (bdV n l bs cs (((j + 1 : Nat) : Int) + 1) q).length := mxL_len _ _
theorem upD_val {n : Nat} {l : List A} {bs : List Int} {cs : List (List Int)} {j q : Nat} {M2 : List Mt} (hw : ∀ x ∈ l, 0 ≤ x.w ∧ x.w < 4294967296) (hB : Bnd M2) (hK : ∀ i, i < (chL (lvl cs j) (lvl cs (j + 1)) (q : Nat)).length → (chL (lvl cs j) (lvl cs (j + 1)) (q : Nat)).getD i 0 < M2.length) : ∀ k, k < (upD n l bs cs j q M2).length → 0 ≤ (upD n l bs cs j q M2).getD k 0 ∧ (upD n l bs cs j q M2).getD k 0 ≤ N5.Inf := fun k hk => by
 obtain ⟨h1, h2, h3⟩ := mxL_at hk
 have hd := dF_isd (upL_nn (n := n) (l := l) (bs := bs) (cs := cs) (lv := ((j + 1 : Nat) : Int) + 1) (ce := (q : Nat)) (ids := btV n l bs cs (((j + 1 : Nat) : Int) + 1) (q : Nat)) (M := kidM M2 (chL (lvl cs j) (lvl cs (j + 1)) (q : Nat))) hw (fun i t ht => by
  by_cases hi : i < (chL (lvl cs j) (lvl cs (j + 1)) (q : Nat)).length
  ·rw [kidM_at hi] at ht ⊢
   exact ((hB _ (hK i hi)).2 t ht).1
  ·unfold mt at ht
   rw [List.getD_eq_getElem?_getD, List.getElem?_eq_none (by rw [kidM_len]; omega)] at ht
   exact absurd ht (by simp [Mt.zero])) rfl) ((bdV n l bs cs (((j + 1 : Nat) : Int) + 1) (q : Nat)).getD (k / (bdV n l bs cs (((j + 1 : Nat) : Int) + 1) (q : Nat)).length) 0)
 have e : (upD n l bs cs j q M2).getD k 0 = _ := h3
 rw [e]
 exact ⟨hd.lo _, hd.hi _⟩
theorem bdV_le (n : Nat) (l : List A) (bs : List Int) (cs : List (List Int)) (k x : Int) : (bdV n l bs cs k x).length ≤ n := by
 unfold bdV
 split
 ·rw [Int.toNat_natCast]; exact cho_len _ _
 ·exact Nat.zero_le _
theorem sq_le {b n : Nat} (h : b ≤ n) (hn : n ≤ 1024) : b * b ≤ 1048576 := Nat.le_trans (Nat.mul_le_mul (Nat.le_trans h hn) (Nat.le_trans h hn)) (by decide)
end Go.Proofs.YtaafkpojjdjphaaGreat
