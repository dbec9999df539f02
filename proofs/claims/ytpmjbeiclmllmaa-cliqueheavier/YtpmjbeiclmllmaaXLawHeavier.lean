/-
  CliqueHeavier: the walk. A graph and a nest as they lie in a law's variables.
-/
import Derived.Test.YtpmjbeiclmllmaaXCec
import Derived.Test.YtpmjbeiclmllmaaXCqc
import Derived.Test.YtpmjbeiclmllmaaXCqd
import Derived.BigRegion
namespace Go.Proofs.Ytpmjbeiclmllmaa
open Go.RowKit
/-- A graph and a nest as they lie in the law's variables. -/
structure GN (w : World) (p : Nat) (N : Int) (a : Option Addr) (l : List A) (cap : Nat) (ba : Option Addr) (bs : List Int) (bc : Nat) (ca : Option Addr) (C : List Cl) (cc : Nat) : Prop where
  g : w.heap[p]? = some (.cells #[.int .i64 N, .slice a l.length cap] 24)
  n : w.heap[p + 1]? = some (.cells #[.slice ba bs.length bc, .slice ca C.length cc] 28)
  arcs : Arcs w a l
  ints : Ints w ba bs
  rws : Rws w ca C
theorem GN.on {w w' : World} {p : Nat} {N : Int} {a : Option Addr} {l : List A} {cap : Nat} {ba : Option Addr} {bs : List Int} {bc : Nat} {ca : Option Addr} {C : List Cl} {cc : Nat} (h : GN w p N a l cap ba bs bc ca C cc) (hb : Below w.heap.size w w') : GN w' p N a l cap ba bs bc ca C cc :=
  ⟨(hb.block _ (lt_of_block h.g)).trans h.g, (hb.block _ (lt_of_block h.n)).trans h.n, h.arcs.on hb, h.ints.on hb, h.rws.on hb⟩
theorem GN.cells {w : World} {p : Nat} {N : Int} {a : Option Addr} {l : List A} {cap : Nat} {ba : Option Addr} {bs : List Int} {bc : Nat} {ca : Option Addr} {C : List Cl} {cc : Nat} (h : GN w p N a l cap ba bs bc ca C cc) : w.cell? ⟨p, 0, none⟩ = some (.int .i64 N) ∧ w.cell? ⟨p, 1, none⟩ = some (.slice a l.length cap) ∧ w.cell? ⟨p + 1, 0, none⟩ = some (.slice ba bs.length bc) ∧ w.cell? ⟨p + 1, 1, none⟩ = some (.slice ca C.length cc) := by
  obtain ⟨⟨g0, g1⟩, _⟩ := two_cells h.g
  obtain ⟨⟨g2, g3⟩, _⟩ := two_cells h.n
  exact ⟨g0, g1, g2, g3⟩
end Go.Proofs.Ytpmjbeiclmllmaa
namespace Go.Proofs.Ytpmjbeiclmllmaa
open Go.RowKit
theorem five_cells {w : World} {g : Nat} {a b c d e : Value} {t : TypeId} (h : w.heap[g]? = some (.cells #[a, b, c, d, e] t)) : w.cell? ⟨g, 0, none⟩ = some a ∧ w.cell? ⟨g, 1, none⟩ = some b ∧ w.cell? ⟨g, 2, none⟩ = some c ∧ w.cell? ⟨g, 3, none⟩ = some d ∧ w.cell? ⟨g, 4, none⟩ = some e := by
  simp [World.cell?, h]
theorem wk_le {l l' : List N5.A} {ok : Nat → Bool} {s v : Nat} {d : Int} (hm : ∀ y ∈ l', ∃ x ∈ l, N5.src x = N5.src y ∧ N5.dst x = N5.dst y ∧ x.w ≤ y.w) (h : N5.Wk l' ok s v d) : ∃ d', d' ≤ d ∧ N5.Wk l ok s v d' := by
  induction h with
  | nil e => exact ⟨0, Int.le_refl _, N5.Wk.nil e⟩
  | snoc hx _ ho ih =>
    obtain ⟨d', h1, h2⟩ := ih
    obtain ⟨x, hx1, e1, e2, h3⟩ := hm _ hx
    refine ⟨d' + x.w, by omega, ?_⟩
    rw [← e2]
    exact N5.Wk.snoc hx1 (by rw [e1]; exact h2) (by rw [e2]; exact ho)
theorem d_le {l l' : List N5.A} {ok : Nat → Bool} {s : Nat} {F G : Nat → Int} (hm : ∀ y ∈ l', ∃ x ∈ l, N5.src x = N5.src y ∧ N5.dst x = N5.dst y ∧ x.w ≤ y.w) (h : N5.IsD l ok s F) (k : N5.IsD l' ok s G) (v : Nat) : F v ≤ G v := by
  by_cases e : G v < N5.Inf
  · obtain ⟨d', h1, h2⟩ := wk_le hm (k.wk v e)
    have := h.le v d' h2
    omega
  · have := h.hi v
    omega
theorem wg_le {l : List A} {ids : List Nat} {ws vs : List Int} (h : ∀ i, i < ids.length → ws.getD i 0 ≤ vs.getD i 0) : ∀ y ∈ (wgL l ids vs).map toN, ∃ x ∈ (wgL l ids ws).map toN, N5.src x = N5.src y ∧ N5.dst x = N5.dst y ∧ x.w ≤ y.w := by
  intro y hy
  obtain ⟨z, hz, rfl⟩ := List.mem_map.1 hy
  unfold wgL at hz
  obtain ⟨i, hi, rfl⟩ := List.mem_map.1 hz
  have hi' : i < ids.length := by simpa using hi
  refine ⟨toN (wgA l ids ws i), List.mem_map.2 ⟨_, List.mem_map.2 ⟨i, hi, rfl⟩, rfl⟩, rfl, rfl, h i hi'⟩
/-- Lists of which one is nowhere greater. -/
def LLe (A B : List Int) : Prop := A.length = B.length ∧ ∀ i, A.getD i 0 ≤ B.getD i 0
theorem LLe.app {A B C D : List Int} (h : LLe A B) (k : LLe C D) : LLe (A ++ C) (B ++ D) := by
  refine ⟨by rw [List.length_append, List.length_append, h.1, k.1], fun i => ?_⟩
  by_cases hi : i < A.length
  · have e1 : (A ++ C).getD i 0 = A.getD i 0 := by simp [List.getD, List.getElem?_append_left hi]
    have e2 : (B ++ D).getD i 0 = B.getD i 0 := by simp [List.getD, List.getElem?_append_left (show i < B.length by rw [← h.1]; exact hi)]
    rw [e1, e2]
    exact h.2 i
  · have e1 : (A ++ C).getD i 0 = C.getD (i - A.length) 0 := by simp [List.getD, List.getElem?_append_right (show A.length ≤ i by omega)]
    have e2 : (B ++ D).getD i 0 = D.getD (i - A.length) 0 := by simp [List.getD, List.getElem?_append_right (show B.length ≤ i by have := h.1; omega), h.1]
    rw [e1, e2]
    exact k.2 _
theorem map_lle (f g : Nat → Int) (S : List Nat) (h : ∀ v, f v ≤ g v) : LLe (S.map f) (S.map g) := by
  refine ⟨by simp, fun i => ?_⟩
  by_cases hi : i < S.length
  · simp [List.getD, hi]
    exact h _
  · simp [List.getD, hi]
theorem mxK_le {wl vl : List A} {S : List Nat} (h : ∀ i, i < S.length → ∀ v, dF wl (S.getD i 0) v ≤ dF vl (S.getD i 0) v) (k : Nat) (hk : k ≤ S.length) : LLe (mxK wl S k) (mxK vl S k) := by
  induction k with
  | zero => simp [mxK, LLe]
  | succ k ih =>
    rw [mxK_succ (by omega), mxK_succ (by omega)]
    exact (ih (by omega)).app (map_lle _ _ _ (h k (by omega)))
/-- A weight that is no less. -/
def mr1 (x : Int) : Int := max x (x / 2 + 1000)
theorem mr1_ge (x : Int) : x ≤ mr1 x := by unfold mr1; omega
theorem mr1_in {x : Int} (h : 0 ≤ x ∧ x < 4294967296) : 0 ≤ mr1 x ∧ mr1 x < 4294967296 := by unfold mr1; omega
theorem ext_getD {A B : List Int} (h : A.length = B.length) (h2 : ∀ i, i < A.length → A.getD i 0 = B.getD i 0) : A = B := by
  apply List.ext_getElem h
  intro i h3 h4
  have := h2 i h3
  simpa [List.getD, h3, h4] using this
def mrK (ws : List Int) (k : Nat) : List Int := (List.range ws.length).map (fun i => if i < k then mr1 (ws.getD i 0) else ws.getD i 0)
theorem mrK_len (ws : List Int) (k : Nat) : (mrK ws k).length = ws.length := by simp [mrK]
theorem mrK_at {ws : List Int} {k i : Nat} (h : i < ws.length) : (mrK ws k).getD i 0 = if i < k then mr1 (ws.getD i 0) else ws.getD i 0 := by
  unfold mrK
  rw [show ((List.range ws.length).map (fun i => if i < k then mr1 (ws.getD i 0) else ws.getD i 0)).getD i 0 = (fun i => if i < k then mr1 (ws.getD i 0) else ws.getD i 0) i by simp [List.getD, h]]
theorem mrK_zero (ws : List Int) : mrK ws 0 = ws := ext_getD (mrK_len ws 0) (fun i hi => by
  rw [mrK_len] at hi
  rw [mrK_at hi, if_neg (by omega)])
theorem mrK_get {ws : List Int} {k : Nat} (h : k < ws.length) : (mrK ws k).getD k 0 = ws.getD k 0 := by rw [mrK_at h, if_neg (by omega)]
theorem mrK_set {ws : List Int} {k : Nat} (h : k < ws.length) : (mrK ws k).set k (mr1 (ws.getD k 0)) = mrK ws (k + 1) := by
  refine ext_getD (by rw [List.length_set, mrK_len, mrK_len]) (fun i hi => ?_)
  rw [List.length_set, mrK_len] at hi
  rw [mrK_at hi]
  by_cases e : k = i
  · subst e
    rw [if_pos (by omega)]
    simp [List.getD, mrK_len, h]
  · have e2 : ((mrK ws k).set k (mr1 (ws.getD k 0))).getD i 0 = (mrK ws k).getD i 0 := by simp [List.getD, List.getElem?_set_ne e]
    rw [e2, mrK_at hi]
    by_cases h2 : i < k
    · rw [if_pos h2, if_pos (by omega)]
    · rw [if_neg h2, if_neg (by omega)]
theorem mrK_all {ws : List Int} {i : Nat} (h : i < ws.length) : (mrK ws ws.length).getD i 0 = mr1 (ws.getD i 0) := by rw [mrK_at h, if_pos h]
theorem own_setW {w : World} {B g c : Nat} {L : List Int} (h : w.ownsRow B 54 1 (.slice (some ⟨g, 0, none⟩) L.length c) L.length (cellsW L)) (k : Nat) (x : Int) : (w.setCell ⟨g, k, none⟩ (.int .u32 x)).ownsRow B 54 1 (.slice (some ⟨g, 0, none⟩) (L.set k x).length c) (L.set k x).length (cellsW (L.set k x)) := by
  have h1 := (World.ownsRow.stored h k (.int .u32 x)).1
  have e : (cellsW L).set k (.int .u32 x) = cellsW (L.set k x) := by
    unfold cellsW
    rw [List.map_set]
  rw [e] at h1
  rw [List.length_set]
  exact h1
theorem own_cellW {w : World} {B g c : Nat} {L : List Int} (h : w.ownsRow B 54 1 (.slice (some ⟨g, 0, none⟩) L.length c) L.length (cellsW L)) {k : Nat} (hk : k < L.length) : w.cell? ⟨g, k, none⟩ = some (.int .u32 (L.getD k 0)) := by
  rw [World.ownsRow.cellAt h k (by omega), cellsW_getD L k hk]
theorem cellsW_len (l : List Int) : (cellsW l).length = l.length := by unfold cellsW; simp
/-- append of weights that came in, nil or not, to a row of the call's own. -/
theorem wp_append_camew {P : Program} {w : World} {o : Oper} {a : Act} {K : Act → World → Prop} {Q : Exit → Act → World → Prop} (s x : Operand) (t : TypeId)
    (ho : o.op = .call { callee := .builtin .append, args := #[s, x], argTypes := #[t, t] })
    (base : Nat) (i : TypeInfo) (ht : P.underlying t = some (.slice 54)) (hi : P.info? 54 = some i) (hz : i.zero = some (.int .u32 0)) (hsize : i.size = 1) (hby : i.bytes = 4)
    (v : Value) (n : Nat) (xs : List Value) (hs : a.eval s = v) (hown : w.ownsRow base 54 1 v n xs) (hv : v ≠ .slice none 0 0)
    (r : Option Addr) (ys : List Int) (c : Nat) (hx : a.eval x = .slice r ys.length c) (hn : r = none → ys = [] ∧ c = 0) (hr : Wts w r ys)
    (h63 : n + ys.length ≤ maxLen) (hbytes : (n + ys.length) * 4 ≤ 140737488355328) (hbase : base ≤ w.heap.size)
    (h : ∀ v' w', w'.ownsRow base 54 1 v' (n + ys.length) (xs ++ cellsW ys) → w.grownBy w' v.ownBlock → v' ≠ .slice none 0 0 → K (a.put o.dst v') w') : o.wp P a w K Q := by
  match r, hx, hn, hr with
  | none, hx, hn, _ =>
    obtain ⟨rfl, rfl⟩ := hn rfl
    have hrun := run_append_owned_none (P := P) (w := w) base t o.type 54 i 1 ht hi v n xs hown
    unfold Oper.wp
    simp only [List.length_nil] at hx
    simp [execOp, ho, resolve, invoke, builtin, hs, hx, hrun, Result.andThen]
    exact h v w (by simpa [cellsW] using hown) (World.grownBy.refl _ _) hv
  | some ad, hx, _, hr =>
    refine wp_append_own w s x t ho base 54 i (.int .u32 0) 1 4 ht hi hz hsize hby rfl (by decide) v n xs hs hown ad ys.length c (cellsW ys) hx (by rw [cellsW_len]; omega) (fun j u hu => ?_) (fun u hu => ?_) h63 hbytes hbase (fun v' w' h2 h3 h4 => h v' w' h2 h3 (fun e => hv (h4.1 e).1))
    · have hj : j < ys.length := by
        have := (List.getElem?_eq_some_iff.1 hu).1
        rw [cellsW_len] at this
        exact this
      rw [cellsW_getD ys j hj] at hu
      injection hu with hu
      subst hu
      rcases hr with h0 | ⟨b, o2, e1, hb, h5⟩
      · subst h0; simp at hj
      · injection e1 with e1
        subst e1
        rw [Go.WideShapes.add_plain]
        exact h5 j hj
    · unfold cellsW at hu
      obtain ⟨z, _, rfl⟩ := List.mem_map.1 hu
      rfl
theorem wpList_append_camew {P : Program} {w : World} {ops : Array Oper} {rest : List Oper} {o : Oper} {a : Act} {Q : Exit → Act → World → Prop} (hgd : o.guard = none) (s x : Operand) (t : TypeId)
    (ho : o.op = .call { callee := .builtin .append, args := #[s, x], argTypes := #[t, t] })
    (base : Nat) (i : TypeInfo) (ht : P.underlying t = some (.slice 54)) (hi : P.info? 54 = some i) (hz : i.zero = some (.int .u32 0)) (hsize : i.size = 1) (hby : i.bytes = 4)
    (v : Value) (n : Nat) (xs : List Value) (hs : a.eval s = v) (hown : w.ownsRow base 54 1 v n xs) (hv : v ≠ .slice none 0 0)
    (r : Option Addr) (ys : List Int) (c : Nat) (hx : a.eval x = .slice r ys.length c) (hn : r = none → ys = [] ∧ c = 0) (hr : Wts w r ys)
    (h63 : n + ys.length ≤ maxLen) (hbytes : (n + ys.length) * 4 ≤ 140737488355328) (hbase : base ≤ w.heap.size)
    (h : ∀ v' w', w'.ownsRow base 54 1 v' (n + ys.length) (xs ++ cellsW ys) → w.grownBy w' v.ownBlock → v' ≠ .slice none 0 0 → wpList P ops Q rest (a.put o.dst v') w') : wpList P ops Q (o :: rest) a w :=
  wpList_plain hgd fun _ hK => wp_append_camew s x t ho base i ht hi hz hsize hby v n xs hs hown hv r ys c hx hn hr h63 hbytes hbase fun v' w' h2 h3 h4 => hK _ _ (h v' w' h2 h3 h4)
set_option maxRecDepth 100000 in
set_option maxHeartbeats 6400000 in
theorem heavier_any (N : Int) (a : Option Addr) (l : List A) (cap : Nat) (ba : Option Addr) (bs : List Int) (bc : Nat) (ca : Option Addr) (C : List Cl) (cc : Nat) (lv ce ep : Int) (wa : Option Addr) (ws : List Int) (wk : Nat) (x : Value) (w : World) (hl : l.length ≤ 9223372036854775807) (hbl : bs.length ≤ 9223372036854775807) (hr : Arcs w a l) (hi : Ints w ba bs) (hR : Rws w ca C) (hW : Wts w wa ws) (hws : ∀ i, i < ws.length → 0 ≤ ws.getD i 0 ∧ ws.getD i 0 < 4294967296) (hnw : wa = none → ws = [] ∧ wk = 0) (hw4 : ws.length * 4 ≤ 140737488351232) :
    Calls Try.prog 10 #[.agg #[.int .i64 N, .slice a l.length cap], .agg #[.slice ba bs.length bc, .slice ca C.length cc], .agg #[.int .i64 lv, .int .i64 ce, .int .i64 ep, .slice wa ws.length wk, x]] w fun e w' => e = .returned (.bool true) ∧ Below w.heap.size w w' := by
  obtain ⟨hg0, hg1, hg2, hb0, hsz⟩ := top3 w (.cells #[.int .i64 N, .slice a l.length cap] 24) (.cells #[.slice ba bs.length bc, .slice ca C.length cc] 28) (.cells #[.int .i64 lv, .int .i64 ce, .int .i64 ep, .slice wa ws.length wk, x] 66)
  have HGN0 : Hid (GN (((w.alloc (.cells #[.int .i64 N, .slice a l.length cap] 24)).alloc (.cells #[.slice ba bs.length bc, .slice ca C.length cc] 28)).alloc (.cells #[.int .i64 lv, .int .i64 ce, .int .i64 ep, .slice wa ws.length wk, x] 66)) w.heap.size N a l cap ba bs bc ca C cc) := ⟨hg0, hg1, hr.on hb0, hi.on hb0, hR.on hb0⟩
  have HWT0 : Hid (Wts (((w.alloc (.cells #[.int .i64 N, .slice a l.length cap] 24)).alloc (.cells #[.slice ba bs.length bc, .slice ca C.length cc] 28)).alloc (.cells #[.int .i64 lv, .int .i64 ce, .int .i64 ep, .slice wa ws.length wk, x] 66)) wa ws) := hW.on hb0
  have HB0 := Lib.hid hb0
  have HG2 := Lib.hid hg2
  have HWS := Lib.hid hws
  have HNW := Lib.hid hnw
  obtain ⟨i54, hi54, hz54, hs54, hby54⟩ := info_parts info54
  clear hr hi hR hW hb0 hg0 hg1 hg2 hws hnw
  generalize hp : w.heap.size = p at *
  go_enter Try.func10, Try.ntmps10
  go_wp2_with fail
  generalize hWW : (((w.alloc (.cells #[.int .i64 N, .slice a l.length cap] 24)).alloc (.cells #[.slice ba bs.length bc, .slice ca C.length cc] 28)).alloc (.cells #[.int .i64 lv, .int .i64 ce, .int .i64 ep, .slice wa ws.length wk, x] 66)) = W at *
  clear hWW
  have HXC : Hid (∀ wr, Below W.heap.size W wr → (wr.cell? ⟨p, 0, none⟩ = some (.int .i64 N) ∧ wr.cell? ⟨p, 1, none⟩ = some (.slice a l.length cap) ∧ wr.cell? ⟨p + 1, 0, none⟩ = some (.slice ba bs.length bc) ∧ wr.cell? ⟨p + 1, 1, none⟩ = some (.slice ca C.length cc)) ∧ wr.cell? ⟨p + 1 + 1, 1, none⟩ = some (.int .i64 ce) ∧ wr.cell? ⟨p + 1 + 1, 3, none⟩ = some (.slice wa ws.length wk)) := fun wr hb => by
    obtain ⟨_, j1, _, j3, _⟩ := five_cells ((hb.block _ (lt_of_block HG2.out)).trans HG2.out)
    exact ⟨(HGN0.out.on hb).cells, j1, j3⟩
  have HGS : Hid (∀ wr, Below W.heap.size W wr → GN wr p N a l cap ba bs bc ca C cc ∧ Wts wr wa ws) := fun wr hb => ⟨HGN0.out.on hb, HWT0.out.on hb⟩
  have HEND : Hid (∀ wr, Below W.heap.size W wr → Below p w wr) := fun wr h => HB0.out.trans (h.mono (by omega))
  have hpW : p + 3 ≤ W.heap.size := by omega
  clear HB0 HGN0 HWT0 HG2
  refine (works13_any W).mono ?_
  rintro e w1 ⟨rfl, hb1⟩
  have HB1 := Lib.hid hb1
  clear hb1
  obtain ⟨⟨q0, q1, q2, q3⟩, q4, q5⟩ := HXC.out w1 HB1.out
  have HLR := Lib.hid (large3_any N a l cap w1 hl (HGS.out w1 HB1.out).1.arcs)
  obtain ⟨V, HV⟩ := named (lgB N l)
  rw [HV.out] at HLR
  go_wp2_with fail
  refine HLR.out.mono ?_
  rintro e w2 ⟨rfl, hb2⟩
  have HB2 : Hid (Below W.heap.size W w2) := HB1.out.trans (hb2.mono HB1.out.size)
  clear hb2 HLR q0 q1 q2 q3 q4 q5
  rcases V with _ | _
  rotate_left
  · go_wp2_with fail
    go_ret
    exact ⟨rfl, HEND.out _ HB2.out⟩
  obtain ⟨⟨q0, q1, q2, q3⟩, q4, q5⟩ := HXC.out w2 HB2.out
  obtain ⟨s1, s2⟩ := HGS.out w2 HB2.out
  have HLF := Lib.hid (leaf_any N a l cap ba bs bc ca C cc ce 0 wa ws wk w2 hl hbl s1.arcs s1.ints s1.rws s2 HWS.out)
  obtain ⟨B, HBB⟩ := named (byE N l bs (csl C) 1 ce 0 ws.length)
  rw [HBB.out] at HLF
  clear s1 s2
  go_wp2_with fail
  refine HLF.out.mono ?_
  rintro e w3 ⟨hok, hno, hb3⟩
  have HB3 : Hid (Below W.heap.size W w3) := HB2.out.trans (hb3.mono HB2.out.size)
  clear HLF q0 q1 q2 q3 q4 q5
  by_cases h1 : B = 0
  rotate_left
  · obtain rfl := hno h1
    have e1 : (B != 0) = true := by simpa using h1
    have hM := heap_top w3 (.cells #[.int .i64 0, .int .i64 0, .int .i64 0, .slice none 0 0] 69)
    obtain ⟨⟨m0, m1, m2, m3⟩, _⟩ := four_cells hM
    have HB4 : Hid (Below W.heap.size W (w3.alloc (.cells #[.int .i64 0, .int .i64 0, .int .i64 0, .slice none 0 0] 69))) := HB3.out.alloc HB3.out.size _
    clear hok hno hM hb3
    go_wp2_with fail
    go_ret
    exact ⟨rfl, HEND.out _ HB4.out⟩
  subst h1
  obtain ⟨v, c, rfl, hown, hD⟩ := hok rfl
  clear hok hno
  have hDX := dts_own hown
  have HIS := Lib.hid hD
  obtain ⟨ids, HID⟩ := named (inV N l bs (csl C) 1 ce)
  obtain ⟨S, HS⟩ := named (bdV N l bs (csl C) 1 ce)
  rw [HID.out, HS.out] at HIS hDX
  have HLW : Hid (ws.length = ids.length) := by
    have := HBB.out
    unfold byE jbE at this
    split at this
    · rename_i h3; exact absurd this h3
    · split at this
      · exact absurd this (by decide)
      · split at this
        · exact absurd this (by decide)
        · rename_i h3 h4 h5
          rw [HID.out] at h5
          have h6 : ws.length = ids.length := by simpa using h5
          exact h6
  rw [HID.out, HS.out]
  have hX20 : (mxL (wgL l ids ws) S).length ≤ 1048576 := by
    have h5 := mxK_len (wgL l ids ws) S S.length
    have h6 : S.length ≤ 1024 := by rw [← HS.out]; exact bd_len
    have h7 : S.length * S.length ≤ 1024 * 1024 := Nat.mul_le_mul h6 h6
    unfold mxL
    omega
  obtain ⟨X, HX⟩ := named (mxL (wgL l ids ws) S)
  rw [HX.out] at hDX hX20
  rw [HX.out]
  have hM := heap_top w3 (.cells #[.int .i64 1, .int .i64 ce, .int .i64 0, .slice v X.length c] 69)
  have hbM : Below w3.heap.size w3 (w3.alloc (.cells #[.int .i64 1, .int .i64 ce, .int .i64 0, .slice v X.length c] 69)) := (Below.refl _ _).alloc (Nat.le_refl _) _
  have HB4 : Hid (Below W.heap.size W (w3.alloc (.cells #[.int .i64 1, .int .i64 ce, .int .i64 0, .slice v X.length c] 69))) := HB3.out.trans (hbM.mono HB3.out.size)
  have HDX := Lib.hid (hDX.on hbM)
  have HM := Lib.hid hM
  have hz3 : W.heap.size ≤ w3.heap.size := HB3.out.size
  clear hown hDX hD hM hbM hb3
  have hz4 : (w3.alloc (.cells #[.int .i64 1, .int .i64 ce, .int .i64 0, .slice v X.length c] 69)).heap.size = w3.heap.size + 1 := by simp
  have HO0 : Hid (((w3.alloc (.cells #[.int .i64 1, .int .i64 ce, .int .i64 0, .slice v X.length c] 69)).alloc (.cells #[] 54)).ownsRow (w3.heap.size + 1) 54 1 (.slice (some ⟨w3.heap.size + 1, 0, none⟩) 0 0) 0 []) := by
    have h := World.ownsRow_lit (base := w3.heap.size + 1) (e := 54) (size := 1) (w3.alloc (.cells #[.int .i64 1, .int .i64 ce, .int .i64 0, .slice v X.length c] 69)) #[] 0 (by rw [hz4]; omega) (by decide) rfl
    rw [hz4] at h
    exact h
  have HBL : Hid (Below (w3.heap.size + 1) (w3.alloc (.cells #[.int .i64 1, .int .i64 ce, .int .i64 0, .slice v X.length c] 69)) ((w3.alloc (.cells #[.int .i64 1, .int .i64 ce, .int .i64 0, .slice v X.length c] 69)).alloc (.cells #[] 54))) := (Below.refl _ _).alloc (by omega) _
  have HWL : Hid (Wts ((w3.alloc (.cells #[.int .i64 1, .int .i64 ce, .int .i64 0, .slice v X.length c] 69)).alloc (.cells #[] 54)) wa ws) := ((HGS.out _ HB4.out).2).on (by rw [hz4]; exact HBL.out)
  have hz5 : ((w3.alloc (.cells #[.int .i64 1, .int .i64 ce, .int .i64 0, .slice v X.length c] 69)).alloc (.cells #[] 54)).heap.size = w3.heap.size + 1 + 1 := by simp
  obtain ⟨⟨q0, q1, q2, q3⟩, q4, q5⟩ := HXC.out _ (HB4.out.trans (HBL.out.mono (by omega)))
  go_wp2_with (at_builtin; go_must (refine wpList_append_camew rfl (.tmp 34) (.tmp 36) 59 rfl (w3.heap.size + 1) i54 Try.underlying59 hi54 hz54 hs54 hby54 (.slice (some ⟨w3.heap.size + 1, 0, none⟩) 0 0) 0 [] rfl HO0.out (by simp) wa ws wk rfl HNW.out HWL.out (by unfold maxLen; omega) (by omega) (by rw [hz5]; omega) ?_; intro v6 w6 hown6 hgrow6 hnil6; obtain ⟨g6, c6, hv6, hg6, _, _, _⟩ := own_shape hown6 hnil6; subst hv6; simp only [Nat.zero_add, List.nil_append] at hown6; have HO6 := Lib.hid hown6; have HB6 : Hid (Below (w3.heap.size + 1) (w3.alloc (.cells #[.int .i64 1, .int .i64 ce, .int .i64 0, .slice v X.length c] 69)) w6) := HBL.out.grown hgrow6 (by omega) (fun j hj => by have h2 : w3.heap.size + 1 = j := Option.some.inj hj; omega); clear hown6 hgrow6 hnil6))
  clear q0 q1 q2 q3 q4 q5 HO0 HBL HWL hz5
  generalize hq : w3.heap.size + 1 = q at *
  generalize w3.alloc (.cells #[.int .i64 1, .int .i64 ce, .int .i64 0, .slice v X.length c] 69) = w4 at *
  have HOK : Hid (w6.ownsRow q 54 1 (.slice (some ⟨g6, 0, none⟩) ws.length c6) ws.length (cellsW (mrK ws 0))) := by rw [mrK_zero]; exact HO6.out
  go_loopw [40] (fun i wr => ∃ (k : Nat), k ≤ ws.length ∧ i = .int .i64 k ∧ Hid (wr.ownsRow q 54 1 (.slice (some ⟨g6, 0, none⟩) ws.length c6) ws.length (cellsW (mrK ws k))) ∧ Hid (Below q w4 wr)) (fun i _ => ws.length - (intOf i).toNat)
  case atStart => exact ⟨0, Nat.zero_le _, rfl, HOK, HB6⟩
  case round =>
    clear HOK HB6 HO6
    obtain ⟨k, hk, rfl, HOW, HBR⟩ := hrel
    have HML := Lib.hid (mrK_len ws k)
    have hOW : wr.ownsRow q 54 1 (.slice (some ⟨g6, 0, none⟩) (mrK ws k).length c6) (mrK ws k).length (cellsW (mrK ws k)) := by rw [HML.out]; exact HOW.out
    by_cases hlk : k < ws.length
    · have hlk' : (k : Int) < ws.length := by omega
      have hk0 : (0 : Int) ≤ k := by omega
      have r0 := own_cellW hOW (k := k) (by rw [HML.out]; exact hlk)
      rw [mrK_get hlk] at r0
      have f0 := World.ownsRow.frozenAt hOW k
      have hOS := own_setW hOW k (mr1 (ws.getD k 0))
      rw [mrK_set hlk, mrK_len] at hOS
      obtain ⟨hx0, hx1⟩ := HWS.out k hlk
      have HOS := Lib.hid hOS
      obtain ⟨x, HXX⟩ := named (ws.getD k 0)
      rw [HXX.out] at r0 HOS hx0 hx1
      have HOD : Hid ((wr.setCell ⟨g6, k, none⟩ (.int .u32 (max x (x / 2 + 1000)))).drew.ownsRow q 54 1 (.slice (some ⟨g6, 0, none⟩) ws.length c6) ws.length (cellsW (mrK ws (k + 1)))) := HOS.out
      have HBD : Hid (Below q w4 (wr.setCell ⟨g6, k, none⟩ (.int .u32 (max x (x / 2 + 1000)))).drew) := (HBR.out.setCell (p := ⟨g6, k, none⟩) hg6 _).drew
      clear hOW hOS HOS
      go_wp2_with fail
      go_region
      generalize (wr.setCell ⟨g6, k, none⟩ (.int .u32 (max x (x / 2 + 1000)))).drew = w7 at *
      go_wp2_with fail
      exact ⟨⟨k + 1, by omega, by simp, HOD, HBD⟩, by simp [intOf]; omega⟩
    · have hlk' : ¬ (k : Int) < ws.length := by omega
      obtain rfl : k = ws.length := by omega
      have hBW : Below W.heap.size W wr := HB4.out.trans (HBR.out.mono (by omega))
      obtain ⟨⟨q0, q1, q2, q3⟩, q4, q5⟩ := HXC.out wr hBW
      obtain ⟨s1, s2⟩ := HGS.out wr hBW
      have hbq : Below w4.heap.size w4 wr := by rw [hz4]; exact HBR.out
      have HDX2 := Lib.hid (HDX.out.on hbq)
      have HM2 := Lib.hid ((HBR.out.block w3.heap.size (by omega)).trans HM.out)
      have HVG : Hid (∀ i, i < ws.length → (mrK ws ws.length).getD i 0 = mr1 (ws.getD i 0)) := fun i hi => mrK_all hi
      obtain ⟨vs, HVS⟩ := named (mrK ws ws.length)
      rw [HVS.out] at hOW HML HVG
      have HLF := Lib.hid (leaf_any N a l cap ba bs bc ca C cc ce 0 (some ⟨g6, 0, none⟩) vs c6 wr hl hbl s1.arcs s1.ints s1.rws (wts_own hOW) (fun i hi => by
        rw [HML.out] at hi
        rw [HVG.out i hi]
        exact mr1_in (HWS.out i hi)))
      rw [HML.out, HBB.out, HID.out, HS.out] at HLF
      have HBW := Lib.hid hBW
      clear s1 s2 hBW hbq hOW HOW
      go_wp2_with fail
      refine HLF.out.mono ?_
      rintro e w8 ⟨hok, _, hb8⟩
      obtain ⟨v2, c2, rfl, hown2, hD2⟩ := hok (by simp)
      have HB8 : Hid (Below W.heap.size W w8) := HBW.out.trans (hb8.mono HBW.out.size)
      have hLE : LLe X (mxL (wgL l ids vs) S) := by
        rw [← HX.out]
        refine mxK_le (fun i hi v => d_le (wg_le (fun j hj => ?_)) (HIS.out i hi) (hD2 i hi) v) S.length (Nat.le_refl _)
        rw [← HLW.out] at hj
        rw [HVG.out j hj]
        exact mr1_ge _
      have hDY := dts_own hown2
      obtain ⟨Y, HY⟩ := named (mxL (wgL l ids vs) S)
      rw [HY.out] at hDY hLE
      rw [HY.out]
      obtain ⟨hXY, hXYle⟩ := hLE
      have HLE := Lib.hid hXYle
      rw [← hXY]
      have hbM : Below w8.heap.size w8 (w8.alloc (.cells #[.int .i64 1, .int .i64 ce, .int .i64 0, .slice v2 X.length c2] 69)) := (Below.refl _ _).alloc (Nat.le_refl _) _
      have HB9 : Hid (Below W.heap.size W (w8.alloc (.cells #[.int .i64 1, .int .i64 ce, .int .i64 0, .slice v2 X.length c2] 69))) := HB8.out.trans (hbM.mono HB8.out.size)
      have HDY := Lib.hid (hDY.on hbM)
      have HDX3 := Lib.hid ((HDX2.out.on hb8).on hbM)
      have HN1 := Lib.hid ((hbM.block _ (lt_of_block ((hb8.block _ (lt_of_block HM2.out)).trans HM2.out))).trans ((hb8.block _ (lt_of_block HM2.out)).trans HM2.out))
      have HN2 := Lib.hid (heap_top w8 (.cells #[.int .i64 1, .int .i64 ce, .int .i64 0, .slice v2 X.length c2] 69))
      have HXYL := Lib.hid hXY
      clear hok hown2 hD2 hDY hXYle hbM hb8 HLF HM2 HDX2 q0 q1 q2 q3 q4 q5 hXY
      obtain ⟨⟨_, _, _, m3⟩, _⟩ := four_cells HN1.out
      obtain ⟨⟨_, _, _, m7⟩, _⟩ := four_cells HN2.out
      have bl : ((X.length : Int) != (X.length : Int)) = false := by simp
      go_wp2_with fail
      generalize w8.alloc (.cells #[.int .i64 1, .int .i64 ce, .int .i64 0, .slice v2 X.length c2] 69) = w9 at *
      generalize w8.heap.size = qn at *
      generalize w3.heap.size = qm at *
      obtain ⟨b1, o1, hab1⟩ := HDX3.out.get
      obtain ⟨b2, o2, hab2⟩ := HDY.out.get
      have HA1 := Lib.hid hab1
      have HA2 := Lib.hid hab2
      clear hab1 hab2 HN1 HN2 HDX3 HDY
      go_loopw [81] (fun i wr => ∃ k n : Nat, k ≤ X.length ∧ i = .int .i64 k ∧ wr = w9.drewN n) (fun i _ => X.length - (intOf i).toNat)
      case atStart => exact ⟨0, 0, Nat.zero_le _, rfl, rfl⟩
      case round =>
        obtain ⟨k, n, hk, rfl, rfl⟩ := hrel
        by_cases hlt : k < X.length
        · have hlt' : (k : Int) < X.length := by omega
          have hk0 : (0 : Int) ≤ k := by omega
          obtain ⟨rfl, _, hc⟩ := HA1.out (by omega)
          obtain ⟨rfl, _, hc'⟩ := HA2.out (by rw [← HXYL.out]; omega)
          have c1' := hc k hlt
          have c2' := hc' k (by rw [← HXYL.out]; exact hlt)
          have hle := HLE.out k
          clear hc hc'
          generalize X.getD k 0 = xk at *
          generalize Y.getD k 0 = yk at *
          have g1 : decide (yk < xk) = false := decide_eq_false (by omega)
          go_wp2_with fail
          go_quiet (fail)
          go_wp2_with fail
          exact ⟨⟨k + 1, _, by omega, by go_num, rfl⟩, by simp [intOf]; omega⟩
        · have hlt' : ¬ (k : Int) < X.length := by omega
          have HBZ : Hid (Below W.heap.size W (w9.drewN n)) := HB9.out.trans (below_drewN _ _ n)
          go_wp2_with fail
          go_ret
          exact ⟨rfl, HEND.out _ HBZ.out⟩
end Go.Proofs.Ytpmjbeiclmllmaa
