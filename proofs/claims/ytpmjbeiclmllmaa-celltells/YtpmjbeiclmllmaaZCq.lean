/-
  The book's SpoilInts over a row that is cut. The contract of the book's CopyNest.
-/
import Derived.Test.YtpmjbeiclmllmaaZCp
import Derived.Test.YtpmjbeiclmllmaaNsI
import Derived.Laws.AppendOwnNone
import Derived.Deep.DeepMust
import Derived.Test.YtpmjbeiclmllmaaCe3
namespace Go.Proofs.Ytpmjbeiclmllmaa
open Go.RowKit
theorem info25r : (Try.prog.info? 25).map (fun i => (i.zero, i.size, i.bytes)) = some (some (.slice none 0 0), 1, 24) := by kernel_rfl
/-- append of a row that came in, nil or not, to one of the call's own. -/
theorem wp_append_came {P : Program} {w : World} {o : Oper} {a : Act} {K : Act → World → Prop} {Q : Exit → Act → World → Prop} (s x : Operand) (t : TypeId)
    (ho : o.op = .call { callee := .builtin .append, args := #[s, x], argTypes := #[t, t] })
    (base : Nat) (i : TypeInfo) (ht : P.underlying t = some (.slice 3)) (hi : P.info? 3 = some i) (hz : i.zero = some (.int .i64 0)) (hsize : i.size = 1) (hby : i.bytes = 8)
    (v : Value) (n : Nat) (xs : List Value) (hs : a.eval s = v) (hown : w.ownsRow base 3 1 v n xs) (hv : v ≠ .slice none 0 0)
    (r : Option Addr) (ys : List Int) (c : Nat) (hx : a.eval x = .slice r ys.length c) (hn : r = none → ys = [] ∧ c = 0) (hr : Ints w r ys)
    (h63 : n + ys.length ≤ maxLen) (hbytes : (n + ys.length) * 8 ≤ 140737488355328) (hbase : base ≤ w.heap.size)
    (h : ∀ v' w', w'.ownsRow base 3 1 v' (n + ys.length) (xs ++ cellsI ys) → w.grownBy w' v.ownBlock → v' ≠ .slice none 0 0 → K (a.put o.dst v') w') : o.wp P a w K Q := by
  match r, hx, hn, hr with
  | none, hx, hn, _ =>
    obtain ⟨rfl, rfl⟩ := hn rfl
    have hrun := run_append_owned_none (P := P) (w := w) base t o.type 3 i 1 ht hi v n xs hown
    unfold Oper.wp
    simp only [List.length_nil] at hx
    simp [execOp, ho, resolve, invoke, builtin, hs, hx, hrun, Result.andThen]
    exact h v w (by simpa [cellsI] using hown) (World.grownBy.refl _ _) hv
  | some ad, hx, _, hr =>
    have hnews := ints_news hr (.cells #[] 3)
    refine wp_append_own w s x t ho base 3 i (.int .i64 0) 1 8 ht hi hz hsize hby rfl (by decide) v n xs hs hown ad ys.length c (cellsI ys) hx (by rw [cellsI_len]; omega) (fun j u hu => ?_) (one_i ys) h63 hbytes hbase (fun v' w' h2 h3 h4 => h v' w' h2 h3 (fun e => hv (h4.1 e).1))
    have := hnews j u hu
    have hl : (ad.add j).block < w.heap.size := by
      rcases hr with h0 | ⟨b, o2, e1, hb, _⟩
      · subst h0; simp [cellsI] at hu
      · injection e1 with e1
        subst e1
        unfold Addr.add
        split <;> exact hb
    exact (World.cell?_of_block (w := w) (w' := w.alloc (.cells #[] 3)) (a := ad.add j) (Below.heap_alloc _ _ _ hl)).symm.trans this
theorem wpList_append_came {P : Program} {w : World} {ops : Array Oper} {rest : List Oper} {o : Oper} {a : Act} {Q : Exit → Act → World → Prop} (hgd : o.guard = none) (s x : Operand) (t : TypeId)
    (ho : o.op = .call { callee := .builtin .append, args := #[s, x], argTypes := #[t, t] })
    (base : Nat) (i : TypeInfo) (ht : P.underlying t = some (.slice 3)) (hi : P.info? 3 = some i) (hz : i.zero = some (.int .i64 0)) (hsize : i.size = 1) (hby : i.bytes = 8)
    (v : Value) (n : Nat) (xs : List Value) (hs : a.eval s = v) (hown : w.ownsRow base 3 1 v n xs) (hv : v ≠ .slice none 0 0)
    (r : Option Addr) (ys : List Int) (c : Nat) (hx : a.eval x = .slice r ys.length c) (hn : r = none → ys = [] ∧ c = 0) (hr : Ints w r ys)
    (h63 : n + ys.length ≤ maxLen) (hbytes : (n + ys.length) * 8 ≤ 140737488355328) (hbase : base ≤ w.heap.size)
    (h : ∀ v' w', w'.ownsRow base 3 1 v' (n + ys.length) (xs ++ cellsI ys) → w.grownBy w' v.ownBlock → v' ≠ .slice none 0 0 → wpList P ops Q rest (a.put o.dst v') w') : wpList P ops Q (o :: rest) a w :=
  wpList_plain hgd fun _ hK => wp_append_came s x t ho base i ht hi hz hsize hby v n xs hs hown hv r ys c hx hn hr h63 hbytes hbase fun v' w' h2 h3 h4 => hK _ _ (h v' w' h2 h3 h4)
/-- Rows that came in are nil or not, and not too great. -/
def RwB (C : List Cl) : Prop := C.length * 24 ≤ 140737488351232 ∧ ∀ j, j < C.length → ((cl C j).a = none → (cl C j).xs = [] ∧ (cl C j).c = 0) ∧ (cl C j).xs.length * 8 ≤ 140737488351232
/-- A copy of a nest, in rows of its own. -/
def CpO (w : World) (B : Nat) (ba : Option Addr) (bs : List Int) (bc : Nat) (ca : Option Addr) (V C : List Cl) (cc : Nat) : Prop :=
  w.ownsRow B 3 1 (.slice ba bs.length bc) bs.length (cellsI bs) ∧ w.ownsRow B 25 1 (.slice ca C.length cc) C.length (V.map Cl.val) ∧ V.length = C.length ∧ ∀ j, j < C.length → w.ownsRow B 3 1 (cl V j).val (cl V j).xs.length (cellsI (cl V j).xs) ∧ (cl V j).xs = (cl C j).xs
def CpI (w w' : World) (e : Ending) (bs : List Int) (C : List Cl) : Prop := ∃ ba bc ca V cc, e = .returned (.agg #[.slice ba bs.length bc, .slice ca C.length cc]) ∧ CpO w' w.heap.size ba bs bc ca V C cc ∧ Below w.heap.size w w'
theorem CpO.on {w w' : World} {B : Nat} {ba : Option Addr} {bs : List Int} {bc : Nat} {ca : Option Addr} {V C : List Cl} {cc : Nat} (h : CpO w B ba bs bc ca V C cc) (hb : Below w.heap.size w w') : CpO w' B ba bs bc ca V C cc := ⟨own_on h.1 hb, own_on h.2.1 hb, h.2.2.1, fun j hj => ⟨own_on (h.2.2.2 j hj).1 hb, (h.2.2.2 j hj).2⟩⟩
theorem own_typed {w : World} {B b i : Nat} {e t : TypeId} {size : Nat} {v : Value} {n : Nat} {xs : List Value} {cs : Array Value} (h : w.ownsRow B e size v n xs) (hg : w.heap[b]? = some (.cells cs t)) (hne : e ≠ t) (u : Value) : (w.setCell ⟨b, i, none⟩ u).ownsRow B e size v n xs := by
  rcases h with ⟨h0, h | ⟨g, c, cur, h1, h2, h3, h4⟩⟩
  · exact ⟨h0, Or.inl h⟩
  · have e1 : g ≠ b := by
      rintro rfl
      rw [hg] at h3
      injection h3 with e5
      injection e5 with e6 e7 e8
      exact hne e7.symm
    exact ⟨h0, Or.inr ⟨g, c, cur, h1, h2, (Below.heap_setCell w ⟨b, i, none⟩ u g e1).trans h3, h4⟩⟩
theorem CpO.far {w : World} {B b i : Nat} {t : TypeId} {ba : Option Addr} {bs : List Int} {bc : Nat} {ca : Option Addr} {V C : List Cl} {cc : Nat} {cs : Array Value} (h : CpO w B ba bs bc ca V C cc) (hg : w.heap[b]? = some (.cells cs t)) (h3 : 3 ≠ t) (h25 : 25 ≠ t) (u : Value) : CpO (w.setCell ⟨b, i, none⟩ u) B ba bs bc ca V C cc := ⟨own_typed h.1 hg h3 u, own_typed h.2.1 hg h25 u, h.2.2.1, fun j hj => ⟨own_typed (h.2.2.2 j hj).1 hg h3 u, (h.2.2.2 j hj).2⟩⟩
theorem CpO.rws {w : World} {B : Nat} {ba : Option Addr} {bs : List Int} {bc : Nat} {av : Option Addr} {V C : List Cl} {cv : Nat} (h : CpO w B ba bs bc av V C cv) (hb : ∀ j, j < C.length → (cl C j).xs.length ≤ 9223372036854775807) : Rws w av V ∧ csl V = csl C := by
  obtain ⟨_, h2, h3, h4⟩ := h
  refine ⟨⟨?_, fun j hj => ?_⟩, ?_⟩
  · by_cases h0 : V = []
    · exact .inl h0
    · right
      rcases h2.2 with ⟨_, h'⟩ | ⟨g, c', cur, h', hb', hg, hnc, hm, hcs, ht⟩
      · rw [h'] at h3; exact absurd (List.eq_nil_of_length_eq_zero h3) h0
      · injection h' with e1 e2 e3
        subst e1
        refine ⟨g, 0, rfl, lt_of_block hg, fun j hj => ?_⟩
        rw [Nat.zero_add]
        have h5 := World.ownsRow.cellAt h2 j (by rw [Nat.mul_one, ← h3]; exact hj)
        rw [h5, List.getElem?_map]
        simp [cl, List.getD, List.getElem?_eq_getElem hj]
  · obtain ⟨h5, h6⟩ := h4 j (by omega)
    refine ⟨ints_own h5, ?_⟩
    rw [h6]
    exact hb j (by omega)
  · unfold csl
    refine List.ext_getElem (by simp [h3]) (fun j h5 h6 => ?_)
    have h7 := (h4 j (by simpa [h3] using h5)).2
    have h8 : j < V.length := by simpa using h5
    have h9 : j < C.length := by simpa using h6
    simpa [cl, List.getD, h8, h9] using h7
theorem ints_far {w : World} {a : Option Addr} {xs : List Int} (h : Ints w a xs) (d k : Nat) (u : Value) (hn : ∀ b, a.map Addr.block = some b → b ≠ d) : Ints (w.setCell ⟨d, k, none⟩ u) a xs := by
  rcases h with h | ⟨b, o, rfl, hl, hc⟩
  · exact Or.inl h
  · exact Or.inr ⟨b, o, rfl, by simpa using hl, fun j hj => (World.cell?_of_block (w := w) (a := ⟨b, o + j, none⟩) (Below.heap_setCell w ⟨d, k, none⟩ u b (hn b rfl))).trans (hc j hj)⟩
/-- The copy as it is made. -/
def CpL (w : World) (q g1 c1 nb : Nat) (C V : List Cl) (k : Nat) (av : Option Addr) (cv : Nat) : Prop :=
  w.heap[q]? = some (.cells #[.slice (some ⟨g1, 0, none⟩) nb c1, .slice av k cv] 28) ∧ w.ownsRow (q + 1) 25 1 (.slice av k cv) k (V.map Cl.val) ∧ V.length = k ∧ ∀ j, j < k → w.ownsRow (q + 1) 3 1 (cl V j).val (cl V j).xs.length (cellsI (cl V j).xs) ∧ (cl V j).xs = (cl C j).xs
theorem cl_app_lt {V : List Cl} {x : Cl} {j : Nat} (h : j < V.length) : cl (V ++ [x]) j = cl V j := by simp [cl, List.getD, List.getElem?_append_left h]
theorem cl_app_eq (V : List Cl) (x : Cl) : cl (V ++ [x]) V.length = x := by simp [cl, List.getD]
theorem CpL.far {w : World} {q g1 c1 nb : Nat} {C V : List Cl} {k : Nat} {av : Option Addr} {cv : Nat} (h : CpL w q g1 c1 nb C V k av cv) (d i : Nat) (u : Value) (hd : d < q) : CpL (w.setCell ⟨d, i, none⟩ u) q g1 c1 nb C V k av cv :=
  ⟨(Below.heap_setCell w ⟨d, i, none⟩ u q (by show q ≠ d; omega)).trans h.1, own_set h.2.1 ⟨d, i, none⟩ u (by show d < q + 1; omega), h.2.2.1, fun j hj => ⟨own_set (h.2.2.2 j hj).1 ⟨d, i, none⟩ u (by show d < q + 1; omega), (h.2.2.2 j hj).2⟩⟩
set_option maxRecDepth 100000 in
set_option maxHeartbeats 3200000 in
theorem copyNest_any (ba : Option Addr) (bs : List Int) (bc : Nat) (ca : Option Addr) (C : List Cl) (cc : Nat) (w : World) (hblen : bs.length * 8 ≤ 140737488351232) (hbn : ba = none → bs = [] ∧ bc = 0) (hi : Ints w ba bs) (hR : Rws w ca C) (hB : RwB C) :
    Calls Try.prog 14 #[.agg #[.slice ba bs.length bc, .slice ca C.length cc]] w fun e w' => CpI w w' e bs C := by
  obtain ⟨i3, hi3, hz3, hs3, hby3⟩ := info_parts info3
  obtain ⟨i25, hi25, hz25, hs25, hby25⟩ := info_parts info25r
  obtain ⟨t0, t1, t2, t3, t4⟩ := top3 w (.cells #[.slice ba bs.length bc, .slice ca C.length cc] 28) (.cells #[.slice none 0 0, .slice none 0 0] 28) (.cells #[] 3)
  obtain ⟨⟨a0, a1⟩, _⟩ := two_cells t0
  have HN0 := Lib.hid t0
  have HZ0 := Lib.hid t1
  have HB0 := Lib.hid t3
  have HIB := Lib.hid (hi.on t3)
  have HRR := Lib.hid hR
  have HBB := Lib.hid hB
  have HO0 : Hid ((((w.alloc (.cells #[.slice ba bs.length bc, .slice ca C.length cc] 28)).alloc (.cells #[.slice none 0 0, .slice none 0 0] 28)).alloc (.cells #[] 3)).ownsRow (w.heap.size + 1 + 1) 3 1 (.slice (some ⟨w.heap.size + 1 + 1, 0, none⟩) 0 0) 0 []) := by
    have h := World.ownsRow_lit (base := w.heap.size + 1 + 1) (e := 3) (size := 1) ((w.alloc (.cells #[.slice ba bs.length bc, .slice ca C.length cc] 28)).alloc (.cells #[.slice none 0 0, .slice none 0 0] 28)) #[] 0 (by simp) (by decide) rfl
    have e : ((w.alloc (.cells #[.slice ba bs.length bc, .slice ca C.length cc] 28)).alloc (.cells #[.slice none 0 0, .slice none 0 0] 28)).heap.size = w.heap.size + 1 + 1 := by simp
    rw [e] at h
    exact h
  have HBN := Lib.hid hbn
  clear t0 t1 t2 t3 hi hR hB hbn
  generalize hp : w.heap.size = p at *
  go_enter Try.func14, Try.ntmps14
  go_wp2_with (at_builtin; go_must (refine wpList_append_came rfl (.tmp 5) (.tmp 7) 25 rfl (p + 1 + 1) i3 Try.underlying25 hi3 hz3 hs3 hby3 (.slice (some ⟨p + 1 + 1, 0, none⟩) 0 0) 0 [] rfl HO0.out (by simp) ba bs bc rfl HBN.out HIB.out (by unfold maxLen; omega) (by omega) (by rw [t4]; omega) ?_; intro v1 w1 hown1 hgrow1 hnil1; obtain ⟨g1, c1, hv1, hg1, hc1, hs1, hm1⟩ := own_shape hown1 hnil1; rw [hv1] at hown1 ⊢; clear hnil1 hv1; simp only [Nat.zero_add, List.nil_append] at hown1 hc1 ⊢; have HB1 : Hid (Below p w w1) := HB0.out.grown hgrow1 (by rw [t4]; omega) (fun k hk => (by have h2 : p + 1 + 1 = k := Option.some.inj hk; omega)); have HN1 : Hid (w1.heap[p]? = some (.cells #[.slice ba bs.length bc, .slice ca C.length cc] 28)) := (hgrow1.block p (by rw [t4]; omega) (fun h => (by have h2 : p = p + 1 + 1 := Option.some.inj h; omega))).trans HN0.out; have HZ1 : Hid (w1.heap[p + 1]? = some (.cells #[.slice none 0 0, .slice none 0 0] 28)) := (hgrow1.block (p + 1) (by rw [t4]; omega) (fun h => (by have h2 : p + 1 = p + 1 + 1 := Option.some.inj h; omega))).trans HZ0.out; have hw1 : p + 2 < w1.heap.size := (by have := hgrow1.size; rw [t4] at this; omega); have HI1 := Lib.hid hown1; clear hgrow1 hown1))
  have hl24 : C.length * 24 ≤ 140737488351232 := HBB.out.1
  have HBQ : Hid (Below w1.heap.size w1 (w1.alloc (.cells #[.slice (some ⟨g1, 0, none⟩) bs.length c1, .slice none 0 0] 28))) := (Below.refl _ _).alloc (Nat.le_refl _) _
  have HC0 : Hid (CpL (w1.alloc (.cells #[.slice (some ⟨g1, 0, none⟩) bs.length c1, .slice none 0 0] 28)) w1.heap.size g1 c1 bs.length C [] 0 none 0) := ⟨heap_top w1 _, World.ownsRow_nil _ _ _ _, rfl, fun j hj => absurd hj (by omega)⟩
  obtain ⟨bx, ox, hbx⟩ := HRR.out.get
  have HBX := Lib.hid hbx
  clear hbx a0 a1 HO0 HIB HB0 HN0 HZ0
  generalize w1.alloc (.cells #[.slice (some ⟨g1, 0, none⟩) bs.length c1, .slice none 0 0] 28) = w2 at *
  go_loopw [4] (fun i wr => ∃ (k : Nat) (V : List Cl) (av : Option Addr) (cv : Nat), k ≤ C.length ∧ i = .int .i64 k ∧ Hid (CpL wr w1.heap.size g1 c1 bs.length C V k av cv) ∧ Hid (Below w1.heap.size w1 wr)) (fun i _ => C.length - (intOf i).toNat)
  case atStart => exact ⟨0, [], none, 0, Nat.zero_le _, rfl, HC0, HBQ⟩
  case round =>
    clear HC0 HBQ
    obtain ⟨k, V, av, cv, hk, rfl, HCL, HBR⟩ := hrel
    have hN := (HBR.out.block p (by omega)).trans HN1.out
    obtain ⟨⟨a0, a1⟩, _⟩ := two_cells hN
    obtain ⟨⟨b0, b1⟩, bf0, bf1⟩ := two_cells HCL.out.1
    have hqw : w1.heap.size < wr.heap.size := lt_of_block HCL.out.1
    by_cases hlk : k < C.length
    · have hlk' : (k : Int) < C.length := by omega
      obtain ⟨rfl, hbl2, hcell⟩ := HBX.out (by omega)
      have hbw : Below p w wr := HB1.out.trans (HBR.out.mono (by omega))
      have d0 := (hbw.cell (p := ⟨bx, ox + k, none⟩) (hp ▸ hbl2)).trans (hcell k hlk)
      unfold Cl.val at d0
      obtain ⟨hrn, hrl⟩ := HBB.out.2 k hlk
      have hIR := (HRR.out.2 k hlk).1.on (hp ▸ hbw)
      obtain ⟨ra, rc, xs, HRA, HRC, HXS⟩ : ∃ ra rc xs, Hid ((cl C k).a = ra) ∧ Hid ((cl C k).c = rc) ∧ Hid ((cl C k).xs = xs) := ⟨_, _, _, rfl, rfl, rfl⟩
      rw [HRA.out, HRC.out, HXS.out] at d0
      rw [HRA.out, HRC.out, HXS.out] at hrn
      rw [HXS.out] at hrl
      rw [HRA.out, HXS.out] at hIR
      have HRN := Lib.hid hrn
      have HIR := Lib.hid hIR
      have hbw1 : bx < w1.heap.size := by have := HB1.out.size; omega
      have HSS : Hid (∀ W', Below (w1.heap.size + 1) wr W' → W'.cell? ⟨w1.heap.size, 1, none⟩ = some (.slice av k cv) ∧ W'.cell? ⟨p, 1, none⟩ = some (.slice (some ⟨bx, ox, none⟩) C.length cc) ∧ W'.cell? ⟨bx, ox + k, none⟩ = some (.slice ra xs.length rc)) := fun W' hb => ⟨(hb.cell (p := ⟨w1.heap.size, 1, none⟩) (Nat.lt_succ_self _)).trans b1, (hb.cell (p := ⟨p, 1, none⟩) (by show p < _; omega)).trans a1, (hb.cell (p := ⟨bx, ox + k, none⟩) (by show bx < _; omega)).trans d0⟩
      have hk0 : (0 : Int) ≤ k := by omega
      have HOV := Lib.hid HCL.out.2.1
      have HVR := Lib.hid HCL.out.2.2.2
      have HVL := Lib.hid HCL.out.2.2.1
      have HQ := Lib.hid HCL.out.1
      clear hcell hbw hrn hIR HCL hN
      go_wp2_with fail
      refine wp_region_last (S := fun w' => w'.cell? ⟨w1.heap.size, 1, none⟩ = some (.slice av k cv) ∧ w'.cell? ⟨p, 1, none⟩ = some (.slice (some ⟨bx, ox, none⟩) C.length cc) ∧ w'.cell? ⟨bx, ox + k, none⟩ = some (.slice ra xs.length rc)) 12 _ (by kernel_rfl) (by kernel_rfl) rfl _ rfl ?_ (fun hHeld => ?_)
      · exact HSS.out _ (Below.refl _ _).drew
      simp only [idled, List.modify_toArray, List.modify_succ_cons, List.modify_zero_cons, idle, List.size_toArray, List.length_cons, List.length_nil]
      refine wpAnyH_take (i := 0) (v := ?_) rfl (by kernel_rfl) (by decide +kernel) (by decide +kernel) (fun _ _ _ h => h) (Or.inl ⟨by rfl, ?_⟩) (by assumption) ?_
      rotate_left
      · intro w hSw
        (try dsimp only at hSw)
        go_simp
        (try with_reducible rfl)
      try simp only [Act.put, List.getElem_toArray, List.getElem_cons_zero, List.getElem_cons_succ, List.setIfInBounds_toArray, List.set_cons_zero, List.set_cons_succ]
      refine wpAnyH_take (i := 1) (v := ?_) rfl (by kernel_rfl) (by decide +kernel) (by decide +kernel) (fun _ _ _ h => h) (Or.inl ⟨by rfl, ?_⟩) (by assumption) ?_
      rotate_left
      · intro w hSw
        (try dsimp only at hSw)
        go_simp
        (try with_reducible rfl)
      try simp only [Act.put, List.getElem_toArray, List.getElem_cons_zero, List.getElem_cons_succ, List.setIfInBounds_toArray, List.set_cons_zero, List.set_cons_succ]
      refine wpAnyH_take (i := 3) (v := ?_) rfl (by kernel_rfl) (by decide +kernel) (by decide +kernel) (fun _ _ _ h => h) (Or.inl ⟨by rfl, ?_⟩) (by assumption) ?_
      rotate_left
      · intro w hSw
        (try dsimp only at hSw)
        go_simp
        (try with_reducible rfl)
      try simp only [Act.put, List.getElem_toArray, List.getElem_cons_zero, List.getElem_cons_succ, List.setIfInBounds_toArray, List.set_cons_zero, List.set_cons_succ]
      refine wpAnyH_take (i := 4) (v := ?_) rfl (by kernel_rfl) (by decide +kernel) (by decide +kernel) (fun _ _ _ h => h) (Or.inl ⟨by rfl, ?_⟩) (by assumption) ?_
      rotate_left
      · intro w hSw
        (try dsimp only at hSw)
        go_simp
        (try with_reducible rfl)
      try simp only [Act.put, List.getElem_toArray, List.getElem_cons_zero, List.getElem_cons_succ, List.setIfInBounds_toArray, List.set_cons_zero, List.set_cons_succ]
      refine wpAnyH_take (i := 5) (v := ?_) rfl (by kernel_rfl) (by decide +kernel) (by decide +kernel) (fun _ _ _ h => h) (Or.inl ⟨by rfl, ?_⟩) (by assumption) ?_
      rotate_left
      · intro w hSw
        (try dsimp only at hSw)
        go_simp
        (try with_reducible rfl)
      try simp only [Act.put, List.getElem_toArray, List.getElem_cons_zero, List.getElem_cons_succ, List.setIfInBounds_toArray, List.set_cons_zero, List.set_cons_succ]
      refine wpAnyH_take (i := 6) (v := ?_) rfl (by kernel_rfl) (by decide +kernel) (by decide +kernel) (fun _ _ _ h => h) (Or.inl ⟨by rfl, ?_⟩) (by assumption) ?_
      rotate_left
      · intro w hSw
        (try dsimp only at hSw)
        go_simp
        (try with_reducible rfl)
      try simp only [Act.put, List.getElem_toArray, List.getElem_cons_zero, List.getElem_cons_succ, List.setIfInBounds_toArray, List.set_cons_zero, List.set_cons_succ]
      refine wpAnyH_take (i := 7) (v := ?_) rfl (by kernel_rfl) (by decide +kernel) (by decide +kernel) (fun _ _ _ h => h) (Or.inl ⟨by rfl, ?_⟩) (by assumption) ?_
      rotate_left
      · intro w hSw
        (try dsimp only at hSw)
        go_simp
        (try with_reducible rfl)
      try simp only [Act.put, List.getElem_toArray, List.getElem_cons_zero, List.getElem_cons_succ, List.setIfInBounds_toArray, List.set_cons_zero, List.set_cons_succ]
      refine wpAnyH_ready (rs := [2]) (by kernel_rfl) (by simp) ?_
      refine AllReadyH.cons rfl (fun K hK => ?_) AllReadyH.nil
      go_simp
      refine hK.out _ _ ?_ (fun hHeld2 => ?_)
      · exact HSS.out _ ((Below.refl _ _).drew.alloc (by simp; omega) _)
      clear hK K
      try simp only [Act.put, List.getElem_toArray, List.getElem_cons_zero, List.getElem_cons_succ, List.setIfInBounds_toArray, List.set_cons_zero, List.set_cons_succ]
      have HO3 : Hid ((wr.drew.alloc (.cells #[] 3)).ownsRow wr.heap.size 3 1 (.slice (some ⟨wr.heap.size, 0, none⟩) 0 0) 0 []) := World.ownsRow_lit (base := wr.heap.size) (e := 3) (size := 1) wr.drew #[] 0 (Nat.le_refl _) (by decide) rfl
      have HBa : Hid (Below wr.heap.size wr (wr.drew.alloc (.cells #[] 3))) := (Below.refl _ _).drew.alloc (by simp) _
      have hsa : (wr.drew.alloc (.cells #[] 3)).heap.size = wr.heap.size + 1 := by simp
      refine wpAnyH_ready (rs := [8]) (by kernel_rfl) (by simp) ?_
      refine AllReadyH.cons rfl (fun K hK => ?_) AllReadyH.nil
      rw [if_pos (by rfl)]
      refine wp_append_came (.tmp 19) (.tmp 24) 25 rfl wr.heap.size i3 Try.underlying25 hi3 hz3 hs3 hby3 (.slice (some ⟨wr.heap.size, 0, none⟩) 0 0) 0 [] rfl HO3.out (by simp) ra xs rc rfl HRN.out (HIR.out.on HBa.out) (by unfold maxLen; omega) (by omega) (by show wr.heap.size ≤ (wr.alloc (.cells #[] 3)).heap.size; simp) ?_
      intro v3 w3 hown3 hgrow3 hnil3
      obtain ⟨g3, c3, hv3, hg3, hc3, hs3', hm3⟩ := own_shape hown3 hnil3
      rw [hv3] at hown3 ⊢
      simp only [Nat.zero_add, List.nil_append] at hown3 hc3 ⊢
      have HB3 : Hid (Below wr.heap.size wr w3) := HBa.out.grown hgrow3 (by rw [hsa]; omega) (fun j hj => by have h2 : wr.heap.size = j := Option.some.inj hj; omega)
      have HO4 := Lib.hid hown3
      refine hK.out _ _ ?_ (fun hHeld3 => ?_)
      · exact HSS.out _ (HB3.out.mono (by omega))
      clear hK K hown3 hgrow3 hnil3 hv3 HBa HO3
      try simp only [Act.put, List.getElem_toArray, List.getElem_cons_zero, List.getElem_cons_succ, List.setIfInBounds_toArray, List.set_cons_zero, List.set_cons_succ]
      have hz3' := HB3.out.size
      have HNW : Hid (∀ j u, [Value.slice (some ⟨g3, 0, none⟩) xs.length c3][j]? = some u → (w3.alloc (.cells #[.slice (some ⟨g3, 0, none⟩) xs.length c3] 25)).cell? ((⟨w3.heap.size, 0, none⟩ : Addr).add j) = some u) := by
        intro j u hu
        match j, hu with
        | 0, hu => simp at hu; subst hu; simp [Addr.add]
      have HB4 : Hid (Below wr.heap.size wr (w3.alloc (.cells #[.slice (some ⟨g3, 0, none⟩) xs.length c3] 25))) := HB3.out.alloc (by omega) _
      have HOV4 : Hid ((w3.alloc (.cells #[.slice (some ⟨g3, 0, none⟩) xs.length c3] 25)).ownsRow (w1.heap.size + 1) 25 1 (.slice av k cv) k (V.map Cl.val)) := own_on HOV.out HB4.out
      have hsz4 : (w3.alloc (.cells #[.slice (some ⟨g3, 0, none⟩) xs.length c3] 25)).heap.size = w3.heap.size + 1 := by simp
      refine wpAnyH_ready (rs := [9]) (by kernel_rfl) (by simp) ?_
      refine AllReadyH.cons rfl (fun K hK => ?_) AllReadyH.nil
      go_simp
      refine hK.out _ _ ?_ (fun hHeld4 => ?_)
      · exact HSS.out _ (HB4.out.mono (by omega))
      clear hK K
      try simp only [Act.put, List.getElem_toArray, List.getElem_cons_zero, List.getElem_cons_succ, List.setIfInBounds_toArray, List.set_cons_zero, List.set_cons_succ]
      refine wpAnyH_ready (rs := [10]) (by kernel_rfl) (by simp) ?_
      refine AllReadyH.cons rfl (fun K hK => ?_) AllReadyH.nil
      rw [if_pos (by rfl)]
      refine wp_append_own _ (.tmp 18) (.tmp 26) 26 rfl (w1.heap.size + 1) 25 i25 (.slice none 0 0) 1 24 Try.underlying26 hi25 hz25 hs25 hby25 rfl (by decide) (.slice av k cv) k (V.map Cl.val) rfl HOV4.out ⟨w3.heap.size, 0, none⟩ 1 1 [.slice (some ⟨g3, 0, none⟩) xs.length c3] rfl rfl HNW.out (by intro u hu; simp at hu; subst hu; rfl) (by unfold maxLen; omega) (by omega) (by omega) ?_
      intro v5 w5 hown5 hgrow5 hnil5
      obtain ⟨g5, c5, hv5, hg5, hc5, hs5, hm5⟩ := own_shape hown5 (fun e => by have := (hnil5.1 e).2; simp at this)
      rw [hv5] at hown5 ⊢
      have HB5 : Hid (Below (w1.heap.size + 1) wr w5) := (HB4.out.mono (by omega)).grown hgrow5 (by omega) (fun j hj => (HOV4.out.lt j hj).1)
      have HO5 := Lib.hid hown5
      have HO4' : Hid ((w3.alloc (.cells #[.slice (some ⟨g3, 0, none⟩) xs.length c3] 25)).ownsRow wr.heap.size 3 1 (.slice (some ⟨g3, 0, none⟩) xs.length c3) xs.length (cellsI xs)) := HO4.out.alloc _
      have HO6 : Hid (w5.ownsRow (w1.heap.size + 1) 3 1 (.slice (some ⟨g3, 0, none⟩) xs.length c3) xs.length (cellsI xs)) := own_base (own_kept HO4'.out HOV4.out (by decide) hgrow5) (by omega)
      have HVR5 : Hid (∀ j, j < k → w5.ownsRow (w1.heap.size + 1) 3 1 (cl V j).val (cl V j).xs.length (cellsI (cl V j).xs) ∧ (cl V j).xs = (cl C j).xs) := fun j hj => ⟨own_kept (own_on (HVR.out j hj).1 HB4.out) HOV4.out (by decide) hgrow5, (HVR.out j hj).2⟩
      have HQ5 : Hid (w5.heap[w1.heap.size]? = some (.cells #[.slice (some ⟨g1, 0, none⟩) bs.length c1, .slice av k cv] 28)) := (HB5.out.block _ (Nat.lt_succ_self _)).trans HQ.out
      refine hK.out _ _ ?_ (fun hHeld5 => ?_)
      · exact HSS.out _ HB5.out
      clear hK K hown5 hgrow5 hnil5 hv5
      try simp only [Act.put, List.getElem_toArray, List.getElem_cons_zero, List.getElem_cons_succ, List.setIfInBounds_toArray, List.set_cons_zero, List.set_cons_succ]
      refine wpAnyH_take (i := 11) (v := ?_) rfl (by kernel_rfl) (by decide +kernel) (by decide +kernel) (fun _ _ _ h => h) (Or.inl ⟨by rfl, ?_⟩) (by assumption) ?_
      rotate_left
      · intro w hSw
        (try dsimp only at hSw)
        go_simp
        (try with_reducible rfl)
      try simp only [Act.put, List.getElem_toArray, List.getElem_cons_zero, List.getElem_cons_succ, List.setIfInBounds_toArray, List.set_cons_zero, List.set_cons_succ]
      refine wpAnyH_take (i := 12) (v := ?_) rfl (by kernel_rfl) (by decide +kernel) (by decide +kernel) (fun _ _ _ h => h) (Or.inl ⟨by rfl, ?_⟩) (by assumption) ?_
      rotate_left
      · intro w hSw
        (try dsimp only at hSw)
        go_simp
        (try with_reducible rfl)
      try simp only [Act.put]
      refine wpAnyH_done (by kernel_rfl) ?_ _
      simp only [lastQ]
      obtain ⟨⟨z0, z1⟩, zf0, zf1⟩ := two_cells HQ5.out
      go_simp
      clear hHeld hHeld2 hHeld3 hHeld4 hHeld5
      have HBE : Hid (Below w1.heap.size w1 (w5.setCell ⟨w1.heap.size, 1, none⟩ (.slice (some ⟨g5, 0, none⟩) (k + 1) c5))) := (HBR.out.trans (HB5.out.mono (by omega))).setCell (p := ⟨w1.heap.size, 1, none⟩) (Nat.le_refl _) _
      have HCE : Hid (CpL (w5.setCell ⟨w1.heap.size, 1, none⟩ (.slice (some ⟨g5, 0, none⟩) (k + 1) c5)) w1.heap.size g1 c1 bs.length C (V ++ [⟨some ⟨g3, 0, none⟩, c3, xs⟩]) (k + 1) (some ⟨g5, 0, none⟩) c5) := by
        refine ⟨?_, ?_, by rw [List.length_append, HVL.out]; rfl, fun j hj => ?_⟩
        · have h := heap_setCell_same w5 w1.heap.size 1 _ _ (.slice (some ⟨g5, 0, none⟩) (k + 1) c5) HQ5.out
          exact h.trans (by simp)
        · have h := own_set HO5.out ⟨w1.heap.size, 1, none⟩ (.slice (some ⟨g5, 0, none⟩) (k + 1) c5) (Nat.lt_succ_self _)
          rw [List.map_append]
          exact h
        · rcases Nat.lt_or_ge j k with h | h
          · rw [cl_app_lt (by rw [HVL.out]; exact h)]
            exact ⟨own_set (HVR5.out j h).1 ⟨w1.heap.size, 1, none⟩ _ (Nat.lt_succ_self _), (HVR5.out j h).2⟩
          · have e : j = V.length := by rw [HVL.out]; omega
            rw [e, cl_app_eq, HVL.out, HXS.out]
            exact ⟨own_set HO6.out ⟨w1.heap.size, 1, none⟩ _ (Nat.lt_succ_self _), rfl⟩
      go_wp2_with fail
      exact ⟨⟨k + 1, _, _, _, by omega, by simp, HCE, HBE⟩, by simp [intOf]; omega⟩
    · obtain rfl : k = C.length := by omega
      have hlk' : ¬ (C.length : Int) < C.length := by omega
      have HI4 := Lib.hid (own_on HI1.out HBR.out)
      have hZ := (HBR.out.block (p + 1) (by omega)).trans HZ1.out
      obtain ⟨⟨y0, y1⟩, yf0, yf1⟩ := two_cells hZ
      have HZZ := Lib.hid hZ
      have HBF : Hid (Below p w wr) := HB1.out.trans (HBR.out.mono (by omega))
      have HGE : Hid (((wr.setCell ⟨p + 1, 0, none⟩ (.slice (some ⟨g1, 0, none⟩) bs.length c1)).setCell ⟨p + 1, 1, none⟩ (.slice av C.length cv)).heap[p + 1]? = some (.cells #[.slice (some ⟨g1, 0, none⟩) bs.length c1, .slice av C.length cv] 28)) := by
        have h1 := heap_setCell_same wr (p + 1) 0 _ _ (.slice (some ⟨g1, 0, none⟩) bs.length c1) HZZ.out
        exact (heap_setCell_same _ (p + 1) 1 _ _ (.slice av C.length cv) h1).trans (by simp)
      have HBG : Hid (Below p w ((wr.setCell ⟨p + 1, 0, none⟩ (.slice (some ⟨g1, 0, none⟩) bs.length c1)).setCell ⟨p + 1, 1, none⟩ (.slice av C.length cv))) := (HBF.out.setCell (p := ⟨p + 1, 0, none⟩) (by simp) _).setCell (p := ⟨p + 1, 1, none⟩) (by simp) _
      have HIG : Hid (((wr.setCell ⟨p + 1, 0, none⟩ (.slice (some ⟨g1, 0, none⟩) bs.length c1)).setCell ⟨p + 1, 1, none⟩ (.slice av C.length cv)).ownsRow p 3 1 (.slice (some ⟨g1, 0, none⟩) bs.length c1) bs.length (cellsI bs)) := own_base (own_set (own_set HI4.out ⟨p + 1, 0, none⟩ _ (Nat.lt_succ_self _)) ⟨p + 1, 1, none⟩ _ (Nat.lt_succ_self _)) (by omega)
      have HRG := Lib.hid ((HCL.out.far (p + 1) 0 (.slice (some ⟨g1, 0, none⟩) bs.length c1) (by omega)).far (p + 1) 1 (.slice av C.length cv) (by omega))
      go_wp2_with fail
      generalize hU : (wr.setCell ⟨p + 1, 0, none⟩ (.slice (some ⟨g1, 0, none⟩) bs.length c1)).setCell ⟨p + 1, 1, none⟩ (.slice av C.length cv) = U at *
      clear hU
      try simp only [Exit.inBlock, Exit.then]
      refine bodyPost_ret (results_cell_row (P := Try.prog) rfl _ _ (p + 1) 28 _ _ _ rfl HGE.out Try.underlying28 rfl (by kernel_rfl)) rfl ?_
      have hq1 : p ≤ w1.heap.size + 1 := by omega
      unfold CpI
      rw [hp]
      exact ⟨_, _, _, V, _, rfl, ⟨HIG.out, own_base HRG.out.2.1 hq1, HRG.out.2.2.1, fun j hj => ⟨own_base (HRG.out.2.2.2 j hj).1 hq1, (HRG.out.2.2.2 j hj).2⟩⟩, HBG.out⟩
end Go.Proofs.Ytpmjbeiclmllmaa
namespace Go.Proofs.Ytpmjbeiclmllmaa
open Go.RowKit
/-- A row that may be written. -/
def RowS (w : World) (B : Nat) (v : Option Addr) (n : Nat) : Prop :=
  (v = none ∧ n = 0) ∨ ∃ g cur, v = some ⟨g, 0, none⟩ ∧ B ≤ g ∧ w.heap[g]? = some (.cells cur 3 (0, 0)) ∧ n ≤ cur.size
theorem rowI_shape {w : World} {B : Nat} {v : Option Addr} {S : List Nat} (h : RowI w B v (ints S)) : RowS w B v S.length := by
  rcases h with ⟨h1, h2⟩ | ⟨g, cur, h1, h2, h3, h4⟩
  · left
    refine ⟨h1, ?_⟩
    have := congrArg List.length h2
    rw [ints_len] at this
    exact this
  · right
    refine ⟨g, cur, h1, h2, h3, ?_⟩
    have := congrArg List.length h4
    rw [cellsI_len, List.length_take, ints_len] at this
    have h5 : S.length ≤ cur.toList.length := by
      rw [← this]
      exact Nat.min_le_right _ _
    exact h5
theorem RowS.on {w w' : World} {B : Nat} {v : Option Addr} {n : Nat} (h : RowS w B v n) (hb : Below w.heap.size w w') : RowS w' B v n := by
  rcases h with h | ⟨g, cur, h1, h2, h3, h4⟩
  · exact Or.inl h
  · exact Or.inr ⟨g, cur, h1, h2, (hb.block g (lt_of_block h3)).trans h3, h4⟩
theorem RowS.set {w : World} {B : Nat} {v : Option Addr} {n : Nat} (h : RowS w B v n) (d k : Nat) (u : Value) : RowS (w.setCell ⟨d, k, none⟩ u) B v n := by
  rcases h with h | ⟨g, cur, h1, h2, h3, h4⟩
  · exact Or.inl h
  · by_cases e : g = d
    · subst e
      exact Or.inr ⟨g, _, h1, h2, heap_setCell_same w g k _ _ u h3, by simpa using h4⟩
    · exact Or.inr ⟨g, cur, h1, h2, (Below.heap_setCell w ⟨d, k, none⟩ u g e).trans h3, h4⟩
theorem RowS.base {w : World} {B C : Nat} {v : Option Addr} {n : Nat} (h : RowS w B v n) (hb : C ≤ B) : RowS w C v n := by
  rcases h with h | ⟨g, cur, h1, h2, h3, h4⟩
  · exact Or.inl h
  · exact Or.inr ⟨g, cur, h1, Nat.le_trans hb h2, h3, h4⟩
set_option maxRecDepth 100000 in
set_option maxHeartbeats 1600000 in
theorem spoilR_any (v : Option Addr) (n B : Nat) (x : Int) (w : World) (hn : n ≤ 8192) (h : RowS w B v n) :
    Calls Try.prog 24 #[.slice v n n, .int .i64 x] w fun e w' => e = .returned (.tuple #[]) ∧ Below B w w' ∧ ∀ B' v' n', RowS w B' v' n' → RowS w' B' v' n' := by
  rcases h with ⟨rfl, rfl⟩ | ⟨g, cur, rfl, hB, hg, hc⟩
  · refine (spoilInts_none x w).mono ?_
    rintro e w' ⟨rfl, rfl⟩
    exact ⟨rfl, Below.refl _ _, fun _ _ _ h => h⟩
  · have HG : Hid (∃ cur, w.heap[g]? = some (.cells cur 3 (0, 0)) ∧ n ≤ cur.size) := ⟨cur, hg, hc⟩
    clear hg hc
    go_enter Try.func24, Try.ntmps24
    go_wp2_with fail
    go_loopw [4] (fun i wr => ∃ (k : Nat), k ≤ n ∧ i = .int .i64 k ∧ Hid (∃ cur, wr.heap[g]? = some (.cells cur 3 (0, 0)) ∧ n ≤ cur.size) ∧ Hid (Below B w wr) ∧ Hid (∀ B' v' n', RowS w B' v' n' → RowS wr B' v' n')) (fun i _ => n - (intOf i).toNat)
    case atStart => exact ⟨0, Nat.zero_le _, rfl, HG, Below.refl _ _, fun _ _ _ h => h⟩
    case round =>
      obtain ⟨k, hk, rfl, HGR, HBR, HKR⟩ := hrel
      by_cases hlk : k < n
      · have hlk' : (k : Int) < n := by omega
        obtain ⟨cr, hcr, hcn⟩ := HGR.out
        have c2 : wr.cell? ⟨g, k, none⟩ = some (cr[k]'(by omega)) := by simp [World.cell?, hcr, show k < cr.size by omega]
        have f2 : wr.frozen? ⟨g, k, none⟩ = false := by simp [World.frozen?, hcr]
        generalize cr[k]'(by omega) = y at c2
        have HG2 : Hid (∃ cur, (wr.setCell ⟨g, k, none⟩ (.int .i64 x)).heap[g]? = some (.cells cur 3 (0, 0)) ∧ n ≤ cur.size) := ⟨_, heap_setCell_same wr g k _ _ (.int .i64 x) hcr, by simpa using hcn⟩
        have HB2 : Hid (Below B w (wr.setCell ⟨g, k, none⟩ (.int .i64 x))) := HBR.out.setCell (p := ⟨g, k, none⟩) hB _
        have HK2 : Hid (∀ B' v' n', RowS w B' v' n' → RowS (wr.setCell ⟨g, k, none⟩ (.int .i64 x)) B' v' n') := fun B' v' n' h => (HKR.out B' v' n' h).set g k _
        clear hcr hcn HGR
        go_wp2_with fail
        exact ⟨⟨k + 1, by omega, by simp, HG2, HB2, HK2⟩, by simp [intOf]; omega⟩
      · have hlk' : ¬ (k : Int) < n := by omega
        go_wp2_with fail
        go_end0
        exact ⟨rfl, HBR.out, HKR.out⟩
end Go.Proofs.Ytpmjbeiclmllmaa
