/-
  Leaf; SameDists; the chapter's example. byArcs's function: distances of a graph by near.From. A place's matrix. A cell's matrix by its arcs: byArcs, Leaf.
-/
import Derived.Test.YtpmjbeiclmllmaaGreatXCea
import Derived.Test.YtpmjbeiclmllmaaGreatXNb
import Derived.Test.YtpmjbeiclmllmaaGreatXKp
import Derived.Deep.DeepMust
import Derived.Test.YtpmjbeiclmllmaaGreatXCeb
namespace Go.Proofs.YtpmjbeiclmllmaaGreat
open Go.RowKit
/-- An arc in the words of the searches' texts. -/
def toN (x : A) : N5.A := ⟨x.f, x.t, x.w⟩
theorem toN_at {x : A} {w : World} {b o : Nat} (h : x.at w b o) : (toN x).at w b o := h
theorem mapN_getD (l : List A) (j : Nat) (hj : j < l.length) : (l.map toN).getD j N5.A.zero = toN (l.getD j A.zero) := by simp [List.getD, hj]
theorem arcs_N {w : World} {a : Option Addr} {l : List A} (h : Arcs w a l) : N5.Arcs w a (l.map toN) := by
  rcases h with rfl | ⟨b, o, rfl, hl, hc⟩
  · exact .inl rfl
  · refine .inr ⟨b, o, rfl, hl, fun j hj => ?_⟩
    have hj' : j < l.length := by simpa using hj
    rw [mapN_getD l j hj']
    exact toN_at (hc j hj')
theorem okA_N (N : Int) : (N5.okA N ∘ toN) = okA N := by funext x; rfl
theorem chkE_N (N : Int) (l : List A) : N5.chkE N (l.map toN) = chkE N l := by
  unfold N5.chkE chkE
  rw [List.length_map, List.all_map, okA_N]
/-- A graph that is right, with weights that may be. -/
def WG (n : Nat) (l : List A) : Prop := chkE n l = 0 ∧ ∀ x ∈ l, 0 ≤ x.w ∧ x.w < 4294967296
theorem WG.rg {n : Nat} {l : List A} (h : WG n l) : N5.RG n (l.map toN) := by
  obtain ⟨m, hm, hr⟩ := N5.rg_of (N := (n : Int)) (l := l.map toN) (by rw [chkE_N]; exact h.1) (fun x hx => by
    obtain ⟨y, hy, rfl⟩ := List.mem_map.1 hx
    exact h.2 y hy)
  have e : n = m := by omega
  subst e
  exact hr
/-- Distances from a vertex. -/
noncomputable def dF (wl : List A) (s : Nat) : Nat → Int := open Classical in if h : ∃ F, N5.IsD (wl.map toN) (fun _ => true) s F then h.choose else fun _ => 0
theorem dF_is {wl : List A} {s : Nat} {F : Nat → Int} (h : N5.IsD (wl.map toN) (fun _ => true) s F) : dF wl s = F := by
  unfold dF
  rw [dif_pos ⟨F, h⟩]
  exact N5.IsD.unique (Exists.choose_spec (p := fun F => N5.IsD (wl.map toN) (fun _ => true) s F) ⟨F, h⟩) h
theorem nearE_ok {n s : Nat} {l : List A} (h : chkE n l = 0) (hs : s < n) : N5.nearE n (l.map toN) [(s : Int)] = 0 := by
  unfold N5.nearE
  rw [chkE_N, if_pos h, if_pos]
  simp [N5.okV]
  omega
set_option maxRecDepth 100000 in
set_option maxHeartbeats 1600000 in
theorem byArcs1_any (n b : Nat) (wl : List A) (ga : Option Addr) (gc s : Nat) (w : World) (hW : WG n wl) (hs : s < n) (hb : w.heap[b]? = some (.cells #[.int .i64 n, .slice ga wl.length gc] 24)) (hr : Arcs w ga wl) :
    Calls Tryz.prog 66 #[.int .i64 s, .pointer (some ⟨b, 0, none⟩)] w fun e w' => ∃ bf, e = .returned (.slice (some ⟨bf, 0, none⟩) n n) ∧ w.heap.size ≤ bf ∧ TbV w' bf n 47 (fun v => .int .u64 (dF wl s v)) ∧ N5.IsD (wl.map toN) (fun _ => true) s (dF wl s) ∧ Below w.heap.size w w' := by
  obtain ⟨⟨c0, c1⟩, _⟩ := two_cells hb
  have HF := Lib.hid (N5.from_ok n ga (wl.map toN) gc s w hW.rg hs (nearE_ok hW.1 hs) (arcs_N hr))
  rw [List.length_map] at HF
  clear hr hb hW
  go_enter Tryz.func66, Tryz.ntmps66
  go_wp2_with fail
  refine HF.out.mono ?_
  rintro e w2 ⟨bf, rfl, F, hT, hD, _, hbf, hb2⟩
  have e := dF_is hD
  have HT : Hid (TbV w2 bf n 47 (fun v => .int .u64 (dF wl s v))) := by rw [e]; exact hT
  have HD : Hid (N5.IsD (wl.map toN) (fun _ => true) s (dF wl s)) := by rw [e]; exact hD
  have HB := Lib.hid hb2
  clear hT hD hb2 e HF c0 c1
  go_wp2_with fail
  go_ret
  exact ⟨bf, rfl, hbf, HT.out, HD.out, HB.out⟩
end Go.Proofs.YtpmjbeiclmllmaaGreat
namespace Go.Proofs.YtpmjbeiclmllmaaGreat
open Go.RowKit
/-- Distances as cells. -/
def cellsU (l : List Int) : List Value := l.map (Value.int .u64)
theorem cellsU_snoc (l : List Int) (x : Int) : cellsU l ++ [.int .u64 x] = cellsU (l ++ [x]) := by unfold cellsU; simp
theorem four_cells {w : World} {g : Nat} {a b c d : Value} {t : TypeId} (h : w.heap[g]? = some (.cells #[a, b, c, d] t)) : (w.cell? ⟨g, 0, none⟩ = some a ∧ w.cell? ⟨g, 1, none⟩ = some b ∧ w.cell? ⟨g, 2, none⟩ = some c ∧ w.cell? ⟨g, 3, none⟩ = some d) ∧ (w.frozen? ⟨g, 0, none⟩ = false ∧ w.frozen? ⟨g, 1, none⟩ = false ∧ w.frozen? ⟨g, 2, none⟩ = false ∧ w.frozen? ⟨g, 3, none⟩ = false) := by
  simp [World.cell?, World.frozen?, h]
/-- The first rows of a matrix. -/
noncomputable def mxK (wl : List A) (S : List Nat) (k : Nat) : List Int := (S.take k).flatMap (fun s => S.map (dF wl s))
noncomputable def mxL (wl : List A) (S : List Nat) : List Int := mxK wl S S.length
theorem take_snocS {S : List Nat} {k : Nat} (h : k < S.length) : S.take (k + 1) = S.take k ++ [S.getD k 0] := by
  rw [List.take_add_one]
  simp [List.getD, List.getElem?_eq_getElem h]
theorem mxK_succ {wl : List A} {S : List Nat} {k : Nat} (h : k < S.length) : mxK wl S (k + 1) = mxK wl S k ++ (S.take S.length).map (dF wl (S.getD k 0)) := by
  unfold mxK
  rw [take_snocS h, List.flatMap_append, List.take_length]
  simp
theorem mxK_len (wl : List A) (S : List Nat) (k : Nat) : (mxK wl S k).length ≤ k * S.length := by
  induction k with
  | zero => simp [mxK]
  | succ k ih =>
    by_cases h : k < S.length
    · rw [mxK_succ h, List.length_append, Nat.succ_mul]
      simp
      exact ih
    · have e : mxK wl S (k + 1) = mxK wl S k := by unfold mxK; rw [List.take_of_length_le (by omega), List.take_of_length_le (by omega)]
      rw [e, Nat.succ_mul]
      omega
theorem map_snoc {f : Nat → Int} {S : List Nat} {t : Nat} (h : t < S.length) : (S.take (t + 1)).map f = (S.take t).map f ++ [f (S.getD t 0)] := by
  rw [take_snocS h, List.map_append]
  rfl
theorem set4 {w : World} {b : Nat} {t : TypeId} {a0 a1 a2 a3 : Value} (h : w.heap[b]? = some (.cells #[a0, a1, a2, a3] t)) (u0 u1 u2 u3 : Value) : ((((w.setCell ⟨b, 0, none⟩ u0).setCell ⟨b, 1, none⟩ u1).setCell ⟨b, 2, none⟩ u2).setCell ⟨b, 3, none⟩ u3).heap[b]? = some (.cells #[u0, u1, u2, u3] t) := by
  have g1 := heap_setCell_same w b 0 _ _ u0 h
  have g2 := heap_setCell_same _ b 1 _ _ u1 g1
  have g3 := heap_setCell_same _ b 2 _ _ u2 g2
  have g4 := heap_setCell_same _ b 3 _ _ u3 g3
  rw [g4]
  simp
theorem own_set4 {w : World} {p b : Nat} {e : TypeId} {size : Nat} {v : Value} {n : Nat} {xs : List Value} (h : w.ownsRow p e size v n xs) (hb : b < p) (u0 u1 u2 u3 : Value) : ((((w.setCell ⟨b, 0, none⟩ u0).setCell ⟨b, 1, none⟩ u1).setCell ⟨b, 2, none⟩ u2).setCell ⟨b, 3, none⟩ u3).ownsRow p e size v n xs := own_set (own_set (own_set (own_set h ⟨b, 0, none⟩ u0 hb) ⟨b, 1, none⟩ u1 hb) ⟨b, 2, none⟩ u2 hb) ⟨b, 3, none⟩ u3 hb
theorem below_set4 {w w' : World} {p b : Nat} (h : Below p w w') (hb : p ≤ b) (u0 u1 u2 u3 : Value) : Below p w ((((w'.setCell ⟨b, 0, none⟩ u0).setCell ⟨b, 1, none⟩ u1).setCell ⟨b, 2, none⟩ u2).setCell ⟨b, 3, none⟩ u3) := (((h.setCell (p := ⟨b, 0, none⟩) hb u0).setCell (p := ⟨b, 1, none⟩) hb u1).setCell (p := ⟨b, 2, none⟩) hb u2).setCell (p := ⟨b, 3, none⟩) hb u3
theorem info75 : (Tryz.prog.info? 47).map (fun i => (i.zero, i.size, i.bytes)) = some (some (.int .u64 0), 1, 8) := by kernel_rfl
theorem wpList_append_fits {P : Program} {w : World} {ops : Array Oper} {rest : List Oper} {o : Oper} {a : Act} {Q : Exit → Act → World → Prop} (hgd : o.guard = none) (s x : Operand) (t : TypeId)
    (ho : o.op = .call { callee := .builtin .append, args := #[s, x], argTypes := #[t, t] }) (base : Nat) (e : TypeId) (i : TypeInfo) (size : Nat) (ht : P.underlying t = some (.slice e)) (hi : P.info? e = some i) (hsize : i.size = size)
    (g n cap : Nat) (xs : List Value) (hs : a.eval s = .slice (some ⟨g, 0, none⟩) n cap) (hown : w.ownsRow base e size (.slice (some ⟨g, 0, none⟩) n cap) n xs)
    (ad : Addr) (m c : Nat) (news : List Value) (hx : a.eval x = .slice (some ad) m c) (hl : news.length = m * size) (hnews : ∀ j u, news[j]? = some u → w.cell? (ad.add j) = some u) (h1 : ∀ u ∈ news, u.oneCell' = true) (hroom : n + m ≤ cap)
    (h : ∀ w', w'.ownsRow base e size (.slice (some ⟨g, 0, none⟩) (n + m : Nat) cap) (n + m) (xs ++ news) → w.grownBy w' (some g) → wpList P ops Q rest (a.put o.dst (.slice (some ⟨g, 0, none⟩) (n + m : Nat) cap)) w') : wpList P ops Q (o :: rest) a w := by
  refine wpList_plain hgd fun _ hK => ?_
  obtain ⟨w', hr, h2, h3⟩ := run_append_fits (P := P) w base t o.type e i size ht hi hsize g n cap xs hown ad m c news hl hnews h1 hroom
  unfold Oper.wp
  simp [execOp, ho, resolve, invoke, builtin, hs, hx, hr, Result.andThen]
  exact hK _ _ (h w' h2 h3)
set_option maxRecDepth 100000 in
set_option maxHeartbeats 3200000 in
theorem matrix_any (n : Nat) (a : Option Addr) (l : List A) (cap : Nat) (ba : Option Addr) (bs : List Int) (bc : Nat) (ca : Option Addr) (C : List Cl) (cc : Nat) (lv ce ep : Int) (b : Nat) (wl : List A) (ga : Option Addr) (gc : Nat) (S : List Nat) (w : World) (hE : inE n l bs (csl C) lv ce = 0) (hS : bdV n l bs (csl C) lv ce = S) (hSn : ∀ i, i < S.length → S.getD i 0 < n) (hS8 : S.length ≤ 1024) (hW : WG n wl) (hl : l.length ≤ 9223372036854775807) (hbl : bs.length ≤ 9223372036854775807) (hr : Arcs w a l) (hi : Ints w ba bs) (hR : Rws w ca C) (hb : w.heap[b]? = some (.cells #[.int .i64 n, .slice ga wl.length gc] 24)) (hrw : Arcs w ga wl) :
    Calls Tryz.prog 65 #[.agg #[.int .i64 n, .slice a l.length cap, .slice ba bs.length bc, .slice ca C.length cc, .int .i64 lv, .int .i64 ce], .int .i64 ep, .func (.func 66) #[] #[.pointer (some ⟨b, 0, none⟩)]] w fun e w' => ∃ v c, e = .returned (.tuple #[.agg #[.int .i64 lv, .int .i64 ce, .int .i64 ep, .slice v (mxL wl S).length c], .int .i64 0]) ∧ w'.ownsRow w.heap.size 47 1 (.slice v (mxL wl S).length c) (mxL wl S).length (cellsU (mxL wl S)) ∧ (∀ i, i < S.length → N5.IsD (wl.map toN) (fun _ => true) (S.getD i 0) (dF wl (S.getD i 0))) ∧ Below w.heap.size w w' := by
  obtain ⟨hg0, hg1, hb0, hsz⟩ := top2 w (.cells #[.int .i64 n, .slice a l.length cap, .slice ba bs.length bc, .slice ca C.length cc, .int .i64 lv, .int .i64 ce] 71) (.cells #[.int .i64 0, .int .i64 0, .int .i64 0, .slice none 0 0] 39)
  obtain ⟨c0, c1, c2, c3, c4, c5⟩ := six_cells hg0
  obtain ⟨i75, hi75, hz75, hs75, hby75⟩ := info_parts info75
  have HBD := Lib.hid (plBound_any n a l cap ba bs bc ca C cc lv ce _ hl hbl (hr.on hb0) (hi.on hb0) (hR.on hb0))
  rw [hE, hS] at HBD
  have HB0 := Lib.hid hb0
  have HG0 := Lib.hid hg0
  have HG1 := Lib.hid hg1
  have HGB : Hid (∀ W2, Below w.heap.size w W2 → ∀ s, s < n → Calls Tryz.prog 66 #[.int .i64 s, .pointer (some ⟨b, 0, none⟩)] W2 fun e w' => ∃ bf, e = .returned (.slice (some ⟨bf, 0, none⟩) n n) ∧ W2.heap.size ≤ bf ∧ TbV w' bf n 47 (fun v => .int .u64 (dF wl s v)) ∧ N5.IsD (wl.map toN) (fun _ => true) s (dF wl s) ∧ Below W2.heap.size W2 w') := fun W2 hb2 s hs => byArcs1_any n b wl ga gc s W2 hW hs ((hb2.block _ (lt_of_block hb)).trans hb) (hrw.on hb2)
  have HSN := Lib.hid hSn
  clear hr hi hR hb0 hg0 hg1 hE hS hW hb hrw hSn
  generalize hp : w.heap.size = p at *
  go_enter Tryz.func65, Tryz.ntmps65
  go_wp2_with fail
  generalize hWW : (w.alloc (.cells #[.int .i64 n, .slice a l.length cap, .slice ba bs.length bc, .slice ca C.length cc, .int .i64 lv, .int .i64 ce] 71)).alloc (.cells #[.int .i64 0, .int .i64 0, .int .i64 0, .slice none 0 0] 39) = W at *
  clear hWW
  refine HBD.out.mono ?_
  rintro e w1 ⟨v1, rfl, hr1, hb1⟩
  have hz1 := hb1.size
  have HB1 : Hid (Below p w w1) := HB0.out.trans (hb1.mono (by omega))
  have HK0 := Lib.hid ((hb1.block p (by omega)).trans HG0.out)
  have HK1 := Lib.hid ((hb1.block (p + 1) (by omega)).trans HG1.out)
  have HI1 := Lib.hid hr1.ints
  obtain ⟨iy, oy, hiy⟩ := hr1.ints.get
  rw [ints_len] at hiy
  have HIY := Lib.hid hiy
  have hw1 : p + 2 ≤ w1.heap.size := by omega
  clear hr1 hb1 HBD c0 c1 c2 c3 c4 c5 HB0 HG0 HG1 hiy hz1
  obtain ⟨m, HM⟩ := named S.length
  rw [HM.out] at hS8 HIY HSN
  rw [HM.out]
  have hmm : m * m ≤ 1048576 := Nat.mul_le_mul hS8 hS8
  have emm : (m : Int) * m = ((m * m : Nat) : Int) := by simp
  obtain ⟨mm, HMM⟩ := named (m * m)
  rw [HMM.out] at hmm emm
  have ewm : IntKind.i64.wrap ((m : Int) * m) = (mm : Int) := by rw [emm, IntKind.wrap_i64]; omega
  have ewn : IntKind.i64.wrap (mm : Int) = (mm : Int) := by rw [IntKind.wrap_i64]; omega
  have hmk : ∀ w, (Instr.makeSlice 37 (.int .i64 0) (.int .i64 mm)).run Tryz.prog w = .ok (.slice (some ⟨w.heap.size, 0, none⟩) 0 mm) (w.alloc (.cells (madeCells #[.int .u64 0] mm) 47)) := fun w => by
    have := run_make (P := Tryz.prog) w 37 47 i75 (.int .u64 0) Tryz.underlying37 hi75 hz75 .i64 .i64 0 mm (by omega) (by omega) (by rw [hby75]; omega) (by omega)
    rw [hs75] at this
    rw [this, Int.toNat_natCast, Nat.mul_one]
    rfl
  generalize hq : w1.heap.size = q at *
  have HO0 : Hid ((w1.alloc (.cells (madeCells #[.int .u64 0] mm) 47)).ownsRow q 47 1 (.slice (some ⟨q, 0, none⟩) 0 mm) 0 []) := by
    have := World.ownsRow_made (base := q) (e := 47) (size := 1) w1 (madeCells #[.int .u64 0] mm) mm (by omega) (by unfold maxLen; omega) (by rw [size_madeCells, Nat.mul_one])
    rw [hq] at this
    exact this
  have HBQ : Hid (Below q w1 (w1.alloc (.cells (madeCells #[.int .u64 0] mm) 47))) := (Below.refl _ _).alloc (by omega) _
  go_wp2_with fail
  generalize w1.alloc (.cells (madeCells #[.int .u64 0] mm) 47) = w2 at *
  clear hmk
  go_loopw [10, 33] (fun s i wr => ∃ (k : Nat) (G : List Int), k ≤ m ∧ i = .int .i64 k ∧ s = .slice (some ⟨q, 0, none⟩) G.length mm ∧ Hid (mxK wl S k = G) ∧ Hid (wr.ownsRow q 47 1 (.slice (some ⟨q, 0, none⟩) G.length mm) G.length (cellsU G)) ∧ Hid (∀ i, i < k → N5.IsD (wl.map toN) (fun _ => true) (S.getD i 0) (dF wl (S.getD i 0))) ∧ Hid (Below q w1 wr)) (fun _ i _ => m - (intOf i).toNat)
  case atStart => exact ⟨0, [], Nat.zero_le _, rfl, rfl, by show _ = _; simp [mxK], HO0, fun i hi => absurd hi (by omega), HBQ⟩
  case round =>
    clear HO0 HBQ
    obtain ⟨k, G, hk, rfl, rfl, HG, HOW, HDD, HBR⟩ := hrel
    have hwz : q ≤ wr.heap.size := by have := HBR.out.size; omega
    have hbw : Below p w wr := HB1.out.trans (HBR.out.mono (by omega))
    by_cases hlk : k < m
    · have hlk' : (k : Int) < m := by omega
      have hk0 : (0 : Int) ≤ k := by omega
      obtain ⟨rfl, hyl, hyat⟩ := HIY.out (by omega)
      have s0 := (HBR.out.cell (p := ⟨iy, oy + k, none⟩) (by show iy < q; omega)).trans (hyat k hlk)
      rw [ints_getD (by rw [HM.out]; exact hlk)] at s0
      have hsn := HSN.out k hlk
      have HSU := Lib.hid (mxK_succ (wl := wl) (S := S) (k := k) (by rw [HM.out]; exact hlk))
      rw [HM.out] at HSU
      have hkm : k * m + m ≤ mm := by
        rw [← HMM.out, ← Nat.succ_mul]
        exact Nat.mul_le_mul_right _ (by omega)
      have hGL : G.length ≤ k * m := by
        rw [← HG.out]
        have h1 := mxK_len wl S k
        rw [HM.out] at h1
        exact h1
      obtain ⟨km, HKM⟩ := named (k * m)
      rw [HKM.out] at hkm hGL
      obtain ⟨s, HSS⟩ := named (S.getD k 0)
      rw [HSS.out] at s0 hsn HSU
      have HCL := Lib.hid (HGB.out wr hbw s hsn)
      clear hyat hbw
      go_wp2_with fail
      refine HCL.out.mono ?_
      rintro e w3 ⟨bf, rfl, hbf, hT3, hD3, hb3⟩
      have HT3 := Lib.hid hT3
      have HD3 := Lib.hid hD3
      have HB3 : Hid (Below q w1 w3) := HBR.out.trans (hb3.mono hwz)
      have HO3 := Lib.hid (own_on HOW.out hb3)
      have hqr : q < wr.heap.size := (HOW.out.lt q rfl).2
      have hbq : bf ≠ q := by omega
      clear hT3 hD3 hb3 HCL s0
      go_wp2_with fail
      have HG0 := HG
      generalize G = G0 at *
      clear HOW HBR
      generalize hw3 : w3.heap.size = q3 at *
      generalize wr.heap.size = qr at *
      clear wr
      go_loopw [10, 42] (fun s' i wr => ∃ (t : Nat) (G : List Int), t ≤ m ∧ i = .int .i64 t ∧ s' = .slice (some ⟨q, 0, none⟩) G.length mm ∧ G.length ≤ km + t ∧ Hid (G0 ++ (S.take t).map (dF wl s) = G) ∧ Hid (wr.ownsRow q 47 1 (.slice (some ⟨q, 0, none⟩) G.length mm) G.length (cellsU G)) ∧ Hid (TbV wr bf n 47 (fun v => .int .u64 (dF wl s v))) ∧ Hid (Below q w1 wr)) (fun _ i _ => m - (intOf i).toNat)
      case atStart => exact ⟨0, G0, Nat.zero_le _, rfl, rfl, by omega, by show _ = _; simp, HO3, HT3, HB3⟩
      case round =>
        clear HO3 HT3 HB3
        obtain ⟨t, G, ht, rfl, rfl, hGL2, HG, HOW, HTR, HBR⟩ := hrel
        have hwz : q ≤ wr.heap.size := by have := HBR.out.size; omega
        by_cases hlt : t < m
        · have hlt' : (t : Int) < m := by omega
          have ht0 : (0 : Int) ≤ t := by omega
          obtain ⟨_, hyl, hyat⟩ := HIY.out (by omega)
          have s0 := (HBR.out.cell (p := ⟨iy, oy + t, none⟩) (by show iy < q; omega)).trans (hyat t hlt)
          rw [ints_getD (by rw [HM.out]; exact hlt)] at s0
          have htn := HSN.out t hlt
          have HMS := Lib.hid (map_snoc (f := dF wl s) (S := S) (t := t) (by rw [HM.out]; exact hlt))
          obtain ⟨x, HX⟩ := named (S.getD t 0)
          rw [HX.out] at s0 htn HMS
          have f0 : wr.cell? ⟨bf, x, none⟩ = some (.int .u64 (dF wl s x)) := HTR.out.cell htn
          obtain ⟨y, HY⟩ := named (dF wl s x)
          rw [HY.out] at f0 HMS
          have hx' : (x : Int) < n := by omega
          have hx0 : (0 : Int) ≤ x := by omega
          have HG2 : Hid (G0 ++ (S.take (t + 1)).map (dF wl s) = G ++ [y]) := by show _ = _; rw [HMS.out, ← HG.out, List.append_assoc]
          have HNW : Hid (∀ j u, [Value.int .u64 y][j]? = some u → (wr.alloc (.cells #[.int .u64 y] 47)).cell? ((⟨wr.heap.size, 0, none⟩ : Addr).add j) = some u) := by
            intro j u hu
            match j, hu with
            | 0, hu => simp at hu; subst hu; simp [Addr.add]
          have HO3 := Lib.hid (HOW.out.alloc (.cells #[.int .u64 y] 47))
          have HBZ : Hid (q ≤ (wr.alloc (.cells #[.int .u64 y] 47)).heap.size) := by show _ ≤ _; rw [World.size_alloc]; omega
          have HBB : Hid (Below q w1 (wr.alloc (.cells #[.int .u64 y] 47))) := HBR.out.alloc (by omega) _
          have HCA : Hid (cellsU G ++ [.int .u64 y] = cellsU (G ++ [y])) := cellsU_snoc G y
          have HTA : Hid (TbV (wr.alloc (.cells #[.int .u64 y] 47)) bf n 47 (fun v => .int .u64 (dF wl s v))) := HTR.out.same (Below.heap_alloc _ _ _ HTR.out.lt)
          clear hyat
          go_wp2_with (at_builtin; go_must (refine wpList_append_fits rfl (.tmp 46) (.tmp 51) 37 rfl q 47 i75 1 Tryz.underlying37 hi75 hs75 q G.length mm (cellsU G) rfl HO3.out ⟨wr.heap.size, 0, none⟩ 1 1 [.int .u64 y] rfl rfl HNW.out (by intro u hu; simp at hu; subst hu; rfl) (by omega) ?_; intro w6 hown6 hgrow6; rw [HCA.out] at hown6; have h7 : w6.ownsRow q 47 1 (.slice (some ⟨q, 0, none⟩) (G ++ [y]).length mm) (G ++ [y]).length (cellsU (G ++ [y])) := (by rw [List.length_append]; exact hown6); have HO7 := Lib.hid h7; have HB6 : Hid (Below q w1 w6) := HBB.out.grown hgrow6 HBZ.out (fun j hj => by have := Option.some.inj hj; omega); have HGR6 := Lib.hid hgrow6; clear hown6 h7 hgrow6))
          have HT6 : Hid (TbV w6 bf n 47 (fun v => .int .u64 (dF wl s v))) := HTA.out.same (HGR6.out.block bf HTA.out.lt (fun h => hbq (Option.some.inj h)))
          exact ⟨⟨t + 1, G ++ [y], by omega, by simp, by rw [List.length_append]; rfl, by rw [List.length_append]; simp; omega, HG2, HO7, HT6, HB6⟩, by simp [intOf]; omega⟩
        · have hlt' : ¬ (t : Int) < m := by omega
          obtain rfl : t = m := by omega
          have HG3 : Hid (mxK wl S (k + 1) = G) := by show _ = _; rw [HSU.out, HG0.out, HG.out]
          have HD4 : Hid (∀ i, i < k + 1 → N5.IsD (wl.map toN) (fun _ => true) (S.getD i 0) (dF wl (S.getD i 0))) := fun i hi => by
            by_cases h : i < k
            · exact HDD.out i h
            · have e : i = k := by omega
              rw [e, HSS.out]
              exact HD3.out
          go_wp2_with fail
          exact ⟨⟨k + 1, G, by omega, by simp, rfl, HG3, HOW, HD4, HBR⟩, by simp [intOf]; omega⟩
    · have hlk' : ¬ (k : Int) < m := by omega
      obtain rfl : k = m := by omega
      have HGF : Hid (mxL wl S = G) := by show _ = _; unfold mxL; rw [HM.out]; exact HG.out
      have hG0 := (HBR.out.block p (by omega)).trans HK0.out
      obtain ⟨e0, e1, e2, e3, e4, e5⟩ := six_cells hG0
      have hG1 := (HBR.out.block (p + 1) (by omega)).trans HK1.out
      obtain ⟨⟨d0, d1, d2, d3⟩, f0, f1, f2, f3⟩ := four_cells hG1
      have HBW := Lib.hid hbw
      clear hbw
      have HR4 := Lib.hid (four_cells (set4 hG1 (.int .i64 lv) (.int .i64 ce) (.int .i64 ep) (.slice (some ⟨q, 0, none⟩) G.length mm))).1
      have HO4 := Lib.hid (own_base (own_set4 HOW.out (show p + 1 < q by omega) (.int .i64 lv) (.int .i64 ce) (.int .i64 ep) (.slice (some ⟨q, 0, none⟩) G.length mm)) (show p ≤ q by omega))
      have HB4 := Lib.hid (below_set4 HBW.out (show p ≤ p + 1 by omega) (.int .i64 lv) (.int .i64 ce) (.int .i64 ep) (.slice (some ⟨q, 0, none⟩) G.length mm))
      clear hG0 hG1
      go_wp2_with fail
      obtain ⟨r0, r1, r2, r3⟩ := HR4.out
      rw [HGF.out, HM.out]
      refine bodyPost_ret (v := .tuple #[.agg #[.int .i64 lv, .int .i64 ce, .int .i64 ep, .slice (some ⟨q, 0, none⟩) G.length mm], .int .i64 0]) (by simp [results, Tryz.results65, go_sem, r0, r1, r2, r3]) rfl ?_
      exact ⟨_, _, rfl, HO4.out, HDD.out, HB4.out⟩
end Go.Proofs.YtpmjbeiclmllmaaGreat
namespace Go.Proofs.YtpmjbeiclmllmaaGreat
open Go.RowKit
theorem getS_mem {S : List Nat} {i : Nat} (h : i < S.length) : S.getD i 0 ∈ S := by
  rw [show S.getD i 0 = S[i] by simp [List.getD, List.getElem?_eq_getElem h]]
  exact List.getElem_mem h
/-- What is known of a cell that there is. -/
theorem by_facts {N : Int} {l : List A} {bs : List Int} {cs : List (List Int)} {k x : Int} (h : inE N l bs cs k x = 0) : ∃ n : Nat, N = n ∧ chkE n l = 0 ∧ (∀ i, i < (inV N l bs cs k x).length → (inV N l bs cs k x).getD i 0 < l.length) ∧ (inV N l bs cs k x).length ≤ 8192 ∧ (∀ i, i < (bdV N l bs cs k x).length → (bdV N l bs cs k x).getD i 0 < n) := by
  obtain ⟨hNR, j, q, rfl, hj, rfl, hq⟩ := inE_zero h
  have h1024 := (chk_zero hNR.1).2.1
  have h0N := (chk_zero hNR.1).1
  have h8 := (chk_zero hNR.1).2.2.1
  obtain ⟨n, hn⟩ : ∃ n : Nat, N = n := ⟨N.toNat, by omega⟩
  refine ⟨n, hn, hn ▸ hNR.1, fun i hi => ?_, ?_, fun i hi => ?_⟩
  · have h1 := getS_mem hi
    unfold inV at h1 hi ⊢
    rw [if_pos h] at h1 hi ⊢
    exact (cho_mem.1 h1).1
  · unfold inV
    rw [if_pos h]
    exact Nat.le_trans (cho_len _ _) h8
  · have h1 := getS_mem hi
    unfold bdV at h1 hi ⊢
    rw [if_pos h] at h1 hi ⊢
    have h2 := (cho_mem.1 h1).1
    omega
theorem wg_ok {n : Nat} {l : List A} {ids : List Nat} {ws : List Int} (h : chkE n l = 0) (hid : ∀ i, i < ids.length → ids.getD i 0 < l.length) (h8 : ids.length ≤ 8192) (hws : ∀ i, i < ids.length → 0 ≤ ws.getD i 0 ∧ ws.getD i 0 < 4294967296) : WG n (wgL l ids ws) := by
  have hm : ∀ x, x ∈ wgL l ids ws → ((0 ≤ x.f ∧ x.f < n) ∧ (0 ≤ x.t ∧ x.t < n)) ∧ 0 ≤ x.w ∧ x.w < 4294967296 := fun x hx => by
    unfold wgL at hx
    obtain ⟨i, hi, rfl⟩ := List.mem_map.1 hx
    have hi' : i < ids.length := by simpa using hi
    exact ⟨chk_in h (hid i hi'), hws i hi'⟩
  refine ⟨?_, fun x hx => (hm x hx).2⟩
  obtain ⟨h1, h2, _, _⟩ := chk_zero h
  unfold chkE
  rw [if_neg (by omega), if_neg (by rw [wgL_len]; omega), if_pos]
  rw [List.all_eq_true]
  intro x hx
  obtain ⟨⟨⟨a1, a2⟩, a3, a4⟩, _⟩ := hm x hx
  simp [okA, okV, a1, a2, a3, a4]
theorem arcs_far {w : World} {g b i : Nat} {l : List A} {u : Value} (h : Arcs w (some ⟨g, 0, none⟩) l) (hne : g ≠ b) : Arcs (w.setCell ⟨b, i, none⟩ u) (some ⟨g, 0, none⟩) l := by
  rcases h with h | ⟨b', o, e, hl, hc⟩
  · exact Or.inl h
  · injection e with e
    injection e with e1 e2 e3
    subst e1
    subst e2
    refine Or.inr ⟨g, 0, rfl, by simpa using hl, fun j hj => ?_⟩
    obtain ⟨h1, h2, h3⟩ := hc j hj
    have f : ∀ k, (w.setCell ⟨b, i, none⟩ u).cell? ⟨g, k, none⟩ = w.cell? ⟨g, k, none⟩ := fun k => World.cell?_of_block (a := ⟨g, k, none⟩) (Below.heap_setCell w ⟨b, i, none⟩ u g hne)
    exact ⟨(f _).trans h1, (f _).trans h2, (f _).trans h3⟩
/-- What byArcs answers. -/
def byE (N : Int) (l : List A) (bs : List Int) (cs : List (List Int)) (lv ce ep : Int) (m : Nat) : Int := if inE N l bs cs lv ce ≠ 0 then inE N l bs cs lv ce else jbE ep m (inV N l bs cs lv ce).length
/-- The graph of a cell's arcs alone, as it lies. -/
structure AlG (W w : World) (bg g n m : Nat) (wl : List A) : Prop where
  be : Below W.heap.size W w
  bg : w.heap[bg]? = some (.cells #[.int .i64 n, .slice (some ⟨g, 0, none⟩) m m] 24)
  ar : Arcs w (some ⟨g, 0, none⟩) wl
theorem alg_of {W w : World} {bg g n m : Nat} {wl : List A} (hb : Below W.heap.size W w) (hg : w.heap[bg]? = some (.cells #[.int .i64 0, .slice none 0 0] 24)) (hgB : W.heap.size ≤ bg) (ha : Arcs w (some ⟨g, 0, none⟩) wl) (hne : g ≠ bg) :
    AlG W ((w.setCell ⟨bg, 0, none⟩ (.int .i64 n)).setCell ⟨bg, 1, none⟩ (.slice (some ⟨g, 0, none⟩) m m)) bg g n m wl := by
  have g1 := heap_setCell_same w bg 0 _ _ (.int .i64 n) hg
  have g2 := heap_setCell_same _ bg 1 _ _ (.slice (some ⟨g, 0, none⟩) m m) g1
  exact ⟨(hb.setCell (p := ⟨bg, 0, none⟩) hgB _).setCell (p := ⟨bg, 1, none⟩) hgB _, by rw [g2]; simp, arcs_far (arcs_far ha hne) hne⟩
set_option maxRecDepth 100000 in
set_option maxHeartbeats 3200000 in
theorem byArcs_any (N : Int) (a : Option Addr) (l : List A) (cap : Nat) (ba : Option Addr) (bs : List Int) (bc : Nat) (ca : Option Addr) (C : List Cl) (cc : Nat) (lv ce ep : Int) (wa : Option Addr) (ws : List Int) (wk : Nat) (w : World) (hl : l.length ≤ 9223372036854775807) (hbl : bs.length ≤ 9223372036854775807) (hr : Arcs w a l) (hi : Ints w ba bs) (hR : Rws w ca C) (hW : Wts w wa ws) (hws : ∀ i, i < ws.length → 0 ≤ ws.getD i 0 ∧ ws.getD i 0 < 4294967296) :
    Calls Tryz.prog 33 #[.agg #[.int .i64 N, .slice a l.length cap, .slice ba bs.length bc, .slice ca C.length cc, .int .i64 lv, .int .i64 ce], .int .i64 ep, .slice wa ws.length wk] w fun e w' => ((byE N l bs (csl C) lv ce ep ws.length) = 0 → (∃ v c, e = .returned (.tuple #[.agg #[.int .i64 lv, .int .i64 ce, .int .i64 ep, .slice v (mxL (wgL l (inV N l bs (csl C) lv ce) ws) (bdV N l bs (csl C) lv ce)).length c], .int .i64 0]) ∧ w'.ownsRow w.heap.size 47 1 (.slice v (mxL (wgL l (inV N l bs (csl C) lv ce) ws) (bdV N l bs (csl C) lv ce)).length c) (mxL (wgL l (inV N l bs (csl C) lv ce) ws) (bdV N l bs (csl C) lv ce)).length (cellsU (mxL (wgL l (inV N l bs (csl C) lv ce) ws) (bdV N l bs (csl C) lv ce))) ∧ ∀ i, i < (bdV N l bs (csl C) lv ce).length → N5.IsD ((wgL l (inV N l bs (csl C) lv ce) ws).map toN) (fun _ => true) ((bdV N l bs (csl C) lv ce).getD i 0) (dF (wgL l (inV N l bs (csl C) lv ce) ws) ((bdV N l bs (csl C) lv ce).getD i 0)))) ∧ ((byE N l bs (csl C) lv ce ep ws.length) ≠ 0 → e = .returned (.tuple #[.agg #[.int .i64 0, .int .i64 0, .int .i64 0, .slice none 0 0], .int .i64 (byE N l bs (csl C) lv ce ep ws.length)])) ∧ Below w.heap.size w w' := by
  obtain ⟨hg0, hg1, hb0, hsz⟩ := top2 w (.cells #[.int .i64 N, .slice a l.length cap, .slice ba bs.length bc, .slice ca C.length cc, .int .i64 lv, .int .i64 ce] 71) (.cells #[.int .i64 0, .int .i64 0, .int .i64 0, .slice none 0 0] 39)
  obtain ⟨c0, c1, c2, c3, c4, c5⟩ := six_cells hg0
  have HIN := Lib.hid (plInner_any N a l cap ba bs bc ca C cc lv ce _ hl hbl (hr.on hb0) (hi.on hb0) (hR.on hb0))
  have HB0 := Lib.hid hb0
  have HG0 := Lib.hid hg0
  have HG1 := Lib.hid hg1
  have HRA := Lib.hid hr
  have HRI := Lib.hid hi
  have HRR := Lib.hid hR
  have HWT := Lib.hid hW
  have HWS := Lib.hid hws
  have HBF := Lib.hid (@by_facts N l bs (csl C) lv ce)
  have HBDL : (bdV N l bs (csl C) lv ce).length ≤ 1024 := bd_len
  have HBY : Hid ((byE N l bs (csl C) lv ce ep ws.length) = if inE N l bs (csl C) lv ce ≠ 0 then inE N l bs (csl C) lv ce else jbE ep ws.length (inV N l bs (csl C) lv ce).length) := rfl
  obtain ⟨E, HE⟩ := named (inE N l bs (csl C) lv ce)
  obtain ⟨ids, HID⟩ := named (inV N l bs (csl C) lv ce)
  obtain ⟨S, HS⟩ := named (bdV N l bs (csl C) lv ce)
  rw [HE.out, HID.out] at HIN
  rw [HE.out, HID.out] at HBY
  rw [HE.out, HID.out, HS.out] at HBF
  rw [HS.out] at HBDL
  obtain ⟨B, HBB⟩ := named (byE N l bs (csl C) lv ce ep ws.length)
  rw [HBB.out] at HBY
  rw [HBB.out, HID.out, HS.out]
  clear hr hi hR hb0 hg0 hg1 hW hws HBB
  generalize hp : w.heap.size = p at *
  go_enter Tryz.func33, Tryz.ntmps33
  go_wp2_with fail
  generalize hWW : (w.alloc (.cells #[.int .i64 N, .slice a l.length cap, .slice ba bs.length bc, .slice ca C.length cc, .int .i64 lv, .int .i64 ce] 71)).alloc (.cells #[.int .i64 0, .int .i64 0, .int .i64 0, .slice none 0 0] 39) = W at *
  clear hWW
  refine HIN.out.mono ?_
  rintro e w1 ⟨v1, rfl, hr1, hb1⟩
  have hz1 := hb1.size
  have HB1 : Hid (Below p w w1) := HB0.out.trans (hb1.mono (by omega))
  have HK0 := Lib.hid ((hb1.block p (by omega)).trans HG0.out)
  have HK1 := Lib.hid ((hb1.block (p + 1) (by omega)).trans HG1.out)
  have HI1 := Lib.hid hr1.ints
  have hw1 : p + 2 ≤ w1.heap.size := by omega
  clear hr1 hb1 HIN c0 c1 c2 c3 c4 c5 HB0 HG0 HG1 hz1
  have HR4 : Hid (∀ wr : World, wr.heap[p + 1]? = some (.cells #[.int .i64 0, .int .i64 0, .int .i64 0, .slice none 0 0] 39) → ((wr.cell? ⟨p + 1, 0, none⟩ = some (.int .i64 0) ∧ wr.cell? ⟨p + 1, 1, none⟩ = some (.int .i64 0) ∧ wr.cell? ⟨p + 1, 2, none⟩ = some (.int .i64 0) ∧ wr.cell? ⟨p + 1, 3, none⟩ = some (.slice none 0 0)) ∧ (wr.frozen? ⟨p + 1, 0, none⟩ = false ∧ wr.frozen? ⟨p + 1, 1, none⟩ = false ∧ wr.frozen? ⟨p + 1, 2, none⟩ = false ∧ wr.frozen? ⟨p + 1, 3, none⟩ = false))) := fun wr h => four_cells h
  have HZ4 : Hid (∀ wr : World, wr.heap[p + 1]? = some (.cells #[.int .i64 0, .int .i64 0, .int .i64 0, .slice none 0 0] 39) → Below p w wr → ((((((wr.setCell ⟨p + 1, 0, none⟩ (.int .i64 0)).setCell ⟨p + 1, 1, none⟩ (.int .i64 0)).setCell ⟨p + 1, 2, none⟩ (.int .i64 0)).setCell ⟨p + 1, 3, none⟩ (.slice none 0 0)).heap[p + 1]? = some (.cells #[.int .i64 0, .int .i64 0, .int .i64 0, .slice none 0 0] 39)) ∧ Below p w ((((wr.setCell ⟨p + 1, 0, none⟩ (.int .i64 0)).setCell ⟨p + 1, 1, none⟩ (.int .i64 0)).setCell ⟨p + 1, 2, none⟩ (.int .i64 0)).setCell ⟨p + 1, 3, none⟩ (.slice none 0 0)))) := fun wr h hb => ⟨set4 h _ _ _ _, below_set4 hb (by omega) _ _ _ _⟩
  obtain ⟨⟨d0, d1, d2, d3⟩, f0, f1, f2, f3⟩ := HR4.out w1 HK1.out
  by_cases h1 : E = 0
  · subst h1
    obtain ⟨n, rfl, hC0, hid, h8, hSn⟩ := HBF.out rfl
    have HBY : Hid (B = jbE ep ws.length ids.length) := by show _ = _; rw [HBY.out, if_neg (by simp)]
    have HCJ := Lib.hid (checkJob_any ep wa ws.length wk v1 ids.length ids.length w1)
    rw [← HBY.out] at HCJ
    go_wp2_with fail
    refine HCJ.out.mono ?_
    rintro e w2 ⟨rfl, hw2⟩
    subst hw2
    by_cases h2 : B = 0
    · subst h2
      have hlw : ws.length = ids.length := by
        have := HBY.out
        unfold jbE at this
        split at this
        · exact absurd this (by decide)
        · split at this
          · exact absurd this (by decide)
          · rename_i h3; simpa using h3
      obtain ⟨m, HM⟩ := named ids.length
      rw [HM.out] at hlw
      have HWG : Hid (∀ W2, Below w2.heap.size w2 W2 → Calls Tryz.prog 64 #[.agg #[.int .i64 n, .slice a l.length cap], .slice v1 m m, .slice wa m wk] W2 fun e w' => ∃ g, e = .returned (.slice (some ⟨g, 0, none⟩) m m) ∧ W2.heap.size ≤ g ∧ g < w'.heap.size ∧ Arcs w' (some ⟨g, 0, none⟩) (wgL l ids ws) ∧ Below W2.heap.size W2 w') := fun W2 hb => by
        have hbw : Below p w W2 := HB1.out.trans (hb.mono (by omega))
        exact weighed_any n a l cap v1 ids m wa ws wk m W2 (chk_zero hC0).2.2.1 HM.out hlw (by rw [← HM.out]; exact h8) (fun i hi => hid i (by rw [HM.out]; exact hi)) (HRA.out.on (hp ▸ hbw)) (HI1.out.on hb) (HWT.out.on (hp ▸ hbw))
      have HG : Hid (WG n (wgL l ids ws)) := wg_ok hC0 hid h8 (fun i hi => HWS.out i (by rw [hlw, ← HM.out]; exact hi))
      have HLW := Lib.hid hlw
      have HSN := Lib.hid hSn
      have HSS : Hid (∀ w' : World, Below w2.heap.size w2 w' → w'.cell? ⟨p, 0, none⟩ = some (.int .i64 n) ∧ w'.cell? ⟨p, 1, none⟩ = some (.slice a l.length cap)) := fun W2 hb => by
        obtain ⟨x0, x1, _⟩ := six_cells ((hb.block p (by omega)).trans HK0.out)
        exact ⟨x0, x1⟩
      have HB00 : Hid (Below w2.heap.size w2 w2.drew) := (Below.refl _ _).drew
      obtain ⟨k0, k1⟩ := HSS.out _ (Below.refl _ _)
      rw [HM.out]
      rw [hlw]
      clear hC0 hid h8 hSn hlw HCJ d0 d1 d2 d3 f0 f1 f2 f3 HBY
      generalize hW0 : w2 = W0 at *
      clear hW0
      go_wp2_with fail
      go_cut [11] (fun s11 wc => ∃ (bg g : Nat), s11 = .pointer (some ⟨bg, 0, none⟩) ∧ Hid (AlG W0 wc bg g n m (wgL l ids ws)))
      case first =>
        refine wp_region_held_drew (S := fun w' => w'.cell? ⟨p, 0, none⟩ = some (.int .i64 n) ∧ w'.cell? ⟨p, 1, none⟩ = some (.slice a l.length cap)) (by kernel_rfl) (HSS.out _ HB00.out) ?_
        intro hS0
        generalize W0.drew = Wd at *
        simp only [List.size_toArray, List.length_cons, List.length_nil]
        refine wpAnyH_take (i := 0) (v := ?_) rfl (by kernel_rfl) (by decide +kernel) (by decide +kernel) (fun _ _ _ h => h) (Or.inl ⟨by rfl, ?_⟩) (by assumption) ?_
        rotate_left
        · intro w hSw
          (try dsimp only at hSw)
          go_simp
          (try with_reducible rfl)
        try simp only [Act.put, List.getElem_toArray, List.getElem_cons_zero, List.setIfInBounds_toArray, List.set_cons_zero, List.set_cons_succ]
        refine wpAnyH_take (i := 1) (v := ?_) rfl (by kernel_rfl) (by decide +kernel) (by decide +kernel) (fun _ _ _ h => h) (Or.inl ⟨by rfl, ?_⟩) (by assumption) ?_
        rotate_left
        · intro w hSw
          (try dsimp only at hSw)
          go_simp
          (try with_reducible rfl)
        try simp only [Act.put, List.getElem_toArray, List.getElem_cons_zero, List.getElem_cons_succ, List.setIfInBounds_toArray, List.set_cons_zero, List.set_cons_succ]
        refine wpAnyH_take (i := 2) (v := ?_) rfl (by kernel_rfl) (by decide +kernel) (by decide +kernel) (fun _ _ _ h => h) (Or.inl ⟨by rfl, ?_⟩) (by assumption) ?_
        rotate_left
        · intro w hSw
          (try dsimp only at hSw)
          go_simp
          (try with_reducible rfl)
        try simp only [Act.put, List.getElem_toArray, List.getElem_cons_zero, List.getElem_cons_succ, List.setIfInBounds_toArray, List.set_cons_zero, List.set_cons_succ]
        refine wpAnyH_take (i := 3) (v := ?_) rfl (by kernel_rfl) (by decide +kernel) (by decide +kernel) (fun _ _ _ h => h) (Or.inl ⟨by rfl, ?_⟩) (by assumption) ?_
        rotate_left
        · intro w hSw
          (try dsimp only at hSw)
          go_simp
          (try with_reducible rfl)
        try simp only [Act.put, List.getElem_toArray, List.getElem_cons_zero, List.getElem_cons_succ, List.setIfInBounds_toArray, List.set_cons_zero, List.set_cons_succ]
        refine wpAnyH_take (i := 4) (v := ?_) rfl (by kernel_rfl) (by decide +kernel) (by decide +kernel) (fun _ _ _ h => h) (Or.inl ⟨by rfl, ?_⟩) (by assumption) ?_
        rotate_left
        · intro w hSw
          (try dsimp only at hSw)
          go_simp
          (try with_reducible rfl)
        try simp only [Act.put, List.getElem_toArray, List.getElem_cons_zero, List.getElem_cons_succ, List.setIfInBounds_toArray, List.set_cons_zero, List.set_cons_succ]
        refine wpAnyH_take (i := 5) (v := ?_) rfl (by kernel_rfl) (by decide +kernel) (by decide +kernel) (fun _ _ _ h => h) (Or.inl ⟨by rfl, ?_⟩) (by assumption) ?_
        rotate_left
        · intro w hSw
          (try dsimp only at hSw)
          go_simp
          (try with_reducible rfl)
        try simp only [Act.put, List.getElem_toArray, List.getElem_cons_zero, List.getElem_cons_succ, List.setIfInBounds_toArray, List.set_cons_zero, List.set_cons_succ]
        refine wpAnyH_take (i := 6) (v := ?_) rfl (by kernel_rfl) (by decide +kernel) (by decide +kernel) (fun _ _ _ h => h) (Or.inl ⟨by rfl, ?_⟩) (by assumption) ?_
        rotate_left
        · intro w hSw
          (try dsimp only at hSw)
          go_simp
          (try with_reducible rfl)
        try simp only [Act.put, List.getElem_toArray, List.getElem_cons_zero, List.getElem_cons_succ, List.setIfInBounds_toArray, List.set_cons_zero, List.set_cons_succ]
        refine wpAnyH_ready (rs := [7, 9]) (by kernel_rfl) (by simp) ?_
        refine AllReadyH.cons rfl (fun K hK => ?_) (AllReadyH.cons rfl (fun K hK => ?_) (AllReadyH.nil))
        · skip
          rw [if_pos (by rfl)]
          go_simp
          refine (HWG.out Wd HB00.out).mono ?_
          rintro e w7 ⟨g, rfl, hgl, hg7, har, hbn⟩
          have HB7 : Hid (Below W0.heap.size W0 w7) := HB00.out.trans (hbn.mono HB00.out.size)
          refine hK.out _ _ (HSS.out _ HB7.out) (fun _ => ?_)
          clear hK K
          try simp only [Act.put, List.getElem_toArray, List.getElem_cons_zero, List.getElem_cons_succ, List.setIfInBounds_toArray, List.set_cons_zero, List.set_cons_succ]
          refine wpAnyH_take (i := 8) (v := ?_) rfl (by kernel_rfl) (by decide +kernel) (by decide +kernel) (fun _ _ _ h => h) (Or.inl ⟨by rfl, ?_⟩) (by assumption) ?_
          rotate_left
          · intro w hSw
            (try dsimp only at hSw)
            go_simp
            (try with_reducible rfl)
          try simp only [Act.put, List.getElem_toArray, List.getElem_cons_zero, List.getElem_cons_succ, List.setIfInBounds_toArray, List.set_cons_zero, List.set_cons_succ]
          refine wpAnyH_ready (rs := [9]) (by kernel_rfl) (by simp) ?_
          refine AllReadyH.cons rfl (fun K hK => ?_) AllReadyH.nil
          go_simp
          have hbm : Below w7.heap.size w7 (w7.alloc (.cells #[.int .i64 0, .slice none 0 0] 24)) := (Below.refl _ _).alloc (Nat.le_refl _) _
          have HBG : Hid ((w7.alloc (.cells #[.int .i64 0, .slice none 0 0] 24)).heap[w7.heap.size]? = some (.cells #[.int .i64 0, .slice none 0 0] 24) ∧ W0.heap.size ≤ w7.heap.size) := ⟨heap_top w7 _, HB7.out.size⟩
          have HB9 : Hid (Below W0.heap.size W0 (w7.alloc (.cells #[.int .i64 0, .slice none 0 0] 24))) := HB7.out.trans (hbm.mono HB7.out.size)
          have HA9 := Lib.hid (har.on hbm)
          have hne : g ≠ w7.heap.size := by omega
          refine hK.out _ _ (HSS.out _ HB9.out) (fun _ => ?_)
          clear hK K
          try simp only [Act.put, List.getElem_toArray, List.getElem_cons_zero, List.getElem_cons_succ, List.setIfInBounds_toArray, List.set_cons_zero, List.set_cons_succ]
          generalize w7.heap.size = bg at *
          generalize w7.alloc (.cells #[.int .i64 0, .slice none 0 0] 24) = w9 at *
          have HAL := Lib.hid (alg_of HB9.out HBG.out.1 HBG.out.2 HA9.out hne (n := n) (m := m))
          obtain ⟨⟨z0, z1⟩, zf0, zf1⟩ := two_cells HBG.out.1
          refine wpAnyH_ready (rs := [10]) (by kernel_rfl) (by simp) ?_
          refine AllReadyH.cons rfl (fun K hK => ?_) AllReadyH.nil
          go_simp
          refine hK.out _ _ (HSS.out _ HAL.out.be) (fun _ => ?_)
          clear hK K
          try simp only [Act.put, List.getElem_toArray, List.getElem_cons_zero, List.getElem_cons_succ, List.setIfInBounds_toArray, List.set_cons_zero, List.set_cons_succ]
          refine wpAnyH_done (by kernel_rfl) ?_ _
          go_wp2_with fail
          go_meet
          case rel => exact ⟨bg, g, rfl, HAL⟩
        · skip
          go_simp
          have hbm : Below Wd.heap.size Wd (Wd.alloc (.cells #[.int .i64 0, .slice none 0 0] 24)) := (Below.refl _ _).alloc (Nat.le_refl _) _
          have HG9 : Hid ((Wd.alloc (.cells #[.int .i64 0, .slice none 0 0] 24)).heap[Wd.heap.size]? = some (.cells #[.int .i64 0, .slice none 0 0] 24) ∧ W0.heap.size ≤ Wd.heap.size) := ⟨heap_top Wd _, HB00.out.size⟩
          have HB9 : Hid (Below W0.heap.size W0 (Wd.alloc (.cells #[.int .i64 0, .slice none 0 0] 24))) := HB00.out.trans (hbm.mono HB00.out.size)
          have hz9 : (Wd.alloc (.cells #[.int .i64 0, .slice none 0 0] 24)).heap.size = Wd.heap.size + 1 := by simp
          refine hK.out _ _ (HSS.out _ HB9.out) (fun _ => ?_)
          clear hK K
          try simp only [Act.put, List.getElem_toArray, List.getElem_cons_zero, List.getElem_cons_succ, List.setIfInBounds_toArray, List.set_cons_zero, List.set_cons_succ]
          generalize Wd.heap.size = bg at *
          generalize Wd.alloc (.cells #[.int .i64 0, .slice none 0 0] 24) = w9 at *
          refine wpAnyH_ready (rs := [7]) (by kernel_rfl) (by simp) ?_
          refine AllReadyH.cons rfl (fun K hK => ?_) AllReadyH.nil
          rw [if_pos (by rfl)]
          go_simp
          refine (HWG.out w9 HB9.out).mono ?_
          rintro e w7 ⟨g, rfl, hgl, hg7, har, hbn⟩
          have HB7 : Hid (Below W0.heap.size W0 w7) := HB9.out.trans (hbn.mono HB9.out.size)
          have HBG : Hid (w7.heap[bg]? = some (.cells #[.int .i64 0, .slice none 0 0] 24) ∧ W0.heap.size ≤ bg) := ⟨(hbn.block _ (lt_of_block HG9.out.1)).trans HG9.out.1, HG9.out.2⟩
          have hne : g ≠ bg := by omega
          have HA9 := Lib.hid har
          refine hK.out _ _ (HSS.out _ HB7.out) (fun _ => ?_)
          clear hK K
          try simp only [Act.put, List.getElem_toArray, List.getElem_cons_zero, List.getElem_cons_succ, List.setIfInBounds_toArray, List.set_cons_zero, List.set_cons_succ]
          refine wpAnyH_take (i := 8) (v := ?_) rfl (by kernel_rfl) (by decide +kernel) (by decide +kernel) (fun _ _ _ h => h) (Or.inl ⟨by rfl, ?_⟩) (by assumption) ?_
          rotate_left
          · intro w hSw
            (try dsimp only at hSw)
            go_simp
            (try with_reducible rfl)
          try simp only [Act.put, List.getElem_toArray, List.getElem_cons_zero, List.getElem_cons_succ, List.setIfInBounds_toArray, List.set_cons_zero, List.set_cons_succ]
          have HAL := Lib.hid (alg_of HB7.out HBG.out.1 HBG.out.2 HA9.out hne (n := n) (m := m))
          obtain ⟨⟨z0, z1⟩, zf0, zf1⟩ := two_cells HBG.out.1
          refine wpAnyH_ready (rs := [10]) (by kernel_rfl) (by simp) ?_
          refine AllReadyH.cons rfl (fun K hK => ?_) AllReadyH.nil
          go_simp
          refine hK.out _ _ (HSS.out _ HAL.out.be) (fun _ => ?_)
          clear hK K
          try simp only [Act.put, List.getElem_toArray, List.getElem_cons_zero, List.getElem_cons_succ, List.setIfInBounds_toArray, List.set_cons_zero, List.set_cons_succ]
          refine wpAnyH_done (by kernel_rfl) ?_ _
          go_wp2_with fail
          go_meet
          case rel => exact ⟨bg, g, rfl, HAL⟩
      case rest =>
        obtain ⟨bg, g, rfl, HAL⟩ := hcut
        have HBC : Hid (Below p w wc) := HB1.out.trans (HAL.out.be.mono (by omega))
        have hzc := HAL.out.be.size
        obtain ⟨c0, c1, c2, c3, c4, c5⟩ := six_cells ((HAL.out.be.block p (by omega)).trans HK0.out)
        have HKC := Lib.hid ((HAL.out.be.block (p + 1) (by omega)).trans HK1.out)
        have HWL : Hid ((wgL l ids ws).length = m) := by show _ = _; rw [wgL_len, HM.out]
        have HMX := Lib.hid (matrix_any n a l cap ba bs bc ca C cc lv ce ep bg (wgL l ids ws) (some ⟨g, 0, none⟩) m S wc HE.out HS.out HSN.out HBDL HG.out hl hbl (HRA.out.on (hp ▸ HBC.out)) (HRI.out.on (hp ▸ HBC.out)) (HRR.out.on (hp ▸ HBC.out)) (by rw [HWL.out]; exact HAL.out.bg) HAL.out.ar)
        obtain ⟨X, HX⟩ := named (mxL (wgL l ids ws) S)
        rw [HX.out] at HMX
        have hmf : ∀ (fn : Fn) (first cap : Array Value) (w : World), (Instr.makeFunc fn first cap).run Tryz.prog w = .ok (.func fn first cap) w := fun _ _ _ _ => rfl
        clear HWG HSS HB00 k0 k1 HG
        go_wp2_with fail
        refine HMX.out.mono ?_
        rintro e w5 ⟨v, c, rfl, hown, hD, hb5⟩
        have hK5 := (hb5.block (p + 1) (by omega)).trans HKC.out
        obtain ⟨⟨d0, d1, d2, d3⟩, f0, f1, f2, f3⟩ := HR4.out w5 hK5
        have HR5 := Lib.hid (four_cells (set4 hK5 (.int .i64 lv) (.int .i64 ce) (.int .i64 ep) (.slice v X.length c))).1
        have HO5 := Lib.hid (own_base (own_set4 hown (show p + 1 < wc.heap.size by omega) (.int .i64 lv) (.int .i64 ce) (.int .i64 ep) (.slice v X.length c)) (show p ≤ wc.heap.size by omega))
        have HB5 := Lib.hid (below_set4 (HBC.out.trans (hb5.mono (by omega))) (show p ≤ p + 1 by omega) (.int .i64 lv) (.int .i64 ce) (.int .i64 ep) (.slice v X.length c))
        have HD5 := Lib.hid hD
        clear hK5 hown hD hb5 HMX c0 c1 c2 c3 c4 c5
        go_wp2_with fail
        obtain ⟨r0, r1, r2, r3⟩ := HR5.out
        rw [HX.out]
        refine bodyPost_ret (v := .tuple #[.agg #[.int .i64 lv, .int .i64 ce, .int .i64 ep, .slice v X.length c], .int .i64 0]) (by simp [results, Tryz.results33, go_sem, r0, r1, r2, r3]) rfl ?_
        first | exact ⟨⟨v, c, rfl, HO5.out, HD5.out⟩, HB5.out⟩ | exact ⟨fun _ => ⟨v, c, rfl, HO5.out, HD5.out⟩, fun h => absurd rfl h, HB5.out⟩
    · have e2 : (B != 0) = true := by simpa using h2
      obtain ⟨r4, HBZ⟩ := HZ4.out w2 HK1.out HB1.out
      have HRZ := Lib.hid (HR4.out _ r4).1
      have HBZ := Lib.hid HBZ
      clear r4
      go_wp2_with fail
      obtain ⟨r0, r1, r2, r3⟩ := HRZ.out
      refine bodyPost_ret (v := .tuple #[.agg #[.int .i64 0, .int .i64 0, .int .i64 0, .slice none 0 0], .int .i64 B]) (by simp [results, Tryz.results33, go_sem, r0, r1, r2, r3]) rfl ?_
      exact ⟨fun h => absurd h h2, fun _ => rfl, HBZ.out⟩
  · have e1 : (E != 0) = true := by simpa using h1
    obtain rfl : B = E := by rw [HBY.out, if_pos h1]
    obtain ⟨r4, HBZ⟩ := HZ4.out w1 HK1.out HB1.out
    have HRZ := Lib.hid (HR4.out _ r4).1
    have HBZ := Lib.hid HBZ
    clear r4
    go_wp2_with fail
    obtain ⟨r0, r1, r2, r3⟩ := HRZ.out
    refine bodyPost_ret (v := .tuple #[.agg #[.int .i64 0, .int .i64 0, .int .i64 0, .slice none 0 0], .int .i64 B]) (by simp [results, Tryz.results33, go_sem, r0, r1, r2, r3]) rfl ?_
    exact ⟨fun h => absurd h h1, fun _ => rfl, HBZ.out⟩
end Go.Proofs.YtpmjbeiclmllmaaGreat
namespace Go.Proofs.YtpmjbeiclmllmaaGreat
open Go.RowKit
/-- Distances of a slice as they lie in memory. -/
def Dts (w : World) (a : Option Addr) (xs : List Int) : Prop := xs = [] ∨ ∃ b o, a = some ⟨b, o, none⟩ ∧ b < w.heap.size ∧ ∀ j, j < xs.length → w.cell? ⟨b, o + j, none⟩ = some (.int .u64 (xs.getD j 0))
theorem Dts.on {w w' : World} {a : Option Addr} {xs : List Int} (h : Dts w a xs) (hb : Below w.heap.size w w') : Dts w' a xs := by
  rcases h with h | ⟨b, o, h1, h2, h3⟩
  · exact Or.inl h
  · exact Or.inr ⟨b, o, h1, Nat.lt_of_lt_of_le h2 hb.size, fun j hj => (hb.cell (p := ⟨b, o + j, none⟩) h2).trans (h3 j hj)⟩
theorem Dts.get {w : World} {a : Option Addr} {xs : List Int} (h : Dts w a xs) : ∃ b o, 0 < xs.length → a = some ⟨b, o, none⟩ ∧ b < w.heap.size ∧ ∀ j, j < xs.length → w.cell? ⟨b, o + j, none⟩ = some (.int .u64 (xs.getD j 0)) := by
  rcases h with h | ⟨b, o, h1, h2, h3⟩
  · exact ⟨0, 0, fun h5 => by rw [h] at h5; simp at h5⟩
  · exact ⟨b, o, fun _ => ⟨h1, h2, h3⟩⟩
theorem cellsU_getD (xs : List Int) (k : Nat) (h : k < xs.length) : (cellsU xs)[k]? = some (.int .u64 (xs.getD k 0)) := by
  unfold cellsU
  simp [List.getD, List.getElem?_eq_getElem h]
theorem dts_own {w : World} {B : Nat} {a : Option Addr} {c : Nat} {xs : List Int} (h : w.ownsRow B 47 1 (.slice a xs.length c) xs.length (cellsU xs)) : Dts w a xs := by
  rcases h.2 with ⟨e1, e2⟩ | ⟨g, c', cur, e1, _, h3, _⟩
  · exact Or.inl (List.eq_nil_of_length_eq_zero e2)
  · injection e1 with e1 e2 e3
    subst e1
    refine Or.inr ⟨g, 0, rfl, lt_of_block h3, fun j hj => ?_⟩
    rw [Nat.zero_add, World.ownsRow.cellAt h j (by omega), cellsU_getD _ j hj]
theorem dts_block {w : World} {b : Nat} {xs : List Int} {t : TypeId} (h : w.heap[b]? = some (.cells (cellsU xs).toArray t (0, 0))) : Dts w (some ⟨b, 0, none⟩) xs := by
  refine .inr ⟨b, 0, rfl, lt_of_block h, fun j hj => ?_⟩
  simp [World.cell?, h, cellsU, List.getD, hj]
set_option maxRecDepth 100000 in
set_option maxHeartbeats 3200000 in
theorem sameD_any (a a' : Option Addr) (cap cap' : Nat) (xs : List Int) (w : World) (hlen : xs.length ≤ 9223372036854775807) (hr : Dts w a xs) (hr' : Dts w a' xs) :
    Calls Tryz.prog 32 #[.slice a xs.length cap, .slice a' xs.length cap'] w fun e w' => e = .returned (.bool true) ∧ Below w.heap.size w w' := by
  obtain ⟨b, o, hab⟩ := hr.get
  obtain ⟨b', o', hab'⟩ := hr'.get
  go_enter Tryz.func32, Tryz.ntmps32
  go_wp2_with fail
  go_loopw [5] (fun i wr => ∃ k n : Nat, k ≤ xs.length ∧ i = .int .i64 k ∧ wr = w.drewN n) (fun i _ => xs.length - (intOf i).toNat)
  case atStart => exact ⟨0, 0, Nat.zero_le _, rfl, rfl⟩
  case round =>
    obtain ⟨k, n, hk, rfl, rfl⟩ := hrel
    by_cases hlt : k < xs.length
    · obtain ⟨rfl, _, hc⟩ := hab (by omega)
      obtain ⟨rfl, _, hc'⟩ := hab' (by omega)
      have c1 := hc k hlt
      have c2 := hc' k hlt
      clear hc hc'
      generalize xs.getD k 0 = x at *
      go_wp2_with fail
      go_quiet (fail)
      go_wp2_with fail
      exact ⟨⟨k + 1, _, by omega, by go_num, rfl⟩, by simp [intOf]; omega⟩
    · go_wp2_with fail
      go_ret
      exact ⟨rfl, below_drewN _ _ _⟩
set_option maxRecDepth 100000 in
set_option maxHeartbeats 3200000 in
theorem leaf_any (N : Int) (a : Option Addr) (l : List A) (cap : Nat) (ba : Option Addr) (bs : List Int) (bc : Nat) (ca : Option Addr) (C : List Cl) (cc : Nat) (ce ep : Int) (wa : Option Addr) (ws : List Int) (wk : Nat) (w : World) (hl : l.length ≤ 9223372036854775807) (hbl : bs.length ≤ 9223372036854775807) (hr : Arcs w a l) (hi : Ints w ba bs) (hR : Rws w ca C) (hW : Wts w wa ws) (hws : ∀ i, i < ws.length → 0 ≤ ws.getD i 0 ∧ ws.getD i 0 < 4294967296) :
    Calls Tryz.prog 10 #[.agg #[.int .i64 N, .slice a l.length cap], .agg #[.slice ba bs.length bc, .slice ca C.length cc], .int .i64 ce, .int .i64 ep, .slice wa ws.length wk] w fun e w' => ((byE N l bs (csl C) 1 ce ep ws.length) = 0 → (∃ v c, e = .returned (.tuple #[.agg #[.int .i64 1, .int .i64 ce, .int .i64 ep, .slice v (mxL (wgL l (inV N l bs (csl C) 1 ce) ws) (bdV N l bs (csl C) 1 ce)).length c], .int .i64 0]) ∧ w'.ownsRow w.heap.size 47 1 (.slice v (mxL (wgL l (inV N l bs (csl C) 1 ce) ws) (bdV N l bs (csl C) 1 ce)).length c) (mxL (wgL l (inV N l bs (csl C) 1 ce) ws) (bdV N l bs (csl C) 1 ce)).length (cellsU (mxL (wgL l (inV N l bs (csl C) 1 ce) ws) (bdV N l bs (csl C) 1 ce))) ∧ ∀ i, i < (bdV N l bs (csl C) 1 ce).length → N5.IsD ((wgL l (inV N l bs (csl C) 1 ce) ws).map toN) (fun _ => true) ((bdV N l bs (csl C) 1 ce).getD i 0) (dF (wgL l (inV N l bs (csl C) 1 ce) ws) ((bdV N l bs (csl C) 1 ce).getD i 0)))) ∧ ((byE N l bs (csl C) 1 ce ep ws.length) ≠ 0 → e = .returned (.tuple #[.agg #[.int .i64 0, .int .i64 0, .int .i64 0, .slice none 0 0], .int .i64 (byE N l bs (csl C) 1 ce ep ws.length)])) ∧ Below w.heap.size w w' := by
  obtain ⟨hg0, hg1, hg2, hb0, hsz⟩ := top3 w (.cells #[.int .i64 N, .slice a l.length cap] 24) (.cells #[.slice ba bs.length bc, .slice ca C.length cc] 28) (.cells #[.int .i64 0, .int .i64 0, .int .i64 0, .slice none 0 0] 39)
  obtain ⟨⟨a0, a1⟩, _⟩ := two_cells hg0
  obtain ⟨⟨a2, a3⟩, _⟩ := two_cells hg1
  have HBY := Lib.hid (byArcs_any N a l cap ba bs bc ca C cc 1 ce ep wa ws wk _ hl hbl (hr.on hb0) (hi.on hb0) (hR.on hb0) (hW.on hb0) hws)
  have HB0 := Lib.hid hb0
  have HG2 := Lib.hid hg2
  obtain ⟨B, HBB⟩ := named (byE N l bs (csl C) 1 ce ep ws.length)
  obtain ⟨X, HX⟩ := named (mxL (wgL l (inV N l bs (csl C) 1 ce) ws) (bdV N l bs (csl C) 1 ce))
  obtain ⟨wl', HWL⟩ := named (wgL l (inV N l bs (csl C) 1 ce) ws)
  rw [HBB.out] at HBY
  rw [HBB.out]
  rw [HX.out, HWL.out] at HBY
  rw [HX.out, HWL.out]
  clear hr hi hR hW hws hb0 hg0 hg1 hg2
  generalize hp : w.heap.size = p at *
  go_enter Tryz.func10, Tryz.ntmps10
  go_wp2_with fail
  generalize hWW : (((w.alloc (.cells #[.int .i64 N, .slice a l.length cap] 24)).alloc (.cells #[.slice ba bs.length bc, .slice ca C.length cc] 28)).alloc (.cells #[.int .i64 0, .int .i64 0, .int .i64 0, .slice none 0 0] 39)) = W at *
  clear hWW
  refine HBY.out.mono ?_
  rintro e w5 ⟨hok, hno, hb5⟩
  have hK5 := (hb5.block (p + 1 + 1) (by omega)).trans HG2.out
  obtain ⟨⟨d0, d1, d2, d3⟩, f0, f1, f2, f3⟩ := four_cells hK5
  by_cases h : B = 0
  · subst h
    obtain ⟨v, c, rfl, hown, hD⟩ := hok rfl
    have HR5 := Lib.hid (four_cells (set4 hK5 (.int .i64 1) (.int .i64 ce) (.int .i64 ep) (.slice v X.length c))).1
    have HO5 := Lib.hid (own_base (own_set4 hown (show p + 1 + 1 < W.heap.size by omega) (.int .i64 1) (.int .i64 ce) (.int .i64 ep) (.slice v X.length c)) (show p ≤ W.heap.size by omega))
    have HB5 := Lib.hid (below_set4 (HB0.out.trans (hb5.mono (by omega))) (show p ≤ p + 1 + 1 by omega) (.int .i64 1) (.int .i64 ce) (.int .i64 ep) (.slice v X.length c))
    have HD5 := Lib.hid hD
    clear hK5 hown hD hb5 HBY hok hno a0 a1 a2 a3
    go_wp2_with fail
    obtain ⟨r0, r1, r2, r3⟩ := HR5.out
    refine bodyPost_ret (v := .tuple #[.agg #[.int .i64 1, .int .i64 ce, .int .i64 ep, .slice v X.length c], .int .i64 0]) (by simp [results, Tryz.results10, go_sem, r0, r1, r2, r3]) rfl ?_
    first | exact ⟨⟨v, c, rfl, HO5.out, HD5.out⟩, HB5.out⟩ | exact ⟨fun _ => ⟨v, c, rfl, HO5.out, HD5.out⟩, fun h => absurd rfl h, HB5.out⟩
  · obtain rfl := hno h
    have HR5 := Lib.hid (four_cells (set4 hK5 (.int .i64 0) (.int .i64 0) (.int .i64 0) (.slice none 0 0))).1
    have HB5 := Lib.hid (below_set4 (HB0.out.trans (hb5.mono (by omega))) (show p ≤ p + 1 + 1 by omega) (.int .i64 0) (.int .i64 0) (.int .i64 0) (.slice none 0 0))
    clear hK5 hb5 HBY hok hno a0 a1 a2 a3
    go_wp2_with fail
    obtain ⟨r0, r1, r2, r3⟩ := HR5.out
    refine bodyPost_ret (v := .tuple #[.agg #[.int .i64 0, .int .i64 0, .int .i64 0, .slice none 0 0], .int .i64 B]) (by simp [results, Tryz.results10, go_sem, r0, r1, r2, r3]) rfl ?_
    exact ⟨fun h' => absurd h' h, fun _ => rfl, HB5.out⟩
theorem wts_one {w : World} {b : Nat} {x : Int} {t : TypeId} (h : w.heap[b]? = some (.cells #[.int .u32 x] t)) : Wts w (some ⟨b, 0, none⟩) [x] := by
  refine .inr ⟨b, 0, rfl, lt_of_block h, fun j hj => ?_⟩
  obtain rfl : j = 0 := by simpa using hj
  simp [World.cell?, h]
/-- The distances of the example. -/
def exF (s : Nat) (v : Nat) : Int := if v = s then 0 else if s = 0 ∧ v = 1 then 5 else N5.Inf
theorem ex_is (s : Nat) (hs : s = 0 ∨ s = 1) : N5.IsD ([⟨0, 1, 5⟩] : List N5.A) (fun _ => true) s (exF s) := by
  have le : ∀ v d, N5.Wk ([⟨0, 1, 5⟩] : List N5.A) (fun _ => true) s v d → exF s v ≤ d := fun v d h => by
    induction h with
    | nil _ => simp [exF]
    | snoc hx _ _ ih =>
      obtain rfl := List.mem_singleton.1 hx
      unfold exF N5.Inf N5.src N5.dst at *
      simp at *
      rcases hs with rfl | rfl
      · simp at *; omega
      · simp at *; omega
  refine ⟨fun v => ?_, fun v => ?_, fun v h => ?_, le⟩
  · unfold exF N5.Inf; split <;> (try split) <;> decide
  · unfold exF N5.Inf; split <;> (try split) <;> decide
  · by_cases h1 : v = s
    · subst h1
      have e : exF v v = 0 := by simp [exF]
      rw [e]
      exact N5.Wk.nil rfl
    · by_cases h2 : s = 0 ∧ v = 1
      · obtain ⟨rfl, rfl⟩ := h2
        exact N5.Wk.snoc (x := ⟨0, 1, 5⟩) (d := 0) (by simp) (N5.Wk.nil rfl) rfl
      · exfalso
        unfold exF at h
        rw [if_neg h1, if_neg h2] at h
        omega
theorem w_in (p : Nat) : inV 3 wl [2] (csl (wC p)) 1 0 = [0] := by
  show inV 3 wl [2] [[0, 0, 1]] 1 0 = [0]
  decide
theorem w_by (p : Nat) : byE 3 wl [2] (csl (wC p)) 1 0 0 1 = 0 := by
  unfold byE
  rw [(w_bd p).2, w_in]
  decide
theorem w_wg : wgL wl [0] [5] = [⟨0, 1, 5⟩] := by decide
theorem w_mx (p : Nat) : mxL (wgL wl (inV 3 wl [2] (csl (wC p)) 1 0) [5]) (bdV 3 wl [2] (csl (wC p)) 1 0) = [0, 5, 18446744073709551615, 0] := by
  rw [w_in, (w_bd p).1, w_wg]
  have h0 : dF [⟨0, 1, 5⟩] 0 = exF 0 := dF_is (ex_is 0 (Or.inl rfl))
  have h1 : dF [⟨0, 1, 5⟩] 1 = exF 1 := dF_is (ex_is 1 (Or.inr rfl))
  unfold mxL mxK
  show ([0, 1] : List Nat).flatMap (fun s => ([0, 1] : List Nat).map (dF [⟨0, 1, 5⟩] s)) = _
  simp only [List.flatMap_cons, List.flatMap_nil, List.map_cons, List.map_nil, h0, h1]
  decide
set_option maxRecDepth 100000 in
set_option maxHeartbeats 3200000 in
theorem works13_any (w : World) : Calls Tryz.prog 7 #[] w fun e w' => e = .returned (.bool true) ∧ Below w.heap.size w w' := by
  have h6 := al6 w (.cells #[.int .i64 0, .int .i64 1, .int .u32 0, .int .i64 1, .int .i64 2, .int .u32 0, .int .i64 0, .int .i64 2, .int .u32 0] 68) (.cells #[.int .i64 3, .slice (some ⟨w.heap.size, 0, none⟩) 3 3] 24) (.cells #[.int .i64 2] 3) (.cells #[.int .i64 0, .int .i64 0, .int .i64 1] 3) (.cells #[.slice (some ⟨w.heap.size + 1 + 1 + 1, 0, none⟩) 3 3] 25) (.cells #[.slice (some ⟨w.heap.size + 1 + 1, 0, none⟩) 1 1, .slice (some ⟨w.heap.size + 1 + 1 + 1 + 1, 0, none⟩) 1 1] 28) _ rfl
  generalize hp : w.heap.size = p at *
  obtain ⟨hA, hG, hBs, hC, hR, hN, hB, hz⟩ := h6
  obtain ⟨⟨g0, g1⟩, _⟩ := two_cells hG
  obtain ⟨⟨n0, n1⟩, _⟩ := two_cells hN
  have HAR := Lib.hid (wl_arcs hA)
  have HBS := Lib.hid (ints_block (xs := [2]) hBs)
  have HRW := Lib.hid (wC_rws hR hC)
  have HB0 := Lib.hid hB
  have HGG := Lib.hid hG
  have HNN := Lib.hid hN
  clear hA hG hBs hC hR hN hB
  go_enter Tryz.func7, Tryz.ntmps7
  go_wp2_with fail
  generalize hW : ((((((w.alloc (.cells #[.int .i64 0, .int .i64 1, .int .u32 0, .int .i64 1, .int .i64 2, .int .u32 0, .int .i64 0, .int .i64 2, .int .u32 0] 68)).alloc (.cells #[.int .i64 3, .slice (some ⟨p, 0, none⟩) 3 3] 24)).alloc (.cells #[.int .i64 2] 3)).alloc (.cells #[.int .i64 0, .int .i64 0, .int .i64 1] 3)).alloc (.cells #[.slice (some ⟨p + 1 + 1 + 1, 0, none⟩) 3 3] 25)).alloc (.cells #[.slice (some ⟨p + 1 + 1, 0, none⟩) 1 1, .slice (some ⟨p + 1 + 1 + 1 + 1, 0, none⟩) 1 1] 28)) = W at *
  clear hW
  have hbv : Below W.heap.size W (W.alloc (.cells #[.int .u32 5] 66)) := (Below.refl _ _).alloc (Nat.le_refl _) _
  have hT5 := heap_top W (.cells #[.int .u32 5] 66)
  have hzv : (W.alloc (.cells #[.int .u32 5] 66)).heap.size = p + 7 := by simp [hz]
  have hbp : Below p W (W.alloc (.cells #[.int .u32 5] 66)) := hbv.mono (by omega)
  rw [hz] at hT5
  have HLF := Lib.hid (leaf_any 3 (some ⟨p, 0, none⟩) wl 3 (some ⟨p + 1 + 1, 0, none⟩) [2] 1 (some ⟨p + 1 + 1 + 1 + 1, 0, none⟩) (wC (p + 3)) 1 0 0 (some ⟨p + 6, 0, none⟩) [5] 1 (W.alloc (.cells #[.int .u32 5] 66)) (by decide) (by decide) (HAR.out.on hbv) (HBS.out.on hbv) (HRW.out.on hbv) (wts_one hT5) (fun i hi => by
    obtain rfl : i = 0 := by simpa using hi
    decide))
  rw [w_mx] at HLF
  have HBY : Hid (byE 3 wl [2] (csl (wC (p + 3))) 1 0 0 ([5] : List Int).length = 0) := w_by (p + 3)
  rw [HBY.out] at HLF
  have HBP := Lib.hid (HB0.out.trans hbp)
  have HLG : Hid (Calls Tryz.prog 10 #[.agg #[.int .i64 3, .slice (some ⟨p, 0, none⟩) 3 3], .agg #[.slice (some ⟨p + 1 + 1, 0, none⟩) 1 1, .slice (some ⟨p + 1 + 1 + 1 + 1, 0, none⟩) 1 1], .int .i64 0, .int .i64 0, .slice (some ⟨p + 6, 0, none⟩) 1 1] (W.alloc (.cells #[.int .u32 5] 66)) fun e w' => (∃ v c, e = .returned (.tuple #[.agg #[.int .i64 1, .int .i64 0, .int .i64 0, .slice v 4 c], .int .i64 0]) ∧ w'.ownsRow (p + 7) 47 1 (.slice v 4 c) 4 (cellsU [0, 5, 18446744073709551615, 0])) ∧ Below p w w') := by
    refine HLF.out.mono (fun e w' h => ?_)
    obtain ⟨hok, _, hb1⟩ := h
    obtain ⟨v, c, e1, hown, _⟩ := hok rfl
    rw [hzv] at hown hb1
    exact ⟨⟨v, c, e1, hown⟩, HBP.out.trans (hb1.mono (by omega))⟩
  generalize W.alloc (.cells #[.int .u32 5] 66) = V at *
  clear hbv hT5 hbp HLF HBY HBP
  refine HLG.out.mono ?_
  rintro e w1 ⟨⟨v, c, rfl, hown⟩, hb1⟩
  have HO1 := Lib.hid (dts_own (xs := [0, 5, 18446744073709551615, 0]) hown)
  have HB1 := Lib.hid hb1
  have hw1 : p ≤ w1.heap.size := by have := hb1.size; omega
  have hM := heap_top w1 (.cells #[.int .i64 1, .int .i64 0, .int .i64 0, .slice v 4 c] 39)
  have hbM : Below w1.heap.size w1 (w1.alloc (.cells #[.int .i64 1, .int .i64 0, .int .i64 0, .slice v 4 c] 39)) := (Below.refl _ _).alloc (Nat.le_refl _) _
  obtain ⟨⟨m0, m1, m2, m3⟩, _⟩ := four_cells hM
  have HBM := Lib.hid hbM
  have HOM := Lib.hid (HO1.out.on hbM)
  clear hb1 hown HLG hbM hM HAR HBS HRW HB0 HGG HNN g0 g1 n0 n1
  have hz2 : (w1.alloc (.cells #[.int .i64 1, .int .i64 0, .int .i64 0, .slice v 4 c] 39)).heap.size = w1.heap.size + 1 := by simp
  have hbD : Below (w1.heap.size + 1) (w1.alloc (.cells #[.int .i64 1, .int .i64 0, .int .i64 0, .slice v 4 c] 39)) ((w1.alloc (.cells #[.int .i64 1, .int .i64 0, .int .i64 0, .slice v 4 c] 39)).alloc (.cells #[.int .u64 0, .int .u64 5, .int .u64 18446744073709551615, .int .u64 0] 47)) := by
    rw [← hz2]
    exact (Below.refl _ _).alloc (Nat.le_refl _) _
  have hTD := heap_top (w1.alloc (.cells #[.int .i64 1, .int .i64 0, .int .i64 0, .slice v 4 c] 39)) (.cells #[.int .u64 0, .int .u64 5, .int .u64 18446744073709551615, .int .u64 0] 47)
  rw [hz2] at hTD
  have HSD := Lib.hid (sameD_any v (some ⟨w1.heap.size + 1, 0, none⟩) c 4 [0, 5, 18446744073709551615, 0] ((w1.alloc (.cells #[.int .i64 1, .int .i64 0, .int .i64 0, .slice v 4 c] 39)).alloc (.cells #[.int .u64 0, .int .u64 5, .int .u64 18446744073709551615, .int .u64 0] 47)) (by decide) (HOM.out.on (by rw [hz2]; exact hbD)) (dts_block (xs := [0, 5, 18446744073709551615, 0]) hTD))
  have HBE : Hid (Below p w ((w1.alloc (.cells #[.int .i64 1, .int .i64 0, .int .i64 0, .slice v 4 c] 39)).alloc (.cells #[.int .u64 0, .int .u64 5, .int .u64 18446744073709551615, .int .u64 0] 47))) := HB1.out.trans ((HBM.out.trans (hbD.mono (by omega))).mono hw1)
  have hz3 : p ≤ ((w1.alloc (.cells #[.int .i64 1, .int .i64 0, .int .i64 0, .slice v 4 c] 39)).alloc (.cells #[.int .u64 0, .int .u64 5, .int .u64 18446744073709551615, .int .u64 0] 47)).heap.size := by simp; omega
  clear hbD hTD
  go_wp2_with fail
  refine HSD.out.mono ?_
  rintro e w4 ⟨rfl, hb4⟩
  have HB4 : Hid (Below p w w4) := HBE.out.trans (hb4.mono hz3)
  clear hb4 HSD
  go_wp2_with fail
  go_ret
  exact ⟨rfl, HB4.out⟩
end Go.Proofs.YtpmjbeiclmllmaaGreat
