/-
  A place's matrix. byArcs's function: distances of a graph by near.From.
-/
import Derived.Test.YtpmjbeiclmllmaaXCqa
import Derived.Test.YtpmjbeiclmllmaaXNb
import Derived.Test.YtpmjbeiclmllmaaXKp
import Derived.Deep.DeepMust
namespace Go.Proofs.Ytpmjbeiclmllmaa
open Go.RowKit
/-- An arc in the words of the searches' texts. -/
def toN (x : A) : N5.A := ⟨x.f, x.t, x.w⟩
theorem toN_at {x : A} {w : World} {b o : Nat} (h : x.at w b o) : (toN x).at w b o := h
theorem mapN_getD (l : List A) (j : Nat) (hj : j < l.length) : (l.map toN).getD j N5.A.zero = toN (l.getD j A.zero) := by simp [List.getD, hj]
theorem arcs_N {w : World} {a : Option Addr} {l : List A} (h : Arcs w a l) : N5.Arcs w a (l.map toN) := by
  rcases h with rfl | ⟨b, o, rfl, hl, hc⟩
  · exact .inl rfl
  · refine .inr ⟨b, o, rfl, hl, fun j hj => ?_⟩
    have hj' : j < l.length := by simpa using hj
    rw [mapN_getD l j hj']
    exact toN_at (hc j hj')
theorem okA_N (N : Int) : (N5.okA N ∘ toN) = okA N := by funext x; rfl
theorem chkE_N (N : Int) (l : List A) : N5.chkE N (l.map toN) = chkE N l := by
  unfold N5.chkE chkE
  rw [List.length_map, List.all_map, okA_N]
/-- A graph that is right, with weights that may be. -/
def WG (n : Nat) (l : List A) : Prop := chkE n l = 0 ∧ ∀ x ∈ l, 0 ≤ x.w ∧ x.w < 4294967296
theorem WG.rg {n : Nat} {l : List A} (h : WG n l) : N5.RG n (l.map toN) := by
  obtain ⟨m, hm, hr⟩ := N5.rg_of (N := (n : Int)) (l := l.map toN) (by rw [chkE_N]; exact h.1) (fun x hx => by
    obtain ⟨y, hy, rfl⟩ := List.mem_map.1 hx
    exact h.2 y hy)
  have e : n = m := by omega
  subst e
  exact hr
/-- Distances from a vertex. -/
noncomputable def dF (wl : List A) (s : Nat) : Nat → Int := open Classical in if h : ∃ F, N5.IsD (wl.map toN) (fun _ => true) s F then h.choose else fun _ => 0
theorem dF_is {wl : List A} {s : Nat} {F : Nat → Int} (h : N5.IsD (wl.map toN) (fun _ => true) s F) : dF wl s = F := by
  unfold dF
  rw [dif_pos ⟨F, h⟩]
  exact N5.IsD.unique (Exists.choose_spec (p := fun F => N5.IsD (wl.map toN) (fun _ => true) s F) ⟨F, h⟩) h
theorem nearE_ok {n s : Nat} {l : List A} (h : chkE n l = 0) (hs : s < n) : N5.nearE n (l.map toN) [(s : Int)] = 0 := by
  unfold N5.nearE
  rw [chkE_N, if_pos h, if_pos]
  simp [N5.okV]
  omega
set_option maxRecDepth 100000 in
set_option maxHeartbeats 1600000 in
theorem byArcs1_any (n b : Nat) (wl : List A) (ga : Option Addr) (gc s : Nat) (w : World) (hW : WG n wl) (hs : s < n) (hb : w.heap[b]? = some (.cells #[.int .i64 n, .slice ga wl.length gc] 24)) (hr : Arcs w ga wl) :
    Calls Try.prog 99 #[.int .i64 s, .pointer (some ⟨b, 0, none⟩)] w fun e w' => ∃ bf, e = .returned (.slice (some ⟨bf, 0, none⟩) n n) ∧ w.heap.size ≤ bf ∧ TbV w' bf n 75 (fun v => .int .u64 (dF wl s v)) ∧ N5.IsD (wl.map toN) (fun _ => true) s (dF wl s) ∧ Below w.heap.size w w' := by
  obtain ⟨⟨c0, c1⟩, _⟩ := two_cells hb
  have HF := Lib.hid (N5.from_ok n ga (wl.map toN) gc s w hW.rg hs (nearE_ok hW.1 hs) (arcs_N hr))
  rw [List.length_map] at HF
  clear hr hb hW
  go_enter Try.func99, Try.ntmps99
  go_wp2_with fail
  refine HF.out.mono ?_
  rintro e w2 ⟨bf, rfl, F, hT, hD, _, hbf, hb2⟩
  have e := dF_is hD
  have HT : Hid (TbV w2 bf n 75 (fun v => .int .u64 (dF wl s v))) := by rw [e]; exact hT
  have HD : Hid (N5.IsD (wl.map toN) (fun _ => true) s (dF wl s)) := by rw [e]; exact hD
  have HB := Lib.hid hb2
  clear hT hD hb2 e HF c0 c1
  go_wp2_with fail
  go_ret
  exact ⟨bf, rfl, hbf, HT.out, HD.out, HB.out⟩
end Go.Proofs.Ytpmjbeiclmllmaa
namespace Go.Proofs.Ytpmjbeiclmllmaa
open Go.RowKit
/-- Distances as cells. -/
def cellsU (l : List Int) : List Value := l.map (Value.int .u64)
theorem cellsU_snoc (l : List Int) (x : Int) : cellsU l ++ [.int .u64 x] = cellsU (l ++ [x]) := by unfold cellsU; simp
theorem four_cells {w : World} {g : Nat} {a b c d : Value} {t : TypeId} (h : w.heap[g]? = some (.cells #[a, b, c, d] t)) : (w.cell? ⟨g, 0, none⟩ = some a ∧ w.cell? ⟨g, 1, none⟩ = some b ∧ w.cell? ⟨g, 2, none⟩ = some c ∧ w.cell? ⟨g, 3, none⟩ = some d) ∧ (w.frozen? ⟨g, 0, none⟩ = false ∧ w.frozen? ⟨g, 1, none⟩ = false ∧ w.frozen? ⟨g, 2, none⟩ = false ∧ w.frozen? ⟨g, 3, none⟩ = false) := by
  simp [World.cell?, World.frozen?, h]
/-- The first rows of a matrix. -/
noncomputable def mxK (wl : List A) (S : List Nat) (k : Nat) : List Int := (S.take k).flatMap (fun s => S.map (dF wl s))
noncomputable def mxL (wl : List A) (S : List Nat) : List Int := mxK wl S S.length
theorem take_snocS {S : List Nat} {k : Nat} (h : k < S.length) : S.take (k + 1) = S.take k ++ [S.getD k 0] := by
  rw [List.take_add_one]
  simp [List.getD, List.getElem?_eq_getElem h]
theorem mxK_succ {wl : List A} {S : List Nat} {k : Nat} (h : k < S.length) : mxK wl S (k + 1) = mxK wl S k ++ (S.take S.length).map (dF wl (S.getD k 0)) := by
  unfold mxK
  rw [take_snocS h, List.flatMap_append, List.take_length]
  simp
theorem mxK_len (wl : List A) (S : List Nat) (k : Nat) : (mxK wl S k).length ≤ k * S.length := by
  induction k with
  | zero => simp [mxK]
  | succ k ih =>
    by_cases h : k < S.length
    · rw [mxK_succ h, List.length_append, Nat.succ_mul]
      simp
      exact ih
    · have e : mxK wl S (k + 1) = mxK wl S k := by unfold mxK; rw [List.take_of_length_le (by omega), List.take_of_length_le (by omega)]
      rw [e, Nat.succ_mul]
      omega
theorem map_snoc {f : Nat → Int} {S : List Nat} {t : Nat} (h : t < S.length) : (S.take (t + 1)).map f = (S.take t).map f ++ [f (S.getD t 0)] := by
  rw [take_snocS h, List.map_append]
  rfl
theorem set4 {w : World} {b : Nat} {t : TypeId} {a0 a1 a2 a3 : Value} (h : w.heap[b]? = some (.cells #[a0, a1, a2, a3] t)) (u0 u1 u2 u3 : Value) : ((((w.setCell ⟨b, 0, none⟩ u0).setCell ⟨b, 1, none⟩ u1).setCell ⟨b, 2, none⟩ u2).setCell ⟨b, 3, none⟩ u3).heap[b]? = some (.cells #[u0, u1, u2, u3] t) := by
  have g1 := heap_setCell_same w b 0 _ _ u0 h
  have g2 := heap_setCell_same _ b 1 _ _ u1 g1
  have g3 := heap_setCell_same _ b 2 _ _ u2 g2
  have g4 := heap_setCell_same _ b 3 _ _ u3 g3
  rw [g4]
  simp
theorem own_set4 {w : World} {p b : Nat} {e : TypeId} {size : Nat} {v : Value} {n : Nat} {xs : List Value} (h : w.ownsRow p e size v n xs) (hb : b < p) (u0 u1 u2 u3 : Value) : ((((w.setCell ⟨b, 0, none⟩ u0).setCell ⟨b, 1, none⟩ u1).setCell ⟨b, 2, none⟩ u2).setCell ⟨b, 3, none⟩ u3).ownsRow p e size v n xs := own_set (own_set (own_set (own_set h ⟨b, 0, none⟩ u0 hb) ⟨b, 1, none⟩ u1 hb) ⟨b, 2, none⟩ u2 hb) ⟨b, 3, none⟩ u3 hb
theorem below_set4 {w w' : World} {p b : Nat} (h : Below p w w') (hb : p ≤ b) (u0 u1 u2 u3 : Value) : Below p w ((((w'.setCell ⟨b, 0, none⟩ u0).setCell ⟨b, 1, none⟩ u1).setCell ⟨b, 2, none⟩ u2).setCell ⟨b, 3, none⟩ u3) := (((h.setCell (p := ⟨b, 0, none⟩) hb u0).setCell (p := ⟨b, 1, none⟩) hb u1).setCell (p := ⟨b, 2, none⟩) hb u2).setCell (p := ⟨b, 3, none⟩) hb u3
theorem info75 : (Try.prog.info? 75).map (fun i => (i.zero, i.size, i.bytes)) = some (some (.int .u64 0), 1, 8) := by kernel_rfl
theorem wpList_append_fits {P : Program} {w : World} {ops : Array Oper} {rest : List Oper} {o : Oper} {a : Act} {Q : Exit → Act → World → Prop} (hgd : o.guard = none) (s x : Operand) (t : TypeId)
    (ho : o.op = .call { callee := .builtin .append, args := #[s, x], argTypes := #[t, t] }) (base : Nat) (e : TypeId) (i : TypeInfo) (size : Nat) (ht : P.underlying t = some (.slice e)) (hi : P.info? e = some i) (hsize : i.size = size)
    (g n cap : Nat) (xs : List Value) (hs : a.eval s = .slice (some ⟨g, 0, none⟩) n cap) (hown : w.ownsRow base e size (.slice (some ⟨g, 0, none⟩) n cap) n xs)
    (ad : Addr) (m c : Nat) (news : List Value) (hx : a.eval x = .slice (some ad) m c) (hl : news.length = m * size) (hnews : ∀ j u, news[j]? = some u → w.cell? (ad.add j) = some u) (h1 : ∀ u ∈ news, u.oneCell' = true) (hroom : n + m ≤ cap)
    (h : ∀ w', w'.ownsRow base e size (.slice (some ⟨g, 0, none⟩) (n + m : Nat) cap) (n + m) (xs ++ news) → w.grownBy w' (some g) → wpList P ops Q rest (a.put o.dst (.slice (some ⟨g, 0, none⟩) (n + m : Nat) cap)) w') : wpList P ops Q (o :: rest) a w := by
  refine wpList_plain hgd fun _ hK => ?_
  obtain ⟨w', hr, h2, h3⟩ := run_append_fits (P := P) w base t o.type e i size ht hi hsize g n cap xs hown ad m c news hl hnews h1 hroom
  unfold Oper.wp
  simp [execOp, ho, resolve, invoke, builtin, hs, hx, hr, Result.andThen]
  exact hK _ _ (h w' h2 h3)
set_option maxRecDepth 100000 in
set_option maxHeartbeats 3200000 in
theorem matrix_any (n : Nat) (a : Option Addr) (l : List A) (cap : Nat) (ba : Option Addr) (bs : List Int) (bc : Nat) (ca : Option Addr) (C : List Cl) (cc : Nat) (lv ce ep : Int) (b : Nat) (wl : List A) (ga : Option Addr) (gc : Nat) (S : List Nat) (w : World) (hE : inE n l bs (csl C) lv ce = 0) (hS : bdV n l bs (csl C) lv ce = S) (hSn : ∀ i, i < S.length → S.getD i 0 < n) (hS8 : S.length ≤ 1024) (hW : WG n wl) (hl : l.length ≤ 9223372036854775807) (hbl : bs.length ≤ 9223372036854775807) (hr : Arcs w a l) (hi : Ints w ba bs) (hR : Rws w ca C) (hb : w.heap[b]? = some (.cells #[.int .i64 n, .slice ga wl.length gc] 24)) (hrw : Arcs w ga wl) :
    Calls Try.prog 98 #[.agg #[.int .i64 n, .slice a l.length cap, .slice ba bs.length bc, .slice ca C.length cc, .int .i64 lv, .int .i64 ce], .int .i64 ep, .func (.func 99) #[] #[.pointer (some ⟨b, 0, none⟩)]] w fun e w' => ∃ v c, e = .returned (.tuple #[.agg #[.int .i64 lv, .int .i64 ce, .int .i64 ep, .slice v (mxL wl S).length c], .int .i64 0]) ∧ w'.ownsRow w.heap.size 75 1 (.slice v (mxL wl S).length c) (mxL wl S).length (cellsU (mxL wl S)) ∧ (∀ i, i < S.length → N5.IsD (wl.map toN) (fun _ => true) (S.getD i 0) (dF wl (S.getD i 0))) ∧ Below w.heap.size w w' := by
  obtain ⟨hg0, hg1, hb0, hsz⟩ := top2 w (.cells #[.int .i64 n, .slice a l.length cap, .slice ba bs.length bc, .slice ca C.length cc, .int .i64 lv, .int .i64 ce] 114) (.cells #[.int .i64 0, .int .i64 0, .int .i64 0, .slice none 0 0] 69)
  obtain ⟨c0, c1, c2, c3, c4, c5⟩ := six_cells hg0
  obtain ⟨i75, hi75, hz75, hs75, hby75⟩ := info_parts info75
  have HBD := Lib.hid (plBound_any n a l cap ba bs bc ca C cc lv ce _ hl hbl (hr.on hb0) (hi.on hb0) (hR.on hb0))
  rw [hE, hS] at HBD
  have HB0 := Lib.hid hb0
  have HG0 := Lib.hid hg0
  have HG1 := Lib.hid hg1
  have HGB : Hid (∀ W2, Below w.heap.size w W2 → ∀ s, s < n → Calls Try.prog 99 #[.int .i64 s, .pointer (some ⟨b, 0, none⟩)] W2 fun e w' => ∃ bf, e = .returned (.slice (some ⟨bf, 0, none⟩) n n) ∧ W2.heap.size ≤ bf ∧ TbV w' bf n 75 (fun v => .int .u64 (dF wl s v)) ∧ N5.IsD (wl.map toN) (fun _ => true) s (dF wl s) ∧ Below W2.heap.size W2 w') := fun W2 hb2 s hs => byArcs1_any n b wl ga gc s W2 hW hs ((hb2.block _ (lt_of_block hb)).trans hb) (hrw.on hb2)
  have HSN := Lib.hid hSn
  clear hr hi hR hb0 hg0 hg1 hE hS hW hb hrw hSn
  generalize hp : w.heap.size = p at *
  go_enter Try.func98, Try.ntmps98
  go_wp2_with fail
  generalize hWW : (w.alloc (.cells #[.int .i64 n, .slice a l.length cap, .slice ba bs.length bc, .slice ca C.length cc, .int .i64 lv, .int .i64 ce] 114)).alloc (.cells #[.int .i64 0, .int .i64 0, .int .i64 0, .slice none 0 0] 69) = W at *
  clear hWW
  refine HBD.out.mono ?_
  rintro e w1 ⟨v1, rfl, hr1, hb1⟩
  have hz1 := hb1.size
  have HB1 : Hid (Below p w w1) := HB0.out.trans (hb1.mono (by omega))
  have HK0 := Lib.hid ((hb1.block p (by omega)).trans HG0.out)
  have HK1 := Lib.hid ((hb1.block (p + 1) (by omega)).trans HG1.out)
  have HI1 := Lib.hid hr1.ints
  obtain ⟨iy, oy, hiy⟩ := hr1.ints.get
  rw [ints_len] at hiy
  have HIY := Lib.hid hiy
  have hw1 : p + 2 ≤ w1.heap.size := by omega
  clear hr1 hb1 HBD c0 c1 c2 c3 c4 c5 HB0 HG0 HG1 hiy hz1
  obtain ⟨m, HM⟩ := named S.length
  rw [HM.out] at hS8 HIY HSN
  rw [HM.out]
  have hmm : m * m ≤ 1048576 := Nat.mul_le_mul hS8 hS8
  have emm : (m : Int) * m = ((m * m : Nat) : Int) := by simp
  obtain ⟨mm, HMM⟩ := named (m * m)
  rw [HMM.out] at hmm emm
  have ewm : IntKind.i64.wrap ((m : Int) * m) = (mm : Int) := by rw [emm, IntKind.wrap_i64]; omega
  have ewn : IntKind.i64.wrap (mm : Int) = (mm : Int) := by rw [IntKind.wrap_i64]; omega
  have hmk : ∀ w, (Instr.makeSlice 67 (.int .i64 0) (.int .i64 mm)).run Try.prog w = .ok (.slice (some ⟨w.heap.size, 0, none⟩) 0 mm) (w.alloc (.cells (madeCells #[.int .u64 0] mm) 75)) := fun w => by
    have := run_make (P := Try.prog) w 67 75 i75 (.int .u64 0) Try.underlying67 hi75 hz75 .i64 .i64 0 mm (by omega) (by omega) (by rw [hby75]; omega) (by omega)
    rw [hs75] at this
    rw [this, Int.toNat_natCast, Nat.mul_one]
    rfl
  generalize hq : w1.heap.size = q at *
  have HO0 : Hid ((w1.alloc (.cells (madeCells #[.int .u64 0] mm) 75)).ownsRow q 75 1 (.slice (some ⟨q, 0, none⟩) 0 mm) 0 []) := by
    have := World.ownsRow_made (base := q) (e := 75) (size := 1) w1 (madeCells #[.int .u64 0] mm) mm (by omega) (by unfold maxLen; omega) (by rw [size_madeCells, Nat.mul_one])
    rw [hq] at this
    exact this
  have HBQ : Hid (Below q w1 (w1.alloc (.cells (madeCells #[.int .u64 0] mm) 75))) := (Below.refl _ _).alloc (by omega) _
  go_wp2_with fail
  generalize w1.alloc (.cells (madeCells #[.int .u64 0] mm) 75) = w2 at *
  clear hmk
  go_loopw [10, 33] (fun s i wr => ∃ (k : Nat) (G : List Int), k ≤ m ∧ i = .int .i64 k ∧ s = .slice (some ⟨q, 0, none⟩) G.length mm ∧ Hid (mxK wl S k = G) ∧ Hid (wr.ownsRow q 75 1 (.slice (some ⟨q, 0, none⟩) G.length mm) G.length (cellsU G)) ∧ Hid (∀ i, i < k → N5.IsD (wl.map toN) (fun _ => true) (S.getD i 0) (dF wl (S.getD i 0))) ∧ Hid (Below q w1 wr)) (fun _ i _ => m - (intOf i).toNat)
  case atStart => exact ⟨0, [], Nat.zero_le _, rfl, rfl, by show _ = _; simp [mxK], HO0, fun i hi => absurd hi (by omega), HBQ⟩
  case round =>
    clear HO0 HBQ
    obtain ⟨k, G, hk, rfl, rfl, HG, HOW, HDD, HBR⟩ := hrel
    have hwz : q ≤ wr.heap.size := by have := HBR.out.size; omega
    have hbw : Below p w wr := HB1.out.trans (HBR.out.mono (by omega))
    by_cases hlk : k < m
    · have hlk' : (k : Int) < m := by omega
      have hk0 : (0 : Int) ≤ k := by omega
      obtain ⟨rfl, hyl, hyat⟩ := HIY.out (by omega)
      have s0 := (HBR.out.cell (p := ⟨iy, oy + k, none⟩) (by show iy < q; omega)).trans (hyat k hlk)
      rw [ints_getD (by rw [HM.out]; exact hlk)] at s0
      have hsn := HSN.out k hlk
      have HSU := Lib.hid (mxK_succ (wl := wl) (S := S) (k := k) (by rw [HM.out]; exact hlk))
      rw [HM.out] at HSU
      have hkm : k * m + m ≤ mm := by
        rw [← HMM.out, ← Nat.succ_mul]
        exact Nat.mul_le_mul_right _ (by omega)
      have hGL : G.length ≤ k * m := by
        rw [← HG.out]
        have h1 := mxK_len wl S k
        rw [HM.out] at h1
        exact h1
      obtain ⟨km, HKM⟩ := named (k * m)
      rw [HKM.out] at hkm hGL
      obtain ⟨s, HSS⟩ := named (S.getD k 0)
      rw [HSS.out] at s0 hsn HSU
      have HCL := Lib.hid (HGB.out wr hbw s hsn)
      clear hyat hbw
      go_wp2_with fail
      refine HCL.out.mono ?_
      rintro e w3 ⟨bf, rfl, hbf, hT3, hD3, hb3⟩
      have HT3 := Lib.hid hT3
      have HD3 := Lib.hid hD3
      have HB3 : Hid (Below q w1 w3) := HBR.out.trans (hb3.mono hwz)
      have HO3 := Lib.hid (own_on HOW.out hb3)
      have hqr : q < wr.heap.size := (HOW.out.lt q rfl).2
      have hbq : bf ≠ q := by omega
      clear hT3 hD3 hb3 HCL s0
      go_wp2_with fail
      have HG0 := HG
      generalize G = G0 at *
      clear HOW HBR
      generalize hw3 : w3.heap.size = q3 at *
      generalize wr.heap.size = qr at *
      clear wr
      go_loopw [10, 42] (fun s' i wr => ∃ (t : Nat) (G : List Int), t ≤ m ∧ i = .int .i64 t ∧ s' = .slice (some ⟨q, 0, none⟩) G.length mm ∧ G.length ≤ km + t ∧ Hid (G0 ++ (S.take t).map (dF wl s) = G) ∧ Hid (wr.ownsRow q 75 1 (.slice (some ⟨q, 0, none⟩) G.length mm) G.length (cellsU G)) ∧ Hid (TbV wr bf n 75 (fun v => .int .u64 (dF wl s v))) ∧ Hid (Below q w1 wr)) (fun _ i _ => m - (intOf i).toNat)
      case atStart => exact ⟨0, G0, Nat.zero_le _, rfl, rfl, by omega, by show _ = _; simp, HO3, HT3, HB3⟩
      case round =>
        clear HO3 HT3 HB3
        obtain ⟨t, G, ht, rfl, rfl, hGL2, HG, HOW, HTR, HBR⟩ := hrel
        have hwz : q ≤ wr.heap.size := by have := HBR.out.size; omega
        by_cases hlt : t < m
        · have hlt' : (t : Int) < m := by omega
          have ht0 : (0 : Int) ≤ t := by omega
          obtain ⟨_, hyl, hyat⟩ := HIY.out (by omega)
          have s0 := (HBR.out.cell (p := ⟨iy, oy + t, none⟩) (by show iy < q; omega)).trans (hyat t hlt)
          rw [ints_getD (by rw [HM.out]; exact hlt)] at s0
          have htn := HSN.out t hlt
          have HMS := Lib.hid (map_snoc (f := dF wl s) (S := S) (t := t) (by rw [HM.out]; exact hlt))
          obtain ⟨x, HX⟩ := named (S.getD t 0)
          rw [HX.out] at s0 htn HMS
          have f0 : wr.cell? ⟨bf, x, none⟩ = some (.int .u64 (dF wl s x)) := HTR.out.cell htn
          obtain ⟨y, HY⟩ := named (dF wl s x)
          rw [HY.out] at f0 HMS
          have hx' : (x : Int) < n := by omega
          have hx0 : (0 : Int) ≤ x := by omega
          have HG2 : Hid (G0 ++ (S.take (t + 1)).map (dF wl s) = G ++ [y]) := by show _ = _; rw [HMS.out, ← HG.out, List.append_assoc]
          have HNW : Hid (∀ j u, [Value.int .u64 y][j]? = some u → (wr.alloc (.cells #[.int .u64 y] 75)).cell? ((⟨wr.heap.size, 0, none⟩ : Addr).add j) = some u) := by
            intro j u hu
            match j, hu with
            | 0, hu => simp at hu; subst hu; simp [Addr.add]
          have HO3 := Lib.hid (HOW.out.alloc (.cells #[.int .u64 y] 75))
          have HBZ : Hid (q ≤ (wr.alloc (.cells #[.int .u64 y] 75)).heap.size) := by show _ ≤ _; rw [World.size_alloc]; omega
          have HBB : Hid (Below q w1 (wr.alloc (.cells #[.int .u64 y] 75))) := HBR.out.alloc (by omega) _
          have HCA : Hid (cellsU G ++ [.int .u64 y] = cellsU (G ++ [y])) := cellsU_snoc G y
          have HTA : Hid (TbV (wr.alloc (.cells #[.int .u64 y] 75)) bf n 75 (fun v => .int .u64 (dF wl s v))) := HTR.out.same (Below.heap_alloc _ _ _ HTR.out.lt)
          clear hyat
          go_wp2_with (at_builtin; go_must (refine wpList_append_fits rfl (.tmp 46) (.tmp 51) 67 rfl q 75 i75 1 Try.underlying67 hi75 hs75 q G.length mm (cellsU G) rfl HO3.out ⟨wr.heap.size, 0, none⟩ 1 1 [.int .u64 y] rfl rfl HNW.out (by intro u hu; simp at hu; subst hu; rfl) (by omega) ?_; intro w6 hown6 hgrow6; rw [HCA.out] at hown6; have h7 : w6.ownsRow q 75 1 (.slice (some ⟨q, 0, none⟩) (G ++ [y]).length mm) (G ++ [y]).length (cellsU (G ++ [y])) := (by rw [List.length_append]; exact hown6); have HO7 := Lib.hid h7; have HB6 : Hid (Below q w1 w6) := HBB.out.grown hgrow6 HBZ.out (fun j hj => by have := Option.some.inj hj; omega); have HGR6 := Lib.hid hgrow6; clear hown6 h7 hgrow6))
          have HT6 : Hid (TbV w6 bf n 75 (fun v => .int .u64 (dF wl s v))) := HTA.out.same (HGR6.out.block bf HTA.out.lt (fun h => hbq (Option.some.inj h)))
          exact ⟨⟨t + 1, G ++ [y], by omega, by simp, by rw [List.length_append]; rfl, by rw [List.length_append]; simp; omega, HG2, HO7, HT6, HB6⟩, by simp [intOf]; omega⟩
        · have hlt' : ¬ (t : Int) < m := by omega
          obtain rfl : t = m := by omega
          have HG3 : Hid (mxK wl S (k + 1) = G) := by show _ = _; rw [HSU.out, HG0.out, HG.out]
          have HD4 : Hid (∀ i, i < k + 1 → N5.IsD (wl.map toN) (fun _ => true) (S.getD i 0) (dF wl (S.getD i 0))) := fun i hi => by
            by_cases h : i < k
            · exact HDD.out i h
            · have e : i = k := by omega
              rw [e, HSS.out]
              exact HD3.out
          go_wp2_with fail
          exact ⟨⟨k + 1, G, by omega, by simp, rfl, HG3, HOW, HD4, HBR⟩, by simp [intOf]; omega⟩
    · have hlk' : ¬ (k : Int) < m := by omega
      obtain rfl : k = m := by omega
      have HGF : Hid (mxL wl S = G) := by show _ = _; unfold mxL; rw [HM.out]; exact HG.out
      have hG0 := (HBR.out.block p (by omega)).trans HK0.out
      obtain ⟨e0, e1, e2, e3, e4, e5⟩ := six_cells hG0
      have hG1 := (HBR.out.block (p + 1) (by omega)).trans HK1.out
      obtain ⟨⟨d0, d1, d2, d3⟩, f0, f1, f2, f3⟩ := four_cells hG1
      have HBW := Lib.hid hbw
      clear hbw
      have HR4 := Lib.hid (four_cells (set4 hG1 (.int .i64 lv) (.int .i64 ce) (.int .i64 ep) (.slice (some ⟨q, 0, none⟩) G.length mm))).1
      have HO4 := Lib.hid (own_base (own_set4 HOW.out (show p + 1 < q by omega) (.int .i64 lv) (.int .i64 ce) (.int .i64 ep) (.slice (some ⟨q, 0, none⟩) G.length mm)) (show p ≤ q by omega))
      have HB4 := Lib.hid (below_set4 HBW.out (show p ≤ p + 1 by omega) (.int .i64 lv) (.int .i64 ce) (.int .i64 ep) (.slice (some ⟨q, 0, none⟩) G.length mm))
      clear hG0 hG1
      go_wp2_with fail
      obtain ⟨r0, r1, r2, r3⟩ := HR4.out
      rw [HGF.out, HM.out]
      refine bodyPost_ret (v := .tuple #[.agg #[.int .i64 lv, .int .i64 ce, .int .i64 ep, .slice (some ⟨q, 0, none⟩) G.length mm], .int .i64 0]) (by simp [results, Try.results98, go_sem, r0, r1, r2, r3]) rfl ?_
      exact ⟨_, _, rfl, HO4.out, HDD.out, HB4.out⟩
end Go.Proofs.Ytpmjbeiclmllmaa
