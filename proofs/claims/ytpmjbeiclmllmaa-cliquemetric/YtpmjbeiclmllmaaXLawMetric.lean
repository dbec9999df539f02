/-
  CliqueMetric: the walk.
-/
import Derived.Test.YtpmjbeiclmllmaaXCqf
import Derived.Test.YtpmjbeiclmllmaaXCec
import Derived.Deep.RegionHeld3
namespace Go.Proofs.Ytpmjbeiclmllmaa
open Go.RowKit
theorem fiveM_cells {w : World} {g : Nat} {a b c d e : Value} {t : TypeId} (h : w.heap[g]? = some (.cells #[a, b, c, d, e] t)) : w.cell? ⟨g, 0, none⟩ = some a ∧ w.cell? ⟨g, 1, none⟩ = some b ∧ w.cell? ⟨g, 2, none⟩ = some c := by
  simp [World.cell?, h]
theorem wkM_le {l l' : List N5.A} {ok : Nat → Bool} {s v : Nat} {d : Int} (hm : ∀ y ∈ l', y ∈ l) (h : N5.Wk l' ok s v d) : N5.Wk l ok s v d := by
  induction h with
  | nil e => exact N5.Wk.nil e
  | snoc hx _ ho ih => exact N5.Wk.snoc (hm _ hx) ih ho
theorem wk_app {l : List N5.A} {s u v : Nat} {d d' : Int} (h : N5.Wk l (fun _ => true) s u d) (k : N5.Wk l (fun _ => true) u v d') : N5.Wk l (fun _ => true) s v (d + d') := by
  induction k with
  | nil _ => rw [Int.add_zero]; exact h
  | snoc hx _ ho ih => rw [← Int.add_assoc]; exact N5.Wk.snoc hx ih ho
/-- What is so of distances within some arcs. -/
theorem d_sub {l l' : List N5.A} {s : Nat} {F G : Nat → Int} (hm : ∀ y ∈ l', y ∈ l) (h : N5.IsD l (fun _ => true) s F) (k : N5.IsD l' (fun _ => true) s G) (v : Nat) : F v ≤ G v := by
  by_cases e : G v < N5.Inf
  · exact h.le v _ (wkM_le hm (k.wk v e))
  · have := h.hi v
    omega
theorem d_self {l : List N5.A} {s : Nat} {F : Nat → Int} (h : N5.IsD l (fun _ => true) s F) : F s = 0 := by
  have h1 := h.le s 0 (N5.Wk.nil rfl)
  have h2 := h.lo s
  omega
theorem d_tri {l : List N5.A} {s u : Nat} {F G : Nat → Int} (h : N5.IsD l (fun _ => true) s F) (k : N5.IsD l (fun _ => true) u G) (v : Nat) : F v ≤ N5.sat (F u) (G v) := by
  refine N5.sat_ge ?_ (h.hi v)
  by_cases e1 : F u < N5.Inf
  · by_cases e2 : G v < N5.Inf
    · exact h.le v _ (wk_app (h.wk u e1) (k.wk v e2))
    · have h1 := h.hi v
      have h2 := h.lo u
      omega
  · have h1 := h.hi v
    have h2 := k.lo v
    omega
theorem wi_mem {l : List A} {ids : List Nat} (hid : ∀ i, i < ids.length → ids.getD i 0 < l.length) : ∀ y ∈ (wiL l ids).map toN, y ∈ l.map toN := by
  intro y hy
  obtain ⟨z, hz, rfl⟩ := List.mem_map.1 hy
  unfold wiL wgL at hz
  obtain ⟨i, hi, rfl⟩ := List.mem_map.1 hz
  have hi' : i < ids.length := by simpa using hi
  refine List.mem_map.2 ⟨l.getD (ids.getD i 0) A.zero, ?_, ?_⟩
  · have h1 := hid i hi'
    generalize ids.getD i 0 = j at *
    rw [show l.getD j A.zero = l[j] by simp [List.getD, List.getElem?_eq_getElem h1]]
    exact List.getElem_mem h1
  · unfold wgA toN
    rw [wtL_at (by rw [ints_len]; exact hi'), ints_getD hi', Int.toNat_natCast]
theorem mxK_len2 {wl : List A} {S : List Nat} {k : Nat} (hk : k ≤ S.length) : (mxK wl S k).length = k * S.length := by
  induction k with
  | zero => simp [mxK]
  | succ k ih => rw [mxK_succ (by omega), List.length_append, ih (by omega), Nat.succ_mul]; simp
theorem mxK_at {wl : List A} {S : List Nat} {k i j : Nat} (hk : k ≤ S.length) (hi : i < k) (hj : j < S.length) : (mxK wl S k).getD (i * S.length + j) 0 = dF wl (S.getD i 0) (S.getD j 0) := by
  induction k with
  | zero => omega
  | succ k ih =>
    rw [mxK_succ (by omega)]
    have hl := mxK_len2 (wl := wl) (S := S) (k := k) (by omega)
    by_cases h : i < k
    · have h1 : i * S.length + j < (mxK wl S k).length := by
        rw [hl]
        have : (i + 1) * S.length ≤ k * S.length := Nat.mul_le_mul_right _ (by omega)
        rw [Nat.succ_mul] at this
        omega
      rw [show (mxK wl S k ++ (S.take S.length).map (dF wl (S.getD k 0))).getD (i * S.length + j) 0 = (mxK wl S k).getD (i * S.length + j) 0 by simp only [List.getD, List.getElem?_append_left h1]]
      exact ih (by omega) h
    · obtain rfl : i = k := by omega
      have h1 : (mxK wl S i).length ≤ i * S.length + j := by rw [hl]; omega
      rw [show (mxK wl S i ++ (S.take S.length).map (dF wl (S.getD i 0))).getD (i * S.length + j) 0 = ((S.take S.length).map (dF wl (S.getD i 0))).getD (i * S.length + j - (mxK wl S i).length) 0 by simp only [List.getD, List.getElem?_append_right h1]]
      rw [hl, Nat.add_sub_cancel_left, List.take_length]
      simp [List.getD, hj]
theorem fromF_any (n : Nat) (a : Option Addr) (l : List A) (cap s : Nat) (w : World) (hW : WG n l) (hs : s < n) (hr : Arcs w a l) :
    Calls Try.prog 42 #[.agg #[.int .i64 n, .slice a l.length cap], .int .i64 s] w fun e w' => ∃ bf, e = .returned (.tuple #[.slice (some ⟨bf, 0, none⟩) n n, .int .i64 0]) ∧ w.heap.size ≤ bf ∧ TbV w' bf n 75 (fun v => .int .u64 (dF l s v)) ∧ N5.IsD (l.map toN) (fun _ => true) s (dF l s) ∧ Below w.heap.size w w' := by
  have h := N5.from_ok n a (l.map toN) cap s w hW.rg hs (nearE_ok hW.1 hs) (arcs_N hr)
  rw [List.length_map] at h
  refine h.mono (fun e w2 h2 => ?_)
  obtain ⟨bf, e1, F, hT, hD, _, hbf, hb2⟩ := h2
  have e := dF_is hD
  exact ⟨bf, e1, hbf, by rw [e]; exact hT, by rw [e]; exact hD, hb2⟩
/-- What is known of a matrix. -/
structure MxI (n m mm : Nat) (l wl : List A) (S : List Nat) (X : List Int) : Prop where
  len : X.length = mm
  at_ : ∀ i j, i < m → j < m → X.getD (i * m + j) 0 = dF wl (S.getD i 0) (S.getD j 0)
  ix : ∀ i j, i < m → j < m → i * m + j < mm
  is : ∀ i, i < m → N5.IsD (wl.map toN) (fun _ => true) (S.getD i 0) (dF wl (S.getD i 0))
  sn : ∀ i, i < m → S.getD i 0 < n
  mem : ∀ y ∈ wl.map toN, y ∈ l.map toN
set_option maxRecDepth 100000 in
set_option maxHeartbeats 6400000 in
theorem metric_any (N : Int) (a : Option Addr) (l : List A) (cap : Nat) (ba : Option Addr) (bs : List Int) (bc : Nat) (ca : Option Addr) (C : List Cl) (cc : Nat) (lv ce ep : Int) (y x : Value) (w : World) (hl : l.length ≤ 9223372036854775807) (hbl : bs.length ≤ 9223372036854775807) (hr : Arcs w a l) (hi : Ints w ba bs) (hR : Rws w ca C) (hwt : ∀ x ∈ l, 0 ≤ x.w ∧ x.w < 4294967296) :
    Calls Try.prog 9 #[.agg #[.int .i64 N, .slice a l.length cap], .agg #[.slice ba bs.length bc, .slice ca C.length cc], .agg #[.int .i64 lv, .int .i64 ce, .int .i64 ep, y, x]] w fun e w' => e = .returned (.bool true) ∧ Below w.heap.size w w' := by
  obtain ⟨hg0, hg1, hg2, hb0, hsz⟩ := top3 w (.cells #[.int .i64 N, .slice a l.length cap] 24) (.cells #[.slice ba bs.length bc, .slice ca C.length cc] 28) (.cells #[.int .i64 lv, .int .i64 ce, .int .i64 ep, y, x] 66)
  have HGN0 : Hid (GN (((w.alloc (.cells #[.int .i64 N, .slice a l.length cap] 24)).alloc (.cells #[.slice ba bs.length bc, .slice ca C.length cc] 28)).alloc (.cells #[.int .i64 lv, .int .i64 ce, .int .i64 ep, y, x] 66)) w.heap.size N a l cap ba bs bc ca C cc) := ⟨hg0, hg1, hr.on hb0, hi.on hb0, hR.on hb0⟩
  have HB0 := Lib.hid hb0
  have HG2 := Lib.hid hg2
  have HWT := Lib.hid hwt
  clear hr hi hR hb0 hg0 hg1 hg2 hwt
  generalize hp : w.heap.size = p at *
  go_enter Try.func9, Try.ntmps9
  go_wp2_with fail
  generalize hWW : (((w.alloc (.cells #[.int .i64 N, .slice a l.length cap] 24)).alloc (.cells #[.slice ba bs.length bc, .slice ca C.length cc] 28)).alloc (.cells #[.int .i64 lv, .int .i64 ce, .int .i64 ep, y, x] 66)) = W at *
  clear hWW
  have HXC : Hid (∀ wr, Below W.heap.size W wr → (wr.cell? ⟨p, 0, none⟩ = some (.int .i64 N) ∧ wr.cell? ⟨p, 1, none⟩ = some (.slice a l.length cap) ∧ wr.cell? ⟨p + 1, 0, none⟩ = some (.slice ba bs.length bc) ∧ wr.cell? ⟨p + 1, 1, none⟩ = some (.slice ca C.length cc)) ∧ wr.cell? ⟨p + 1 + 1, 0, none⟩ = some (.int .i64 lv) ∧ wr.cell? ⟨p + 1 + 1, 1, none⟩ = some (.int .i64 ce) ∧ wr.cell? ⟨p + 1 + 1, 2, none⟩ = some (.int .i64 ep)) := fun wr hb => by
    obtain ⟨j0, j1, j2⟩ := fiveM_cells ((hb.block _ (lt_of_block HG2.out)).trans HG2.out)
    exact ⟨(HGN0.out.on hb).cells, j0, j1, j2⟩
  have HGS : Hid (∀ wr, Below W.heap.size W wr → GN wr p N a l cap ba bs bc ca C cc) := fun wr hb => HGN0.out.on hb
  have HEND : Hid (∀ wr, Below W.heap.size W wr → Below p w wr) := fun wr h => HB0.out.trans (h.mono (by omega))
  have hpW : p + 3 ≤ W.heap.size := by omega
  clear HB0 HGN0 HG2
  refine (works13_any W).mono ?_
  rintro e w1 ⟨rfl, hb1⟩
  have HB1 := Lib.hid hb1
  clear hb1
  obtain ⟨⟨q0, q1, q2, q3⟩, q4, q5, q6⟩ := HXC.out w1 HB1.out
  have HLR := Lib.hid (large3_any N a l cap w1 hl (HGS.out w1 HB1.out).arcs)
  obtain ⟨V, HV⟩ := named (lgB N l)
  rw [HV.out] at HLR
  go_wp2_with fail
  refine HLR.out.mono ?_
  rintro e w2 ⟨rfl, hb2⟩
  have HB2 : Hid (Below W.heap.size W w2) := HB1.out.trans (hb2.mono HB1.out.size)
  clear hb2 HLR q0 q1 q2 q3 q4 q5 q6
  rcases V with _ | _
  rotate_left
  · go_wp2_with fail
    go_ret
    exact ⟨rfl, HEND.out _ HB2.out⟩
  obtain ⟨⟨q0, q1, q2, q3⟩, q4, q5, q6⟩ := HXC.out w2 HB2.out
  have s1 := HGS.out w2 HB2.out
  have HLF := Lib.hid (whole_any N a l cap ba bs bc ca C cc lv ce ep w2 hl hbl s1.arcs s1.ints s1.rws HWT.out)
  obtain ⟨B, HBB⟩ := named (whE N l bs (csl C) lv ce ep)
  rw [HBB.out] at HLF
  clear s1
  go_wp2_with fail
  refine HLF.out.mono ?_
  rintro e w3 ⟨hok, hno, hb3⟩
  have HB3 : Hid (Below W.heap.size W w3) := HB2.out.trans (hb3.mono HB2.out.size)
  clear HLF q0 q1 q2 q3 q4 q5 q6
  by_cases h1 : B = 0
  rotate_left
  · obtain rfl := hno h1
    have e1 : (B != 0) = true := by simpa using h1
    have hM := heap_top w3 (.cells #[.int .i64 0, .int .i64 0, .int .i64 0, .slice none 0 0] 69)
    obtain ⟨⟨m0, m1, m2, m3⟩, _⟩ := four_cells hM
    have HB4 : Hid (Below W.heap.size W (w3.alloc (.cells #[.int .i64 0, .int .i64 0, .int .i64 0, .slice none 0 0] 69))) := HB3.out.alloc HB3.out.size _
    clear hok hno hM hb3
    go_wp2_with fail
    go_ret
    exact ⟨rfl, HEND.out _ HB4.out⟩
  subst h1
  obtain ⟨v, c, rfl, hown, hD⟩ := hok rfl
  clear hok hno
  have hE0 : inE N l bs (csl C) lv ce = 0 := by
    have := HBB.out
    unfold whE at this
    split at this
    · rename_i h3; exact absurd this h3
    · rename_i h3; simpa using h3
  obtain ⟨n, rfl, hC0, hid, h8, hSn⟩ := by_facts hE0
  have hm8 : (bdV n l bs (csl C) lv ce).length ≤ 1024 := bd_len
  have hDX := dts_own hown
  have HE0 := Lib.hid hE0
  obtain ⟨ids, HID⟩ := named (inV n l bs (csl C) lv ce)
  obtain ⟨S, HS⟩ := named (bdV n l bs (csl C) lv ce)
  rw [HID.out, HS.out] at hD hDX
  rw [HID.out] at hid h8
  rw [HS.out] at hSn hm8
  rw [HID.out, HS.out]
  have hmm : S.length * S.length ≤ 1048576 := Nat.mul_le_mul hm8 hm8
  have HMI : Hid (MxI n S.length (S.length * S.length) l (wiL l ids) S (mxL (wiL l ids) S)) := ⟨mxK_len2 (Nat.le_refl _), fun i j hi hj => mxK_at (Nat.le_refl _) hi hj, fun i j hi hj => by
    have : (i + 1) * S.length ≤ S.length * S.length := Nat.mul_le_mul_right _ (by omega)
    rw [Nat.succ_mul] at this
    omega, hD, hSn, wi_mem hid⟩
  obtain ⟨X, HX⟩ := named (mxL (wiL l ids) S)
  rw [HX.out] at hDX HMI
  rw [HX.out]
  have HC0 := Lib.hid hC0
  obtain ⟨wl', HWL⟩ := named (wiL l ids)
  rw [HWL.out] at HMI
  have hM := heap_top w3 (.cells #[.int .i64 lv, .int .i64 ce, .int .i64 ep, .slice v X.length c] 69)
  have hbM : Below w3.heap.size w3 (w3.alloc (.cells #[.int .i64 lv, .int .i64 ce, .int .i64 ep, .slice v X.length c] 69)) := (Below.refl _ _).alloc (Nat.le_refl _) _
  have HB4 : Hid (Below W.heap.size W (w3.alloc (.cells #[.int .i64 lv, .int .i64 ce, .int .i64 ep, .slice v X.length c] 69))) := HB3.out.trans (hbM.mono HB3.out.size)
  have HDX := Lib.hid (hDX.on hbM)
  have HM := Lib.hid hM
  have hz3 : W.heap.size ≤ w3.heap.size := HB3.out.size
  have hz4 : (w3.alloc (.cells #[.int .i64 lv, .int .i64 ce, .int .i64 ep, .slice v X.length c] 69)).heap.size = w3.heap.size + 1 := by simp
  obtain ⟨⟨q0, q1, q2, q3⟩, q4, q5, q6⟩ := HXC.out _ HB4.out
  have s1 := HGS.out _ HB4.out
  have HBD := Lib.hid (boundary_any n a l cap ba bs bc ca C cc lv ce _ hl hbl s1.arcs s1.ints s1.rws)
  rw [HE0.out, HS.out] at HBD
  clear hown hDX hD hM hbM hb3 s1 hid h8 hSn hC0 hE0
  go_wp2_with fail
  generalize w3.alloc (.cells #[.int .i64 lv, .int .i64 ce, .int .i64 ep, .slice v X.length c] 69) = w4 at *
  refine HBD.out.mono ?_
  rintro e w5 ⟨v5, rfl, hr5, hb5⟩
  have HB5 : Hid (Below W.heap.size W w5) := HB4.out.trans (hb5.mono HB4.out.size)
  have HD5 := Lib.hid (HDX.out.on hb5)
  have HM5 := Lib.hid ((hb5.block _ (lt_of_block HM.out)).trans HM.out)
  have HI5 := Lib.hid hr5.ints
  obtain ⟨iy, oy, hiy⟩ := hr5.ints.get
  rw [ints_len] at hiy
  have HIY := Lib.hid hiy
  obtain ⟨ix, ox, hix⟩ := HD5.out.get
  have HIX := Lib.hid hix
  clear hr5 hb5 HBD HDX HM HB4 hiy hix q0 q1 q2 q3 q4 q5 q6 hz4
  generalize w3.heap.size = qm at *
  obtain ⟨m, HML⟩ := named S.length
  rw [HML.out] at hmm hm8 HMI HIY
  rw [HML.out]
  have HSG : Hid (∀ j, j < m → (ints S).getD j 0 = (S.getD j 0 : Nat)) := fun j hj => ints_getD (by rw [HML.out]; exact hj)
  obtain ⟨mm, HMM⟩ := named (m * m)
  rw [HMM.out] at hmm HMI
  have hXl : X.length = mm := HMI.out.len
  have emm : (m : Int) * m = (mm : Int) := by rw [← HMM.out]; simp
  have ewm : IntKind.i64.wrap ((m : Int) * m) = (mm : Int) := by rw [emm, IntKind.wrap_i64]; omega
  have ewn : IntKind.i64.wrap (mm : Int) = (mm : Int) := by rw [IntKind.wrap_i64]; omega
  obtain ⟨⟨_, _, _, k3⟩, _⟩ := four_cells HM5.out
  rw [hXl] at k3 HIX HM5
  have bl : ((mm : Int) != (mm : Int)) = false := by simp
  have HXL := Lib.hid hXl
  clear hXl
  have HP : Hid (∀ wr, Below w5.heap.size w5 wr → wr.cell? ⟨qm, 3, none⟩ = some (.slice v mm c) ∧ (∀ j, j < m → v5 = some ⟨iy, oy, none⟩ ∧ wr.cell? ⟨iy, oy + j, none⟩ = some (.int .i64 (S.getD j 0 : Nat)) ∧ iy < w5.heap.size) ∧ (∀ t, t < mm → v = some ⟨ix, ox, none⟩ ∧ wr.cell? ⟨ix, ox + t, none⟩ = some (.int .u64 (X.getD t 0)))) := fun wr hb => by
    refine ⟨(four_cells ((hb.block _ (lt_of_block HM5.out)).trans HM5.out)).1.2.2.2, fun j hj => ?_, fun t ht => ?_⟩
    · obtain ⟨h1, h2, h3⟩ := HIY.out (by omega)
      refine ⟨h1, ?_, h2⟩
      rw [← HSG.out j hj]
      exact (hb.cell (p := ⟨iy, oy + j, none⟩) h2).trans (h3 j hj)
    · obtain ⟨h1, h2, h3⟩ := HIX.out (by omega)
      exact ⟨h1, (hb.cell (p := ⟨ix, ox + t, none⟩) h2).trans (h3 t ht)⟩
  have HWGL : Hid (WG n l) := ⟨HC0.out, HWT.out⟩
  have HZ : Hid (∀ wr, Below w5.heap.size w5 wr → Below W.heap.size W wr) := fun wr hb => HB5.out.trans (hb.mono HB5.out.size)
  go_wp2_with fail
  clear HM5 HIX HIY HD5 HI5 k3
  go_loopw [63] (fun t wr => ∃ (i : Nat), i ≤ m ∧ t = .int .i64 i ∧ Hid (Below w5.heap.size w5 wr)) (fun t _ => m - (intOf t).toNat)
  case atStart => exact ⟨0, Nat.zero_le _, rfl, Below.refl _ _⟩
  case round =>
    obtain ⟨i, hi', rfl, HBR⟩ := hrel
    by_cases hlk : i < m
    · have hlk' : (i : Int) < m := by omega
      have hi0 : (0 : Int) ≤ i := by omega
      obtain ⟨f0, f1, f2⟩ := HP.out wr HBR.out
      obtain ⟨rfl, s0, hiyl⟩ := f1 i hlk
      have hsn := HMI.out.sn i hlk
      have HIS := Lib.hid (HMI.out.is i hlk)
      have hii := HMI.out.ix i i hlk hlk
      obtain ⟨rfl, x0⟩ := f2 (i * m + i) hii
      have HAT := Lib.hid (HMI.out.at_ i i hlk hlk)
      have HATJ : Hid (∀ j, j < m → X.getD (i * m + j) 0 = dF wl' (S.getD i 0) (S.getD j 0)) := fun j hj => HMI.out.at_ i j hlk hj
      have HIXJ : Hid (∀ j, j < m → i * m + j < mm) := fun j hj => HMI.out.ix i j hlk hj
      obtain ⟨s, HSS⟩ := named (S.getD i 0)
      rw [HSS.out] at s0 hsn HIS HAT HATJ
      obtain ⟨im, HIM⟩ := named (i * m)
      have eim : ((i : Int) * (m : Int)) = (im : Int) := by rw [← HIM.out]; simp
      have wim : IntKind.i64.wrap ((i : Int) * (m : Int)) = (im : Int) := by rw [eim, IntKind.wrap_i64]; omega
      have uim : IntKind.i64.wrap (im : Int) = (im : Int) := by rw [IntKind.wrap_i64]; omega
      rw [HIM.out] at hii x0 HAT HATJ HIXJ
      obtain ⟨ii, HII⟩ := named (im + i)
      have eii : ((im : Int) + (i : Int)) = (ii : Int) := by rw [← HII.out]; simp
      have wii : IntKind.i64.wrap ((im : Int) + (i : Int)) = (ii : Int) := by rw [eii, IntKind.wrap_i64]; omega
      have uii : IntKind.i64.wrap (ii : Int) = (ii : Int) := by rw [IntKind.wrap_i64]; omega
      have lii : (ii : Int) < mm := by omega
      have zii : (0 : Int) ≤ ii := by omega
      rw [HII.out] at hii x0 HAT
      rw [HAT.out, d_self HIS.out] at x0
      obtain ⟨⟨q0, q1, q2, q3⟩, q4, q5, q6⟩ := HXC.out wr (HZ.out wr HBR.out)
      have HQ0 := Lib.hid q0
      have HQ1 := Lib.hid q1
      have HS0 := Lib.hid s0
      have hpw5 : p + 3 ≤ w5.heap.size := by have := HB5.out.size; omega
      have hwr5 := HBR.out.size
      have HFR : Hid (Calls Try.prog 42 #[.agg #[.int .i64 n, .slice a l.length cap], .int .i64 s] wr.drew fun e w' => ∃ bf, e = .returned (.tuple #[.slice (some ⟨bf, 0, none⟩) n n, .int .i64 0]) ∧ wr.heap.size ≤ bf ∧ TbV w' bf n 75 (fun v => .int .u64 (dF l s v)) ∧ N5.IsD (l.map toN) (fun _ => true) s (dF l s) ∧ Below wr.heap.size wr w') := by
        have hbd : Below wr.heap.size wr wr.drew := (Below.refl _ _).drew
        refine (fromF_any n a l cap s wr.drew HWGL.out hsn (((HGS.out wr (HZ.out wr HBR.out)).arcs).on hbd)).mono (fun e w' h => ?_)
        obtain ⟨bf, e1, h1, h2, h3, h4⟩ := h
        exact ⟨bf, e1, h1, h2, h3, hbd.trans h4⟩
      have HX0 := Lib.hid x0
      clear x0 f0 f1 f2 q2 q3 q4 q5 q6
      go_wp2_with fail
      go_region_held3 (fun w' => w'.cell? ⟨p, 0, none⟩ = some (.int .i64 n) ∧ w'.cell? ⟨p, 1, none⟩ = some (.slice a l.length cap) ∧ w'.cell? ⟨iy, oy + i, none⟩ = some (.int .i64 s)) (go_keep) ((go_at_call 42; refine HFR.out.mono ?_; rintro e w6 ⟨bf, rfl, hbf, hT6, hD6, hb6⟩; have v0 := (hb6.cell (p := ⟨p, 0, none⟩) (by show p < _; omega)).trans HQ0.out; have v1 := (hb6.cell (p := ⟨p, 1, none⟩) (by show p < _; omega)).trans HQ1.out; have v2 := (hb6.cell (p := ⟨iy, oy + i, none⟩) (by show iy < _; omega)).trans HS0.out; have HB6 : Hid (Below w5.heap.size w5 w6) := HBR.out.trans (hb6.mono HBR.out.size); have HT6 := Lib.hid hT6; have HD6 := Lib.hid hD6; clear hb6 hT6 hD6))
      clear HFR HQ0 HQ1 HS0 v0 v1 v2 q0 q1 s0
      have k3 := (HP.out w6 HB6.out).1
      have k6 := ((HP.out w6 HB6.out).2.2 ii hii).2
      have HEQ0 : Hid (X.getD ii 0 = 0) := by show _ = _; rw [HAT.out, d_self HIS.out]
      rw [HEQ0.out] at k6
      go_wp2_with fail
      go_loopw [90] (fun t wr => ∃ (j d : Nat), j ≤ m ∧ t = .int .i64 j ∧ wr = w6.drewN d) (fun t _ => m - (intOf t).toNat)
      case atStart => exact ⟨0, 0, Nat.zero_le _, rfl, rfl⟩
      case round =>
        obtain ⟨j, d, hj', rfl, rfl⟩ := hrel
        by_cases hlj : j < m
        · have hlj' : (j : Int) < m := by omega
          have hj0 : (0 : Int) ≤ j := by omega
          have hij := HIXJ.out j hlj
          have HAJ := Lib.hid (HATJ.out j hlj)
          have htn := HMI.out.sn j hlj
          have HISJ := Lib.hid (fun k hk => HMI.out.is k hk)
          obtain ⟨_, t0, _⟩ := (HP.out w6 HB6.out).2.1 j hlj
          have x0 := ((HP.out w6 HB6.out).2.2 (im + j) hij).2
          obtain ⟨t, HTT⟩ := named (S.getD j 0)
          rw [HTT.out] at t0 htn HAJ
          obtain ⟨ij, HIJ⟩ := named (im + j)
          have eij : ((im : Int) + (j : Int)) = (ij : Int) := by rw [← HIJ.out]; simp
          have wij : IntKind.i64.wrap ((im : Int) + (j : Int)) = (ij : Int) := by rw [eij, IntKind.wrap_i64]; omega
          have uij : IntKind.i64.wrap (ij : Int) = (ij : Int) := by rw [IntKind.wrap_i64]; omega
          have lij : (ij : Int) < mm := by omega
          have zij : (0 : Int) ≤ ij := by omega
          rw [HIJ.out] at hij x0 HAJ
          have d0 : w6.cell? ⟨bf, t, none⟩ = some (.int .u64 (dF l s t)) := HT6.out.cell htn
          have hle : dF l s t ≤ X.getD ij 0 := by rw [HAJ.out]; exact d_sub HMI.out.mem HD6.out HIS.out t
          obtain ⟨xij, HXIJ⟩ := named (X.getD ij 0)
          obtain ⟨dt, HDT⟩ := named (dF l s t)
          rw [HXIJ.out] at x0 hle
          rw [HDT.out] at d0 hle
          have g1 : decide (xij < dt) = false := decide_eq_false (by omega)
          have ht1 : (t : Int) < n := by omega
          have ht0 : (0 : Int) ≤ t := by omega
          have HXV : Hid (xij = dF wl' s t) := by show _ = _; rw [← HXIJ.out, HAJ.out]
          go_wp2_with fail
          go_quiet (fail)
          go_wp2_with fail
          have HDN : Hid (∃ d', (w6.drewN d).drewN nq = w6.drewN d') := ⟨d + nq, by simp⟩
          obtain ⟨d2, hd2⟩ := HDN.out
          rw [hd2]
          clear hd2 HDN
          go_loopw [111] (fun t wr => ∃ (k d : Nat), k ≤ m ∧ t = .int .i64 k ∧ wr = w6.drewN d) (fun t _ => m - (intOf t).toNat)
          case atStart => exact ⟨0, d2, Nat.zero_le _, rfl, rfl⟩
          case round =>
            obtain ⟨k, d, hk', rfl, hwr⟩ := hrel
            have HWR := Lib.hid hwr
            clear hwr
            by_cases hlk2 : k < m
            · have hlk2' : (k : Int) < m := by omega
              have hk0 : (0 : Int) ≤ k := by omega
              have hik := HIXJ.out k hlk2
              have hkj := HMI.out.ix k j hlk2 hlj
              have HAK := Lib.hid (HATJ.out k hlk2)
              have HAKJ := Lib.hid (HMI.out.at_ k j hlk2 hlj)
              have HISK := Lib.hid (HMI.out.is k hlk2)
              have y0 := ((HP.out w6 HB6.out).2.2 (im + k) hik).2
              have z0 := ((HP.out w6 HB6.out).2.2 (k * m + j) hkj).2
              obtain ⟨u, HUU⟩ := named (S.getD k 0)
              rw [HUU.out] at HAK HAKJ HISK
              rw [HTT.out] at HAKJ
              obtain ⟨km, HKM⟩ := named (k * m)
              have ekm : ((k : Int) * (m : Int)) = (km : Int) := by rw [← HKM.out]; simp
              have wkm : IntKind.i64.wrap ((k : Int) * (m : Int)) = (km : Int) := by rw [ekm, IntKind.wrap_i64]; omega
              have ukm : IntKind.i64.wrap (km : Int) = (km : Int) := by rw [IntKind.wrap_i64]; omega
              rw [HKM.out] at hkj HAKJ z0
              obtain ⟨ik, HIK⟩ := named (im + k)
              have eik : ((im : Int) + (k : Int)) = (ik : Int) := by rw [← HIK.out]; simp
              have wik : IntKind.i64.wrap ((im : Int) + (k : Int)) = (ik : Int) := by rw [eik, IntKind.wrap_i64]; omega
              have uik : IntKind.i64.wrap (ik : Int) = (ik : Int) := by rw [IntKind.wrap_i64]; omega
              have lik : (ik : Int) < mm := by omega
              have zik : (0 : Int) ≤ ik := by omega
              rw [HIK.out] at hik y0 HAK
              obtain ⟨kj, HKJ⟩ := named (km + j)
              have ekj : ((km : Int) + (j : Int)) = (kj : Int) := by rw [← HKJ.out]; simp
              have wkj : IntKind.i64.wrap ((km : Int) + (j : Int)) = (kj : Int) := by rw [ekj, IntKind.wrap_i64]; omega
              have ukj : IntKind.i64.wrap (kj : Int) = (kj : Int) := by rw [IntKind.wrap_i64]; omega
              have lkj : (kj : Int) < mm := by omega
              have zkj : (0 : Int) ≤ kj := by omega
              rw [HKJ.out] at hkj z0 HAKJ
              obtain ⟨xik, HXIK⟩ := named (X.getD ik 0)
              obtain ⟨xkj, HXKJ⟩ := named (X.getD kj 0)
              rw [HXIK.out] at y0 HAK
              rw [HXKJ.out] at z0 HAKJ
              have htri : xij ≤ N5.sat xik xkj := by rw [HXV.out, HAK.out, HAKJ.out]; exact d_tri HIS.out HISK.out t
              have r1 : 0 ≤ xik ∧ xik ≤ N5.Inf := by rw [HAK.out]; exact ⟨HIS.out.lo u, HIS.out.hi u⟩
              have r2 : 0 ≤ xkj ∧ xkj ≤ N5.Inf := by rw [HAKJ.out]; exact ⟨HISK.out.lo t, HISK.out.hi t⟩
              have HAD : Hid (∀ w, Calls Try.prog 43 #[.int .u64 xik, .int .u64 xkj] w fun e w' => e = .returned (.int .u64 (N5.sat xik xkj)) ∧ w' = w) := fun w => N5.add_any xik xkj r1 r2 w
              obtain ⟨z, HZZ⟩ := named (N5.sat xik xkj)
              rw [HZZ.out] at HAD htri
              have g2 : decide (z < xij) = false := decide_eq_false (by omega)
              clear r1 r2
              have k3' : wr.cell? ⟨qm, 3, none⟩ = some (.slice (some ⟨ix, ox, none⟩) mm c) := by rw [HWR.out]; exact k3
              have x0' : wr.cell? ⟨ix, ox + ij, none⟩ = some (.int .u64 xij) := by rw [HWR.out]; exact x0
              have y0' : wr.cell? ⟨ix, ox + ik, none⟩ = some (.int .u64 xik) := by rw [HWR.out]; exact y0
              have z0' : wr.cell? ⟨ix, ox + kj, none⟩ = some (.int .u64 xkj) := by rw [HWR.out]; exact z0
              have HDW : Hid (∀ nq, wr.drewN nq = w6.drewN (d + nq)) := fun nq => by rw [HWR.out]; simp
              go_wp2_with fail
              go_quiet (first | (go_at_call 43; exact Calls.quiet_of_same (HAD.out _)))
              go_wp2_with fail
              exact ⟨⟨k + 1, d + nq, by omega, by go_num, HDW.out nq⟩, by simp [intOf]; omega⟩
            · have hlk2' : ¬ (k : Int) < m := by omega
              go_wp2_with fail
              exact ⟨⟨j + 1, d, by omega, by go_num, HWR.out⟩, by simp [intOf]; omega⟩
        · have hlj' : ¬ (j : Int) < m := by omega
          have HB7 : Hid (Below w5.heap.size w5 (w6.drewN d)) := HB6.out.trans (below_drewN _ _ d)
          go_wp2_with fail
          exact ⟨⟨i + 1, by omega, by simp, HB7⟩, by simp [intOf]; omega⟩
    · have hlk' : ¬ (i : Int) < m := by omega
      have HBZ := Lib.hid (HEND.out _ (HZ.out wr HBR.out))
      go_wp2_with fail
      go_ret
      exact ⟨rfl, HBZ.out⟩
end Go.Proofs.Ytpmjbeiclmllmaa
