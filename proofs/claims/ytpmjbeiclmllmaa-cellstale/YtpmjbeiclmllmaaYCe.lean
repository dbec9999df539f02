/-
  The reference's Stale. The reference's Outer. Contracts of touched and Stale. The reference's Touched.
-/
import Derived.Test.YtpmjbeiclmllmaaYRc
import Derived.Test.YtpmjbeiclmllmaaCe7
import Derived.Test.YtpmjbeiclmllmaaJoM
import Derived.Test.YtpmjbeiclmllmaaYCp
import Derived.Test.YtpmjbeiclmllmaaRf2
import Derived.Deep.QuietTactic
import Derived.BigQuiet
namespace Go.Proofs.Ytpmjbeiclmllmaa
open Go.RowKit
theorem acr_all (L : List Int) (l : List A) : acr L l (List.range l.length) (List.range l.length).length = arL l (prt L) := by
  unfold acr
  rw [List.take_length]
  rfl
theorem at_facts {N : Int} {l : List A} {bs : List Int} {C : List Cl} {k : Int} (h : atE N l bs (csl C) k = 0) : ∃ n j : Nat, N = n ∧ k = (j : Int) + 1 ∧ chkE n l = 0 ∧ j < C.length ∧ C.length ≤ 5 ∧ (cl C j).xs.length = n := by
  obtain ⟨hNR, j, rfl, hj⟩ := atE_zero h
  have hcl : C.length = bs.length := by have := hNR.2.2.2.1; rw [csl_len] at this; exact this
  have h1024 := (chk_zero hNR.1).2.1
  have h0N := (chk_zero hNR.1).1
  have h5 := hNR.2.2.1
  obtain ⟨hlv, _, _, _⟩ := hNR.lv hj
  rw [csl_at] at hlv
  obtain ⟨n, hn⟩ : ∃ n : Nat, N = n := ⟨N.toNat, by omega⟩
  exact ⟨n, j, hn, rfl, hn ▸ hNR.1, by omega, by omega, by omega⟩
set_option maxRecDepth 100000 in
set_option maxHeartbeats 1600000 in
theorem router_any (N : Int) (a : Option Addr) (l : List A) (cap : Nat) (ba : Option Addr) (bs : List Int) (bc : Nat) (ca : Option Addr) (C : List Cl) (cc : Nat) (k : Int) (w : World) (hl : l.length ≤ 9223372036854775807) (hbl : bs.length ≤ 9223372036854775807) (hr : Arcs w a l) (hi : Ints w ba bs) (hR : Rws w ca C) :
    Calls Try.prog 31 #[.agg #[.int .i64 N, .slice a l.length cap], .agg #[.slice ba bs.length bc, .slice ca C.length cc], .int .i64 k] w fun e w' => ∃ v c, e = .returned (.tuple #[.slice v (ouV N l bs (csl C) k).length c, .int .i64 (atE N l bs (csl C) k)]) ∧ Ints w' v (ints (ouV N l bs (csl C) k)) ∧ Below w.heap.size w w' := by
  have hb0 : Below w.heap.size w ((w.alloc (.cells #[.int .i64 N, .slice a l.length cap] 24)).alloc (.cells #[.slice ba bs.length bc, .slice ca C.length cc] 28)) := (top2 w _ _).2.2.1
  have hg0 := (top2 w (.cells #[.int .i64 N, .slice a l.length cap] 24) (.cells #[.slice ba bs.length bc, .slice ca C.length cc] 28)).1
  have hg1 := (top2 w (.cells #[.int .i64 N, .slice a l.length cap] 24) (.cells #[.slice ba bs.length bc, .slice ca C.length cc] 28)).2.1
  have hsz := (top2 w (.cells #[.int .i64 N, .slice a l.length cap] 24) (.cells #[.slice ba bs.length bc, .slice ca C.length cc] 28)).2.2.2
  obtain ⟨⟨a0, a1⟩, _⟩ := two_cells hg0
  obtain ⟨⟨a2, a3⟩, _⟩ := two_cells hg1
  have HB0 := Lib.hid hb0
  have HCK := Lib.hid (rmany_any N a l cap ba bs bc ca C cc k _ hl hbl (hr.on hb0) (hi.on hb0) (hR.on hb0))
  have HRA := Lib.hid hr
  have HRR := Lib.hid hR
  have HG0 := Lib.hid hg0
  have HG1 := Lib.hid hg1
  obtain ⟨E, HE⟩ := named (atE N l bs (csl C) k)
  obtain ⟨mv, HMV⟩ := named (manyV N l bs (csl C) k)
  rw [HE.out, HMV.out] at HCK
  rw [HE.out]
  obtain ⟨i3, hi3, hz3, hs3, hby3⟩ := info_parts info3
  clear hr hi hR hb0 HMV
  by_cases h1 : E = 0
  · subst h1
    obtain ⟨n, j, rfl, rfl, hC0, hjC, hC5, hLn⟩ := at_facts HE.out
    have ej : ((j : Int) + 1).toNat - 1 = j := by omega
    have HV : Hid (ouV n l bs (csl C) ((j : Int) + 1) = arL l (prt (cl C j).xs)) := by show _ = _; unfold ouV; rw [if_pos HE.out, ej, csl_at]
    rw [HV.out]
    have HC0 := Lib.hid hC0
    have HLn := Lib.hid hLn
    have hl8 : l.length ≤ 8192 := (chk_zero hC0).2.2.1
    clear HV HE hC0 hLn
    obtain ⟨Y, HY⟩ := named (arL l (prt (cl C j).xs))
    rw [HY.out]
    generalize hp : w.heap.size = p at *
    go_enter Try.func31, Try.ntmps31
    go_wp2_with fail
    generalize hW : (w.alloc (.cells #[.int .i64 n, .slice a l.length cap] 24)).alloc (.cells #[.slice ba bs.length bc, .slice ca C.length cc] 28) = W at *
    clear hW
    refine HCK.out.mono ?_
    rintro e w1 ⟨rfl, hb1⟩
    have HB1 : Hid (Below p w w1) := HB0.out.trans (hb1.mono (by omega))
    have HK0 := Lib.hid ((hb1.block p (by omega)).trans HG0.out)
    have HK1 := Lib.hid ((hb1.block (p + 1) (by omega)).trans HG1.out)
    have hw1 : p + 2 ≤ w1.heap.size := by have := hb1.size; omega
    clear a0 a1 a2 a3 hb1 HCK hg0 hg1 HB0 HG0 HG1
    generalize hq : w1.heap.size = q at *
    go_wp2_with fail
    go_loopw [10, 11] (fun s i wr => ∃ (k : Nat) (av : Option Addr) (cv : Nat) (S : List Nat), k ≤ l.length ∧ i = .int .i64 k ∧ s = .slice av S.length cv ∧ S.length ≤ k ∧ Hid (List.range k = S) ∧ Hid (wr.ownsRow q 3 1 (.slice av S.length cv) S.length (cellsI (ints S))) ∧ Hid (Below q w1 wr)) (fun _ i _ => l.length - (intOf i).toNat)
    case atStart => exact ⟨0, none, 0, [], Nat.zero_le _, rfl, rfl, Nat.zero_le _, rfl, World.ownsRow_nil _ _ _ _, Below.refl _ _⟩
    case round =>
      obtain ⟨k, av, cv, S, hk, rfl, rfl, hSk, HS, HOW, HBR⟩ := hrel
      have hwz : q ≤ wr.heap.size := by have := HBR.out.size; omega
      obtain ⟨⟨k0, k1⟩, _⟩ := two_cells ((HBR.out.block p (by omega)).trans HK0.out)
      obtain ⟨⟨k2, k3⟩, _⟩ := two_cells ((HBR.out.block (p + 1) (by omega)).trans HK1.out)
      by_cases hlk : k < l.length
      · have hlk' : (k : Int) < l.length := by omega
        have HS2 : Hid (List.range (k + 1) = S ++ [k]) := by show _ = _; rw [List.range_succ, HS.out]
        have HNW := Lib.hid (one_new wr k)
        have HO3 := Lib.hid ((HOW.out).alloc (.cells #[.int .i64 k] 3))
        have HBZ : Hid (q ≤ (wr.alloc (.cells #[.int .i64 k] 3)).heap.size) := by show _ ≤ _; rw [World.size_alloc]; omega
        have HBB : Hid (Below q w1 (wr.alloc (.cells #[.int .i64 k] 3))) := (HBR.out).alloc (by omega) _
        have HOL : Hid (∀ b, (Value.slice av S.length cv).ownBlock = some b → q ≤ b) := fun b hb => ((HOW.out).lt b hb).1
        have HCA : Hid (cellsI (ints S) ++ [.int .i64 k] = cellsI (ints (S ++ [k]))) := by show _ = _; rw [ints_snoc, ← cellsI_snoc]
        go_wp2_with (at_builtin; refine wpList_append_own _ rfl (.tmp 29) (.tmp 31) 25 rfl q 3 i3 (.int .i64 0) 1 8 Try.underlying25 hi3 hz3 hs3 hby3 rfl (by decide) (.slice av S.length cv) S.length (cellsI (ints S)) rfl HO3.out ⟨wr.heap.size, 0, none⟩ 1 1 [.int .i64 (k : Nat)] rfl rfl HNW.out (one_i64 _) (by unfold maxLen; omega) (by omega) HBZ.out ?_; intro v6 w6 hown6 hgrow6 hnil6; obtain ⟨g6, c6, hv6, _, hc6, _, hm6⟩ := own_shape hown6 (fun e => by have := hnil6.1 e; simp at this); subst hv6; rw [HCA.out] at hown6; have h7 : w6.ownsRow q 3 1 (.slice (some ⟨g6, 0, none⟩) (S ++ [k]).length c6) (S ++ [k]).length (cellsI (ints (S ++ [k]))) := (by rw [List.length_append]; exact hown6); have HO7 := Lib.hid h7; have HB6 : Hid (Below q w1 w6) := HBB.out.grown hgrow6 HBZ.out (fun j hj => HOL.out j hj); clear hown6 hnil6 h7)
        exact ⟨⟨k + 1, some ⟨g6, 0, none⟩, c6, S ++ [k], by omega, by simp, by rw [List.length_append]; rfl, by rw [List.length_append]; simp; omega, HS2, HO7, HB6⟩, by simp [intOf]; omega⟩
      · have hlk' : ¬ (k : Int) < l.length := by omega
        obtain rfl : k = l.length := by omega
        have HB2 : Hid (Below p w wr) := HB1.out.trans (HBR.out.mono (by omega))
        have hZl : ∀ i, i < S.length → S.getD i 0 < l.length := fun i hi => by
          rw [← HS.out] at hi ⊢
          have hi2 : i < l.length := by simpa using hi
          simp [List.getD, hi2]
        have HAC := Lib.hid (racross_any n a l cap ba bs bc ca C cc j av S cv wr HC0.out hjC hC5 HLn.out (by omega) hZl (HRA.out.on (hp ▸ HB2.out)) (HRR.out.on (hp ▸ HB2.out)) (own_ints HOW.out rfl))
        clear hZl
        have HAE : Hid (acr (cl C j).xs l S S.length = Y) := by show _ = _; rw [← HS.out, acr_all]; exact HY.out
        rw [HAE.out] at HAC
        have hwp : p ≤ wr.heap.size := by omega
        go_wp2_with fail
        refine HAC.out.mono ?_
        rintro e w2 ⟨v, c, rfl, hown, hb2⟩
        have HB3 : Hid (Below p w w2) := HB2.out.trans (hb2.mono hwp)
        have HI2 := Lib.hid (own_ints hown rfl)
        clear hown hb2 HAC k0 k1 k2 k3
        go_wp2_with fail
        go_ret2
        exact ⟨v, c, rfl, HI2.out, HB3.out⟩
  · have e1 : (E != 0) = true := by simpa using h1
    have HV : Hid (ouV N l bs (csl C) k = []) := by show _ = _; unfold ouV; rw [if_neg (by rw [HE.out]; exact h1)]
    rw [HV.out]
    clear HV HE
    generalize hp : w.heap.size = p at *
    go_enter Try.func31, Try.ntmps31
    go_wp2_with fail
    generalize hW : (w.alloc (.cells #[.int .i64 N, .slice a l.length cap] 24)).alloc (.cells #[.slice ba bs.length bc, .slice ca C.length cc] 28) = W at *
    clear hW
    refine HCK.out.mono ?_
    rintro e w1 ⟨rfl, hb1⟩
    have HB1 : Hid (Below p w w1) := HB0.out.trans (hb1.mono (by omega))
    clear a0 a1 a2 a3 hb1 HCK hg0 hg1 HB0 HG0 HG1
    go_wp2_with fail
    go_ret2
    exact ⟨none, 0, rfl, Or.inl rfl, HB1.out⟩
end Go.Proofs.Ytpmjbeiclmllmaa
namespace Go.Proofs.Ytpmjbeiclmllmaa
open Go.RowKit
theorem info25 : (Try.prog.info? 25).map (fun i => (i.zero, i.size, i.bytes)) = some (some (.slice none 0 0), 1, 24) := by kernel_rfl
theorem made_sl (n : Nat) : madeCells (Value.slice none 0 0).cells (n * 1) = ((List.range n).map (fun _ => Value.slice none 0 0)).toArray := by
  apply Array.ext'
  show (madeCells #[Value.slice none 0 0] (n * 1)).toList = _
  rw [toList_madeCells_one, Nat.mul_one]
  apply List.ext_getElem
  · simp
  · intro i h1 h2
    simp
theorem tcP_zero (L : List Int) (l : List A) (ids : List Int) (c : Nat) : tcP L l ids 0 c = false := by simp [tcP]
set_option maxRecDepth 100000 in
set_option maxHeartbeats 1600000 in
theorem touched_any (b : Option Addr) (L : List Int) (bc n : Nat) (a : Option Addr) (l : List A) (cap : Nat) (d : Option Addr) (ids : List Int) (dc : Nat) (w : World) (hLn : L.length = n) (hC : chkE n l = 0) (hT : ∀ v, v < n → 0 ≤ L.getD v 0 ∧ L.getD v 0 < n) (h8 : ids.length ≤ 16384) (hd : ∀ i, i < ids.length → 0 ≤ ids.getD i 0 ∧ ids.getD i 0 < l.length) (hr : Arcs w a l) (hi : Ints w b L) (hj : Ints w d ids) :
    Calls Try.prog 63 #[.slice b L.length bc, .agg #[.int .i64 n, .slice a l.length cap], .slice d ids.length dc] w fun e w' => ∃ g, e = .returned (.slice (some ⟨g, 0, none⟩) n n) ∧ w.heap.size ≤ g ∧ TbV w' g n 4 (boV (tcP L l ids ids.length)) ∧ Below w.heap.size w w' := by
  have hb0 : Below w.heap.size w (w.alloc (.cells #[.int .i64 n, .slice a l.length cap] 24)) := (Below.refl _ _).alloc (Nat.le_refl _) _
  have hg := heap_top w (.cells #[.int .i64 n, .slice a l.length cap] 24)
  have HGG := Lib.hid hg
  obtain ⟨⟨c0, c1⟩, _⟩ := two_cells hg
  have hL : n ≤ 1024 := by have := (chk_zero hC).2.1; omega
  have hl8 : l.length ≤ 8192 := (chk_zero hC).2.2.1
  obtain ⟨i4, hi4, hz4, hs4, hby4⟩ := info_parts info4
  have hmk : ∀ w, (Instr.makeSlice 53 (.int .i64 n) (.int .i64 n)).run Try.prog w = .ok (.slice (some ⟨w.heap.size, 0, none⟩) n n) (w.alloc (.cells ((List.range n).map (fun _ => Value.bool false)).toArray 4)) := fun w => by
    have := run_make (P := Try.prog) w 53 4 i4 (.bool false) Try.underlying53 hi4 hz4 .i64 .i64 n n (by omega) (by omega) (by rw [hby4]; omega) (by omega)
    rw [hs4] at this
    rw [this, Int.toNat_natCast, made_bool]
  obtain ⟨ix, ox, hix⟩ := hr.get
  obtain ⟨iy, oy, hiy⟩ := hi.get
  obtain ⟨iz, oz, hiz⟩ := hj.get
  have HIX := Lib.hid hix
  have HIY := Lib.hid hiy
  have HIZ := Lib.hid hiz
  have HIN : Hid (∀ j, j < l.length → inA n (l.getD j A.zero)) := fun j hj => chk_in hC hj
  have HI := Lib.hid hi
  have HB0 := Lib.hid hb0
  have HT := Lib.hid hT
  have HD := Lib.hid hd
  have HN := Lib.hid hLn
  rw [hLn]
  clear hr hi hj hix hiy hiz hC hb0 hT hd hLn
  generalize hp : w.heap.size = p at *
  go_enter Try.func63, Try.ntmps63
  go_wp2_with fail
  have hw1 : (w.alloc (.cells #[.int .i64 n, .slice a l.length cap] 24)).heap.size = p + 1 := by simp [hp]
  generalize hW : (w.alloc (.cells #[.int .i64 n, .slice a l.length cap] 24)) = W at *
  clear hW hg
  have HT0 : Hid (TbV (W.alloc (.cells ((List.range n).map (fun _ => Value.bool false)).toArray 4)) (p + 1) n 4 (boV (tcP L l ids 0))) := by
    have h := heap_top W (.cells ((List.range n).map (fun _ => Value.bool false)).toArray 4)
    rw [hw1] at h
    show TbV _ _ _ _ _
    unfold TbV
    rw [h]
    congr 3
  have HB1 : Hid (Below p w (W.alloc (.cells ((List.range n).map (fun _ => Value.bool false)).toArray 4))) := HB0.out.alloc (by omega) _
  have HG1 : Hid ((W.alloc (.cells ((List.range n).map (fun _ => Value.bool false)).toArray 4)).heap[p]? = some (.cells #[.int .i64 n, .slice a l.length cap] 24)) := (Below.heap_alloc _ _ _ (by omega)).trans HGG.out
  generalize W.alloc (.cells ((List.range n).map (fun _ => Value.bool false)).toArray 4) = V at *
  clear c0 c1 HB0 hw1 hmk HGG
  go_loopw [16] (fun i wr => ∃ (k : Nat), k ≤ ids.length ∧ i = .int .i64 k ∧ Hid (TbV wr (p + 1) n 4 (boV (tcP L l ids k))) ∧ Hid (wr.heap[p]? = some (.cells #[.int .i64 n, .slice a l.length cap] 24)) ∧ Hid (Below p w wr)) (fun i _ => ids.length - (intOf i).toNat)
  case atStart => exact ⟨0, Nat.zero_le _, rfl, HT0, HG1, HB1⟩
  case round =>
    obtain ⟨k, hk, rfl, HTR, HGR, HBR⟩ := hrel
    have hwr : p + 1 < wr.heap.size := HTR.out.lt
    by_cases hlk : k < ids.length
    · have hlk' : (k : Int) < ids.length := by omega
      obtain ⟨rfl, hzl, hzat⟩ := HIZ.out (by omega)
      have s0 := (HBR.out.cell (p := ⟨iz, oz + k, none⟩) (hp ▸ hzl)).trans (hzat k hlk)
      have HCT := Lib.hid (tcP_t (L := L) (l := l) hlk)
      have HCF := Lib.hid (tcP_f (L := L) (l := l) hlk)
      obtain ⟨d0, d1⟩ := HD.out k hlk
      obtain ⟨i, HII⟩ : ∃ i : Nat, Hid (ids.getD k 0 = (i : Int)) := ⟨(ids.getD k 0).toNat, by show _ = _; omega⟩
      rw [HII.out, Int.toNat_natCast] at HCT HCF
      rw [HII.out] at s0 d0 d1
      have hil : i < l.length := by omega
      obtain ⟨rfl, hbl, hat⟩ := HIX.out (by omega)
      obtain ⟨x0, x1, x2⟩ := hat i hil
      have y0 := (HBR.out.cell (p := ⟨ix, ox + i * 3, none⟩) (hp ▸ hbl)).trans x0
      have y1 := (HBR.out.cell (p := ⟨ix, ox + i * 3 + 1, none⟩) (hp ▸ hbl)).trans x1
      have y2 := (HBR.out.cell (p := ⟨ix, ox + i * 3 + 2, none⟩) (hp ▸ hbl)).trans x2
      have hin := HIN.out i hil
      generalize l.getD i A.zero = x at *
      obtain ⟨xf, xt, xw⟩ := x
      obtain ⟨⟨f0, f1⟩, t0, t1⟩ := hin
      simp only at f0 f1 t0 t1 y0 y1 y2
      obtain ⟨u, rfl⟩ : ∃ u : Nat, xf = u := ⟨xf.toNat, by omega⟩
      obtain ⟨v, rfl⟩ : ∃ v : Nat, xt = v := ⟨xt.toNat, by omega⟩
      obtain ⟨P, HP⟩ := named (prt L ⟨u, v, xw⟩)
      have HPT : Hid (∀ W2, Below p w W2 → Calls Try.prog 59 #[.slice b n bc, .agg #[.int .i64 u, .int .i64 v, .int .u32 xw]] W2 fun e w' => e = .returned (.bool P) ∧ Below W2.heap.size W2 w') := by
        intro W2 hb
        have := cePart_any b L bc ⟨u, v, xw⟩ W2 (by rw [HN.out]; exact ⟨⟨f0, f1⟩, t0, t1⟩) (by rw [HN.out]; exact hL) (HI.out.on (hp ▸ hb))
        rw [HN.out, HP.out] at this
        exact this
      obtain ⟨rfl, hyl, hyat⟩ := HIY.out (by rw [HN.out]; omega)
      have z0 := hyat u (by rw [HN.out]; omega)
      obtain ⟨e0, e1⟩ := HT.out u (by omega)
      have HLB : Hid (lb L (u : Int) = L.getD u 0) := by show _ = _; unfold lb; rw [Int.toNat_natCast]
      obtain ⟨y, HY⟩ : ∃ y : Nat, Hid (L.getD u 0 = (y : Int)) := ⟨(L.getD u 0).toNat, by show _ = _; omega⟩
      rw [HY.out] at z0 e0 e1 HLB
      have Z0 := Lib.hid z0
      have hyn : y < n := by omega
      clear x0 x1 x2 hat hyat hzat z0
      have HB2 : Hid (Below p w (wr.alloc (.cells #[.int .i64 u, .int .i64 v, .int .u32 xw] 56))) := HBR.out.alloc (by omega) _
      have HG2 := Lib.hid (heap_top wr (.cells #[.int .i64 u, .int .i64 v, .int .u32 xw] 56))
      have HT2 : Hid (TbV (wr.alloc (.cells #[.int .i64 u, .int .i64 v, .int .u32 xw] 56)) (p + 1) n 4 (boV (tcP L l ids k))) := HTR.out.same (Below.heap_alloc _ _ _ hwr)
      have HGB : Hid ((wr.alloc (.cells #[.int .i64 u, .int .i64 v, .int .u32 xw] 56)).heap[p]? = some (.cells #[.int .i64 n, .slice (some ⟨ix, ox, none⟩) l.length cap] 24)) := (Below.heap_alloc _ _ _ (by omega)).trans HGR.out
      obtain ⟨⟨k0, k1⟩, _⟩ := two_cells HGR.out
      have hii : (i : Int) < l.length := by omega
      go_wp2_with fail
      refine (HPT.out _ HB2.out).mono ?_
      rintro e w2 ⟨rfl, hb2⟩
      have HT3 : Hid (TbV w2 (p + 1) n 4 (boV (tcP L l ids k))) := HT2.out.same (hb2.block _ HT2.out.lt)
      have hG3 := (hb2.block _ (lt_of_block HG2.out)).trans HG2.out
      have HGC : Hid (w2.heap[p]? = some (.cells #[.int .i64 n, .slice (some ⟨ix, ox, none⟩) l.length cap] 24)) := (hb2.block _ (lt_of_block HGB.out)).trans HGB.out
      obtain ⟨z0, z1, z2⟩ := three_cells hG3
      have HB3 : Hid (Below p w w2) := HB2.out.trans (hb2.mono (by simp; omega))
      have l0 := (HB3.out.cell (p := ⟨iy, oy + u, none⟩) (hp ▸ hyl)).trans Z0.out
      have hu' : (u : Int) < n := by omega
      have hy' : (y : Int) < n := by omega
      clear HG2 HT2 HB2 hb2 y0 y1 y2 HGB k0 k1 hG3 z1 z2 s0
      generalize wr.heap.size = q at *
      rcases P with _ | _
      · have q0 := HT3.out.free y
        have r0 := HT3.out.cell (v := y) hyn
        have HTN : Hid (TbV (w2.setCell ⟨p + 1, y, none⟩ (.bool true)) (p + 1) n 4 (boV (tcP L l ids (k + 1)))) := (HT3.out.set y (.bool true)).congr (fun c _ => by
          rw [boV_set]
          show Value.bool _ = Value.bool _
          rw [HCT.out HP.out]
          simp only [HLB.out, Int.toNat_natCast])
        have HBN : Hid (Below p w (w2.setCell ⟨p + 1, y, none⟩ (.bool true))) := HB3.out.setCell (p := ⟨p + 1, y, none⟩) (by simp) _
        have HGN : Hid ((w2.setCell ⟨p + 1, y, none⟩ (.bool true)).heap[p]? = some (.cells #[.int .i64 n, .slice (some ⟨ix, ox, none⟩) l.length cap] 24)) := (Below.heap_setCell w2 ⟨p + 1, y, none⟩ _ p (by show p ≠ p + 1; omega)).trans HGC.out
        go_wp2_with fail
        exact ⟨⟨k + 1, by omega, by simp, HTN, HGN, HBN⟩, by simp [intOf]; omega⟩
      · have HTN : Hid (TbV w2 (p + 1) n 4 (boV (tcP L l ids (k + 1)))) := HT3.out.congr (fun c _ => by show Value.bool _ = Value.bool _; rw [HCF.out HP.out])
        go_wp2_with fail
        exact ⟨⟨k + 1, by omega, by simp, HTN, HGC, HB3⟩, by simp [intOf]; omega⟩
    · have hlk' : ¬ (k : Int) < ids.length := by omega
      obtain rfl : k = ids.length := by omega
      go_wp2_with fail
      go_ret
      exact ⟨p + 1, rfl, by omega, HTR.out, HBR.out⟩
set_option maxRecDepth 100000 in
set_option maxHeartbeats 1600000 in
theorem ceS1_any (c n b1 g : Nat) (T : Nat → Bool) (w : World) (hc : c < n) (c1 : w.cell? ⟨b1, 0, none⟩ = some (.slice (some ⟨g, 0, none⟩) n n)) (hT : TbV w g n 4 (boV T)) :
    Calls Try.prog 64 #[.int .i64 c, .pointer (some ⟨b1, 0, none⟩)] w fun e w' => e = .returned (.bool (T c)) ∧ Below w.heap.size w w' := by
  have d2 := hT.cell hc
  have e2 : boV T c = .bool (T c) := rfl
  rw [e2] at d2
  have hc1 : (c : Int) < n := by omega
  clear e2 hT
  generalize T c = tv at *
  go_enter Try.func64, Try.ntmps64
  go_wp2_with fail
  go_ret
  exact ⟨rfl, Below.refl _ _⟩
/-- What is wrong with arcs that are given. -/
def stE (N : Int) (l : List A) (bs : List Int) (cs : List (List Int)) (ids : List Int) : Int := if nsE N l bs cs ≠ 0 then nsE N l bs cs else if 16384 < ids.length then 2 else if ids.all (fun i => decide (0 ≤ i ∧ i < (l.length : Int))) then 0 else 5
/-- The rows of stale cells, as far as they are made. -/
def rwV (n : Nat) (cs : List (List Int)) (l : List A) (ids : List Int) (vs : Nat → Option Addr) (k j : Nat) : Value := if j < k then .slice (vs j) (tcL n (lvl cs j) l ids).length (tcL n (lvl cs j) l ids).length else .slice none 0 0
theorem rwV_step (n : Nat) (cs : List (List Int)) (l : List A) (ids : List Int) (vs : Nat → Option Addr) (k : Nat) (v : Option Addr) (j : Nat) : updV (rwV n cs l ids vs k) k (.slice v (tcL n (lvl cs k) l ids).length (tcL n (lvl cs k) l ids).length) j = rwV n cs l ids (fun y => if y = k then v else vs y) (k + 1) j := by
  unfold updV rwV
  by_cases h : j = k
  · subst h; simp
  · by_cases h2 : j < k
    · rw [if_neg h, if_pos h2, if_pos (by omega)]; simp [h]
    · rw [if_neg h, if_neg h2, if_neg (by omega)]
theorem all_take_I {xs : List Int} {p : Int → Bool} {k : Nat} (hk : k < xs.length) (h : (xs.take k).all p = true) (hp : p (xs.getD k 0) = true) : (xs.take (k + 1)).all p = true := by
  rw [take_snocI hk, List.all_append, h]
  simp only [List.all_cons, List.all_nil, Bool.and_true, Bool.true_and]
  exact hp
theorem all_at_I {xs : List Int} {p : Int → Bool} (h : xs.all p = true) {k : Nat} (hk : k < xs.length) : p (xs.getD k 0) = true := by
  rw [List.all_eq_true] at h
  refine h _ ?_
  rw [show xs.getD k 0 = xs[k] by simp [List.getD, List.getElem?_eq_getElem hk]]
  exact List.getElem_mem hk
theorem all_not_I {xs : List Int} {p : Int → Bool} {k : Nat} (hk : k < xs.length) (hp : p (xs.getD k 0) = false) : xs.all p = false := by
  cases h : xs.all p with
  | false => rfl
  | true => rw [all_at_I h hk] at hp; cases hp
/-- The lists of stale cells as they lie. -/
def stC (n : Nat) (cs : List (List Int)) (l : List A) (ids : List Int) (vs : Nat → Option Addr) (m : Nat) : List Cl := (List.range m).map (fun j => ⟨vs j, (tcL n (lvl cs j) l ids).length, ints (tcL n (lvl cs j) l ids)⟩)
theorem stC_len (n : Nat) (cs : List (List Int)) (l : List A) (ids : List Int) (vs : Nat → Option Addr) (m : Nat) : (stC n cs l ids vs m).length = m := by simp [stC]
theorem stC_at {n : Nat} {cs : List (List Int)} {l : List A} {ids : List Int} {vs : Nat → Option Addr} {m j : Nat} (hj : j < m) : cl (stC n cs l ids vs m) j = ⟨vs j, (tcL n (lvl cs j) l ids).length, ints (tcL n (lvl cs j) l ids)⟩ := by
  simp [cl, stC, List.getD, hj]
theorem stC_rws {w : World} {g n m B : Nat} {cs : List (List Int)} {l : List A} {ids : List Int} {vs : Nat → Option Addr} (hn : n ≤ 1024) (hT : TbV w g m 25 (rwV n cs l ids vs m)) (hR : ∀ j, j < m → RowI w B (vs j) (ints (tcL n (lvl cs j) l ids))) : Rws w (some ⟨g, 0, none⟩) (stC n cs l ids vs m) := by
  refine ⟨.inr ⟨g, 0, rfl, hT.lt, fun j hj => ?_⟩, fun j hj => ?_⟩
  · rw [stC_len] at hj
    rw [Nat.zero_add, hT.cell hj, stC_at hj]
    unfold rwV Cl.val
    rw [if_pos hj, ints_len]
  · rw [stC_len] at hj
    rw [stC_at hj]
    refine ⟨(hR j hj).ints, ?_⟩
    show (ints _).length ≤ _
    rw [ints_len]
    have := cho_len (tcP (lvl cs j) l ids ids.length) n
    unfold tcL
    omega
set_option maxRecDepth 100000 in
set_option maxHeartbeats 1600000 in
theorem stale_any (N : Int) (a : Option Addr) (l : List A) (cap : Nat) (ba : Option Addr) (bs : List Int) (bc : Nat) (ca : Option Addr) (C : List Cl) (cc : Nat) (d : Option Addr) (ids : List Int) (dc : Nat) (w : World) (hl : l.length ≤ 9223372036854775807) (hbl : bs.length ≤ 9223372036854775807) (hr : Arcs w a l) (hi : Ints w ba bs) (hR : Rws w ca C) (hdl : ids.length ≤ 9223372036854775807) (hj : Ints w d ids) :
    Calls Try.prog 28 #[.agg #[.int .i64 N, .slice a l.length cap], .agg #[.slice ba bs.length bc, .slice ca C.length cc], .slice d ids.length dc] w fun e w' => (stE N l bs (csl C) ids = 0 → ∃ g vs, e = .returned (.tuple #[.slice (some ⟨g, 0, none⟩) C.length C.length, .int .i64 0]) ∧ Rws w' (some ⟨g, 0, none⟩) (stC N.toNat (csl C) l ids vs C.length)) ∧ (stE N l bs (csl C) ids ≠ 0 → e = .returned (.tuple #[.slice none 0 0, .int .i64 (stE N l bs (csl C) ids)])) ∧ Below w.heap.size w w' := by
  have hb0 : Below w.heap.size w ((w.alloc (.cells #[.int .i64 N, .slice a l.length cap] 24)).alloc (.cells #[.slice ba bs.length bc, .slice ca C.length cc] 28)) := (top2 w _ _).2.2.1
  have hg0 := (top2 w (.cells #[.int .i64 N, .slice a l.length cap] 24) (.cells #[.slice ba bs.length bc, .slice ca C.length cc] 28)).1
  have hg1 := (top2 w (.cells #[.int .i64 N, .slice a l.length cap] 24) (.cells #[.slice ba bs.length bc, .slice ca C.length cc] 28)).2.1
  have hsz := (top2 w (.cells #[.int .i64 N, .slice a l.length cap] 24) (.cells #[.slice ba bs.length bc, .slice ca C.length cc] 28)).2.2.2
  obtain ⟨⟨a0, a1⟩, _⟩ := two_cells hg0
  obtain ⟨⟨a2, a3⟩, _⟩ := two_cells hg1
  have HB0 := Lib.hid hb0
  have HCK := Lib.hid (ncheck_any N a l cap ba bs bc ca C cc _ hl hbl (hr.on hb0) (hi.on hb0) (hR.on hb0))
  obtain ⟨E, HE⟩ := named (nsE N l bs (csl C))
  generalize nsW N l bs (csl C) = nw at *
  rw [HE.out] at HCK
  have HG0 := Lib.hid hg0
  have HG1 := Lib.hid hg1
  have HST : Hid (stE N l bs (csl C) ids = if E ≠ 0 then E else if 16384 < ids.length then 2 else if ids.all (fun i => decide (0 ≤ i ∧ i < (l.length : Int))) then 0 else 5) := by
    show _ = _
    unfold stE
    rw [HE.out]
  obtain ⟨S, HSS⟩ := named (stE N l bs (csl C) ids)
  rw [HSS.out] at HST
  rw [HSS.out]
  have HRA := Lib.hid hr
  have HRR := Lib.hid hR
  have HJ := Lib.hid hj
  clear hr hi hR hj hb0 HSS
  generalize hp : w.heap.size = p at *
  go_enter Try.func28, Try.ntmps28
  go_wp2_with fail
  generalize hW : (w.alloc (.cells #[.int .i64 N, .slice a l.length cap] 24)).alloc (.cells #[.slice ba bs.length bc, .slice ca C.length cc] 28) = W at *
  clear hW
  refine HCK.out.mono ?_
  rintro e w1 ⟨rfl, hb1⟩
  have HB1 : Hid (Below p w w1) := HB0.out.trans (hb1.mono (by omega))
  have HG0 : Hid (w1.heap[p]? = some (.cells #[.int .i64 N, .slice a l.length cap] 24)) := (hb1.block p (by omega)).trans HG0.out
  have HG1 : Hid (w1.heap[p + 1]? = some (.cells #[.slice ba bs.length bc, .slice ca C.length cc] 28)) := (hb1.block (p + 1) (by omega)).trans HG1.out
  have hw1 : p + 2 ≤ w1.heap.size := by have := hb1.size; omega
  clear a0 a1 a2 a3 hg0 hg1 hb1 HCK HB0
  obtain ⟨⟨a0, a1⟩, _⟩ := two_cells HG0.out
  obtain ⟨⟨a2, a3⟩, _⟩ := two_cells HG1.out
  by_cases hE : E = 0
  · subst hE
    have HST : Hid (S = if 16384 < ids.length then 2 else if ids.all (fun i => decide (0 ≤ i ∧ i < (l.length : Int))) then 0 else 5) := by
      show _ = _
      rw [HST.out, if_neg (by simp)]
    by_cases h16 : 16384 < ids.length
    · have h16' : (16384 : Int) < ids.length := by omega
      obtain rfl : S = 2 := by rw [HST.out, if_pos h16]
      go_wp2_with fail
      go_ret2
      first | exact ⟨rfl, HB1.out⟩ | exact ⟨(fun h => absurd h (by decide)), (fun _ => rfl), HB1.out⟩
    · have h16' : ¬ (16384 : Int) < ids.length := by omega
      have HST : Hid (S = if ids.all (fun i => decide (0 ≤ i ∧ i < (l.length : Int))) then 0 else 5) := by
        show _ = _
        rw [HST.out, if_neg h16]
      obtain ⟨iz, oz, hiz⟩ := HJ.out.get
      have HIZ := Lib.hid hiz
      clear hiz
      go_wp2_with fail
      go_loop [30] (fun i => ∃ (k : Nat), k ≤ ids.length ∧ i = .int .i64 k ∧ Hid ((ids.take k).all (fun i => decide (0 ≤ i ∧ i < (l.length : Int))) = true)) (fun i => ids.length - (intOf i).toNat)
      case atStart => exact ⟨0, Nat.zero_le _, rfl, by show _ = _; simp⟩
      case round =>
        obtain ⟨k, hk, rfl, HK⟩ := hrel
        by_cases hlk : k < ids.length
        · have hlk' : (k : Int) < ids.length := by omega
          obtain ⟨rfl, hzl, hzat⟩ := HIZ.out (by omega)
          have s0 := (HB1.out.cell (p := ⟨iz, oz + k, none⟩) (hp ▸ hzl)).trans (hzat k hlk)
          have HT := Lib.hid (all_take_I (p := fun i => decide (0 ≤ i ∧ i < (l.length : Int))) hlk HK.out)
          have HF := Lib.hid (all_not_I (p := fun i => decide (0 ≤ i ∧ i < (l.length : Int))) hlk)
          generalize ids.getD k 0 = x at *
          clear hzat
          by_cases h1 : x < 0
          · obtain rfl : S = 5 := by rw [HST.out, if_neg (by rw [HF.out (decide_eq_false (by omega))]; simp)]
            go_wp2_with fail
            go_ret2
            first | exact ⟨rfl, HB1.out⟩ | exact ⟨(fun h => absurd h (by decide)), (fun _ => rfl), HB1.out⟩
          · by_cases h2 : (l.length : Int) ≤ x
            · obtain rfl : S = 5 := by rw [HST.out, if_neg (by rw [HF.out (decide_eq_false (by omega))]; simp)]
              go_wp2_with fail
              go_ret2
              first | exact ⟨rfl, HB1.out⟩ | exact ⟨(fun h => absurd h (by decide)), (fun _ => rfl), HB1.out⟩
            · have HK2 : Hid ((ids.take (k + 1)).all (fun i => decide (0 ≤ i ∧ i < (l.length : Int))) = true) := HT.out (decide_eq_true (by omega))
              go_wp2_with fail
              exact ⟨⟨k + 1, by omega, by simp, HK2⟩, by simp [intOf]; omega⟩
        · obtain rfl : k = ids.length := by omega
          have hlk' : ¬ (ids.length : Int) < ids.length := by omega
          have HAL := HK.out
          rw [List.take_length] at HAL
          obtain rfl : S = 0 := by rw [HST.out, if_pos HAL]
          have HALL := Lib.hid HAL
          have hNR := nsE_zero.1 HE.out
          have h1024 := (chk_zero hNR.1).2.1
          have h0N := (chk_zero hNR.1).1
          obtain ⟨n, hn⟩ : ∃ n : Nat, N = n := ⟨N.toNat, by omega⟩
          subst hn
          have hcl : C.length = bs.length := by have := hNR.2.2.2.1; rw [csl_len] at this; exact this
          have h5 : C.length ≤ 5 := by have := hNR.2.2.1; omega
          have HNR := Lib.hid hNR
          have HCL := Lib.hid hcl
          have hn8 : n ≤ 1024 := by omega
          obtain ⟨i25, hi25, hz25, hs25, hby25⟩ := info_parts info25
          have hmk : ∀ w, (Instr.makeSlice 26 (.int .i64 C.length) (.int .i64 C.length)).run Try.prog w = .ok (.slice (some ⟨w.heap.size, 0, none⟩) C.length C.length) (w.alloc (.cells ((List.range C.length).map (fun _ => Value.slice none 0 0)).toArray 25)) := fun w => by
            have := run_make (P := Try.prog) w 26 25 i25 (.slice none 0 0) Try.underlying26 hi25 hz25 .i64 .i64 C.length C.length (by omega) (by omega) (by rw [hby25]; omega) (by omega)
            rw [hs25] at this
            rw [this, Int.toNat_natCast, made_sl]
          have HD : Hid (∀ i, i < ids.length → 0 ≤ ids.getD i 0 ∧ ids.getD i 0 < l.length) := fun i hi => by have := all_at_I HALL.out hi; simpa using this
          have HBA : Hid (Below p w (w1.alloc (.cells ((List.range C.length).map (fun _ => Value.slice none 0 0)).toArray 25))) := HB1.out.alloc (by omega) _
          have HBX : Hid (Below w1.heap.size w1 (w1.alloc (.cells ((List.range C.length).map (fun _ => Value.slice none 0 0)).toArray 25))) := (Below.refl _ _).alloc (Nat.le_refl _) _
          have HT0 : Hid (TbV (w1.alloc (.cells ((List.range C.length).map (fun _ => Value.slice none 0 0)).toArray 25)) w1.heap.size C.length 25 (rwV n (csl C) l ids (fun _ => none) 0)) := by
            have h := heap_top w1 (.cells ((List.range C.length).map (fun _ => Value.slice none 0 0)).toArray 25)
            show TbV _ _ _ _ _
            unfold TbV
            rw [h]
            congr 3
          have b1 := (HBX.out.cell (p := ⟨p + 1, 1, none⟩) (by show p + 1 < _; omega)).trans a3
          obtain ⟨bx, ox, hbx⟩ := HRR.out.get
          have HBXX := Lib.hid hbx
          clear hbx hNR hcl HAL HK HST HIZ a2 hlk'
          go_wp2_with fail
          generalize w1.alloc (.cells ((List.range C.length).map (fun _ => Value.slice none 0 0)).toArray 25) = w2 at *
          clear a0 a1 a3 b1 hmk hi25 hz25 hs25 hby25
          have HGW := Lib.hid HG0.out
          go_loopw [51] (fun i wr => ∃ (k : Nat) (vs : Nat → Option Addr), k ≤ C.length ∧ i = .int .i64 k ∧ Hid (TbV wr w1.heap.size C.length 25 (rwV n (csl C) l ids vs k)) ∧ Hid (∀ j, j < k → RowI wr (w1.heap.size + 1) (vs j) (ints (tcL n (lvl (csl C) j) l ids))) ∧ Hid (Below w1.heap.size w1 wr)) (fun i _ => C.length - (intOf i).toNat)
          case atStart => exact ⟨0, fun _ => none, Nat.zero_le _, rfl, HT0, fun j hj => absurd hj (by omega), HBX⟩
          case round =>
            clear HT0 HBX HBA
            obtain ⟨k, vs, hk, rfl, HTR, HRR2, HBR⟩ := hrel
            by_cases hlk : k < C.length
            · have hlk' : (k : Int) < C.length := by omega
              have hbw : Below p w wr := HB1.out.trans (HBR.out.mono (by omega))
              have HBW := Lib.hid hbw
              obtain ⟨rfl, hbl2, hcell⟩ := HBXX.out (by omega)
              have d0 := (hbw.cell (p := ⟨bx, ox + k, none⟩) (hp ▸ hbl2)).trans (hcell k hlk)
              unfold Cl.val at d0
              have hkb : k < bs.length := by have := HCL.out; omega
              obtain ⟨hLn, hty, _, _⟩ := HNR.out.lv hkb
              have hIL := ((HRR.out.2 k hlk).1.on (hp ▸ hbw))
              have HRN := Lib.hid (rwV_step n (csl C) l ids vs k)
              have HTL : Hid (tcL n (lvl (csl C) k) l ids = cho (tcP (lvl (csl C) k) l ids ids.length) n) := rfl
              rw [csl_at] at hLn hty HRN HTL
              obtain ⟨L, va, vc, HLL, HVA, HVC⟩ : ∃ L va vc, Hid ((cl C k).xs = L) ∧ Hid ((cl C k).a = va) ∧ Hid ((cl C k).c = vc) := ⟨_, _, _, rfl, rfl, rfl⟩
              rw [HLL.out] at hLn hty hIL d0 HRN HTL
              rw [HVA.out] at d0 hIL
              rw [HVC.out] at d0
              have hLn' : L.length = n := by omega
              have hC0 : chkE n l = 0 := HNR.out.1
              have hLT : ∀ v, v < n → 0 ≤ L.getD v 0 ∧ L.getD v 0 < n := fun v hv => by
                obtain ⟨y, h1, h2⟩ := right_lt hty (u := v) (by rw [hLn']; exact hv)
                have h3 := szL_length L
                rw [h1]
                omega
              have HTC := Lib.hid (touched_any va L vc n a l cap d ids dc wr hLn' hC0 hLT (by omega) HD.out (HRA.out.on (hp ▸ hbw)) hIL (HJ.out.on (hp ▸ hbw)))
              rw [hLn'] at HTC d0
              obtain ⟨⟨a0, a1⟩, _⟩ := two_cells ((HBR.out.block p (by omega)).trans HGW.out)
              have hmf : ∀ (fn : Fn) (first cap : Array Value) (w : World), (Instr.makeFunc fn first cap).run Try.prog w = .ok (.func fn first cap) w := fun _ _ _ _ => rfl
              have hgw : w1.heap.size < wr.heap.size := HTR.out.lt
              clear hcell hIL hLT hC0 hty hLn hbw hLn'
              go_wp2_with fail
              refine HTC.out.mono ?_
              rintro e w3 ⟨g, rfl, hgV, hT3, hb3⟩
              have hz3 := hb3.size
              have hg3 : g < w3.heap.size := hT3.lt
              have HB4 : Hid (Below w1.heap.size w1 (w3.alloc (.cells #[.slice (some ⟨g, 0, none⟩) n n] 53))) := (HBR.out.trans (hb3.mono (by omega))).alloc (by omega) _
              have HBV : Hid (Below wr.heap.size wr (w3.alloc (.cells #[.slice (some ⟨g, 0, none⟩) n n] 53))) := hb3.alloc (by omega) _
              have HG4 := Lib.hid (heap_top w3 (.cells #[.slice (some ⟨g, 0, none⟩) n n] 53))
              have HT4 : Hid (TbV (w3.alloc (.cells #[.slice (some ⟨g, 0, none⟩) n n] 53)) g n 4 (boV (tcP L l ids ids.length))) := hT3.same (Below.heap_alloc _ _ _ hg3)
              have i0 := cell_of_one HG4.out
              have hu1 : (w3.alloc (.cells #[.slice (some ⟨g, 0, none⟩) n n] 53)).heap.size = w3.heap.size + 1 := by simp
              clear HTC hT3 hb3 a0 a1 d0
              go_wp2_with fail
              generalize hU : w3.alloc (.cells #[.slice (some ⟨g, 0, none⟩) n n] 53) = U at *
              clear hU
              refine (chosenS_any n (tcP L l ids ids.length) (.pointer (some ⟨w3.heap.size, 0, none⟩)) U (by omega) (fun c hc W2 hb => ?_)).mono ?_
              · exact ceS1_any c n w3.heap.size g (tcP L l ids ids.length) W2 hc ((hb.cell (p := ⟨w3.heap.size, 0, none⟩) (by show w3.heap.size < _; omega)).trans (cell_of_one HG4.out)) (HT4.out.same (hb.block g (by omega)))
              · rintro e w5 ⟨v, rfl, hrow5, hb5⟩
                have HB5 : Hid (Below w1.heap.size w1 w5) := HB4.out.trans (hb5.mono (by omega))
                have hbV5 : Below wr.heap.size wr w5 := HBV.out.trans (hb5.mono (by omega))
                have HT5 : Hid (TbV w5 w1.heap.size C.length 25 (rwV n (csl C) l ids vs k)) := HTR.out.same (hbV5.block _ hgw)
                have q0 := HT5.out.free k
                have r0 := HT5.out.cell hlk
                rw [← HTL.out] at hrow5
                obtain ⟨m5, HM5⟩ := named (cho (tcP L l ids ids.length) n).length
                have HTN : Hid (TbV (w5.setCell ⟨w1.heap.size, k, none⟩ (.slice v m5 m5)) w1.heap.size C.length 25 (rwV n (csl C) l ids (fun y => if y = k then v else vs y) (k + 1))) := (HT5.out.set k _).congr (fun j _ => by
                  have := HRN.out v j
                  rw [HTL.out, HM5.out] at this
                  exact this)
                have HBN : Hid (Below w1.heap.size w1 (w5.setCell ⟨w1.heap.size, k, none⟩ (.slice v m5 m5))) := HB5.out.setCell (p := ⟨w1.heap.size, k, none⟩) (Nat.le_refl _) _
                have HRO : Hid (∀ j, j < k + 1 → RowI (w5.setCell ⟨w1.heap.size, k, none⟩ (.slice v m5 m5)) (w1.heap.size + 1) ((fun y => if y = k then v else vs y) j) (ints (tcL n (lvl (csl C) j) l ids))) := fun j hj2 => by
                  refine RowI.set ?_ (Nat.lt_succ_self _) _ _
                  by_cases e : j = k
                  · subst e
                    rw [csl_at, HLL.out]
                    simp only [if_true]
                    exact hrow5.base (by omega)
                  · simp only [e, if_false]
                    exact (HRR2.out j (by omega)).on hbV5
                rw [HM5.out]
                clear hrow5 hb5 hbV5 HT4 HG4 i0 HTR HRR2
                go_wp2_with fail
                exact ⟨⟨k + 1, _, by omega, by simp, HTN, HRO, HBN⟩, by simp [intOf]; omega⟩
            · obtain rfl : k = C.length := by omega
              have hlk' : ¬ (C.length : Int) < C.length := by omega
              have HFIN := Lib.hid (stC_rws hn8 HTR.out HRR2.out)
              have HBF : Hid (Below p w wr) := HB1.out.trans (HBR.out.mono (by omega))
              clear HTR HRR2
              go_wp2_with fail
              go_ret2
              first | exact ⟨⟨w1.heap.size, vs, rfl, HFIN.out⟩, HBF.out⟩ | exact ⟨(fun _ => ⟨w1.heap.size, vs, rfl, HFIN.out⟩), (fun h => absurd rfl h), HBF.out⟩ | exact ⟨⟨w1.heap.size, rfl, vs, HFIN.out⟩, HBF.out⟩
  · have e1 : (E != 0) = true := by simpa using hE
    obtain rfl : S = E := by rw [HST.out, if_pos hE]
    go_wp2_with fail
    go_ret2
    first | exact ⟨rfl, HB1.out⟩ | exact ⟨(fun h => absurd h hE), (fun _ => rfl), HB1.out⟩
end Go.Proofs.Ytpmjbeiclmllmaa
namespace Go.Proofs.Ytpmjbeiclmllmaa
open Go.RowKit
/-- Rows of the cells that some arcs lie in, as far as they are made. -/
def TcR (w : World) (B n : Nat) (l : List A) (ids : List Int) (C V : List Cl) (k : Nat) (av : Option Addr) (cv : Nat) : Prop :=
  w.ownsRow B 25 1 (.slice av k cv) k (V.map Cl.val) ∧ V.length = k ∧ ∀ j, j < k → w.ownsRow B 3 1 (cl V j).val (cl V j).xs.length (cellsI (cl V j).xs) ∧ (cl V j).xs = ints (tcL n (cl C j).xs l ids)
theorem TcR.on {w w' : World} {B n : Nat} {l : List A} {ids : List Int} {C V : List Cl} {k : Nat} {av : Option Addr} {cv : Nat} (h : TcR w B n l ids C V k av cv) (hb : Below w.heap.size w w') : TcR w' B n l ids C V k av cv := ⟨own_on h.1 hb, h.2.1, fun j hj => ⟨own_on (h.2.2 j hj).1 hb, (h.2.2 j hj).2⟩⟩
theorem TcR.rws {w : World} {B n : Nat} {l : List A} {ids : List Int} {C V : List Cl} {k : Nat} {av : Option Addr} {cv : Nat} (h : TcR w B n l ids C V k av cv) (hn : n ≤ 1024) : Rws w av V := by
  obtain ⟨h2, h3, h4⟩ := h
  refine ⟨?_, fun j hj => ?_⟩
  · by_cases h0 : V = []
    · exact .inl h0
    · right
      rcases h2.2 with ⟨_, h'⟩ | ⟨g, c', cur, h', hb', hg, hnc, hm, hcs, ht⟩
      · rw [h'] at h3; exact absurd (List.eq_nil_of_length_eq_zero h3) h0
      · injection h' with e1 e2 e3
        subst e1
        refine ⟨g, 0, rfl, lt_of_block hg, fun j hj => ?_⟩
        rw [Nat.zero_add]
        have h5 := World.ownsRow.cellAt h2 j (by rw [Nat.mul_one, ← h3]; exact hj)
        rw [h5, List.getElem?_map]
        simp [cl, List.getD, List.getElem?_eq_getElem hj]
  · obtain ⟨h5, h6⟩ := h4 j (by omega)
    refine ⟨ints_own h5, ?_⟩
    rw [h6, ints_len]
    have := cho_len (tcP (cl C j).xs l ids ids.length) n
    unfold tcL
    omega
theorem own_sl {w : World} {B : Nat} {v : Value} {m : Nat} {xs : List Value} (h : w.ownsRow B 3 1 v m xs) : ∃ a c, v = .slice a m c := by
  rcases h.2 with ⟨rfl, h2⟩ | ⟨g, c, cur, rfl, _⟩
  · first | exact ⟨none, 0, by rw [h2]⟩ | exact ⟨none, 0, by rw [h2.1]⟩ | exact ⟨none, 0, by simp_all⟩
  · exact ⟨_, _, rfl⟩
theorem allk_tcL (n : Nat) (L : List Int) (l : List A) (ids : List Int) : allk (tcP L l ids ids.length) n = tcL n L l ids := rfl
set_option maxRecDepth 100000 in
set_option maxHeartbeats 1600000 in
theorem rtouched_any (n : Nat) (a : Option Addr) (l : List A) (cap : Nat) (ba : Option Addr) (bs : List Int) (bc : Nat) (ca : Option Addr) (C : List Cl) (cc : Nat) (d : Option Addr) (ids : List Int) (dc : Nat) (w : World) (hC : chkE n l = 0) (hC5 : C.length ≤ 5) (hbs : bs.length = C.length) (hLn : ∀ j, j < C.length → (cl C j).xs.length = n ∧ ∀ v, v < n → 0 ≤ (cl C j).xs.getD v 0 ∧ (cl C j).xs.getD v 0 < n) (h8 : ids.length ≤ 16384) (hd : ∀ i, i < ids.length → 0 ≤ ids.getD i 0 ∧ ids.getD i 0 < l.length) (hr : Arcs w a l) (hR : Rws w ca C) (hi : Ints w d ids) :
    Calls Try.prog 66 #[.agg #[.int .i64 n, .slice a l.length cap], .agg #[.slice ba bs.length bc, .slice ca C.length cc], .slice d ids.length dc] w fun e w' => ∃ av cv V, e = .returned (.slice av C.length cv) ∧ TcR w' w.heap.size n l ids C V C.length av cv ∧ Below w.heap.size w w' := by
  obtain ⟨hg0, hg1, hb0, hsz⟩ := top2 w (.cells #[.int .i64 n, .slice a l.length cap] 24) (.cells #[.slice ba bs.length bc, .slice ca C.length cc] 28)
  rw [hbs] at hg0 hg1 hb0 hsz
  rw [hbs]
  obtain ⟨i25, hi25, hz25, hs25, hby25⟩ := info_parts info25r
  obtain ⟨i4, hi4, hz4, hs4, hby4⟩ := info_parts info4
  have hn8 : n ≤ 1024 := by have := (chk_zero hC).2.1; omega
  have hl8 : l.length ≤ 8192 := (chk_zero hC).2.2.1
  have hmk : ∀ w, (Instr.makeSlice 53 (.int .i64 n) (.int .i64 n)).run Try.prog w = .ok (.slice (some ⟨w.heap.size, 0, none⟩) n n) (w.alloc (.cells ((List.range n).map (fun _ => Value.bool false)).toArray 4)) := fun w => by
    have := run_make (P := Try.prog) w 53 4 i4 (.bool false) Try.underlying53 hi4 hz4 .i64 .i64 n n (by omega) (by omega) (by rw [hby4]; omega) (by omega)
    rw [hs4] at this
    rw [this, Int.toNat_natCast, made_bool]
  have HCK := Lib.hid hC
  have HLN := Lib.hid hLn
  have HD := Lib.hid hd
  have HRA := Lib.hid hr
  have HRR := Lib.hid hR
  obtain ⟨bx, ox, hbx⟩ := hR.get
  have HBX := Lib.hid hbx
  obtain ⟨ia, oa, hia⟩ := hr.get
  obtain ⟨iz, oz, hiz⟩ := hi.get
  have HIA := Lib.hid hia
  have HIZ := Lib.hid hiz
  have HB0 := Lib.hid hb0
  have HG0 := Lib.hid hg0
  have HG1 := Lib.hid hg1
  clear hbx hr hR hi hia hiz hC hLn hb0 hg0 hg1 hd
  generalize hp : w.heap.size = p at *
  go_enter Try.func66, Try.ntmps66
  go_wp2_with fail
  generalize hW : (w.alloc (.cells #[.int .i64 n, .slice a l.length cap] 24)).alloc (.cells #[.slice ba C.length bc, .slice ca C.length cc] 28) = W at *
  clear hW
  go_loopw [7, 8] (fun s i wr => ∃ (k : Nat) (av : Option Addr) (cv : Nat) (V : List Cl), k ≤ C.length ∧ i = .int .i64 ((k : Int) + 1) ∧ s = .slice av k cv ∧ Hid (TcR wr (p + 2) n l ids C V k av cv) ∧ Hid (Below (p + 2) W wr)) (fun _ i _ => C.length + 1 - (intOf i).toNat)
  case atStart => exact ⟨0, none, 0, [], Nat.zero_le _, rfl, rfl, ⟨World.ownsRow_nil _ _ _ _, rfl, fun j hj => absurd hj (by omega)⟩, Below.refl _ _⟩
  case round =>
    obtain ⟨k, av, cv, V, hk, rfl, rfl, HTC, HBR⟩ := hrel
    have hwz : p + 2 ≤ wr.heap.size := by have := HBR.out.size; omega
    have hbw : Below p w wr := HB0.out.trans (HBR.out.mono (by omega))
    have HBW := Lib.hid hbw
    have HK0 := Lib.hid ((HBR.out.block p (by omega)).trans HG0.out)
    have HK1 := Lib.hid ((HBR.out.block (p + 1) (by omega)).trans HG1.out)
    obtain ⟨⟨k0, k1⟩, _⟩ := two_cells HK0.out
    obtain ⟨⟨k2, k3⟩, _⟩ := two_cells HK1.out
    by_cases hlk : k < C.length
    · have hlk' : (k : Int) + 1 ≤ C.length := by omega
      obtain ⟨rfl, hbl, hcell⟩ := HBX.out (by omega)
      have d0 := hcell k hlk
      unfold Cl.val at d0
      have hIL := (HRR.out.2 k hlk).1
      obtain ⟨hLn, hLt⟩ := HLN.out k hlk
      obtain ⟨L, va, vc, HLL, HVA, HVC⟩ : ∃ L va vc, Hid ((cl C k).xs = L) ∧ Hid ((cl C k).a = va) ∧ Hid ((cl C k).c = vc) := ⟨_, _, _, rfl, rfl, rfl⟩
      rw [hLn, HVA.out, HVC.out] at d0
      rw [HLL.out, HVA.out] at hIL
      rw [HLL.out] at hLn hLt
      have HLT := Lib.hid hLt
      obtain ⟨il, ol, hil⟩ := hIL.get
      rw [hLn] at hil
      have HIL := Lib.hid hil
      have HD0 := Lib.hid d0
      have hj' : (k : Int) < C.length := by omega
      have ej : (k : Int) + 1 - 1 = k := by omega
      have ev1 : IntKind.i64.wrap ((k : Int) + 1 - 1) = k := by rw [IntKind.wrap_i64]; omega
      have ev2 : IntKind.i64.wrap (k : Int) = k := by rw [IntKind.wrap_i64]; omega
      have ev3 : IntKind.i64.wrap ((k : Int) + 1 + 1) = (k : Int) + 1 + 1 := by rw [IntKind.wrap_i64]; omega
      have hj0 : (0 : Int) ≤ k := by omega
      have HBM : Hid (Below wr.heap.size wr (wr.alloc (.cells ((List.range n).map (fun _ => Value.bool false)).toArray 4))) := (Below.refl _ _).alloc (Nat.le_refl _) _
      have HT0 : Hid (TbV (wr.alloc (.cells ((List.range n).map (fun _ => Value.bool false)).toArray 4)) wr.heap.size n 4 (boV (tcP L l ids 0))) := by
        have h := heap_top wr (.cells ((List.range n).map (fun _ => Value.bool false)).toArray 4)
        show TbV _ _ _ _ _
        unfold TbV
        rw [h]
        congr 3
      clear hcell d0 hIL hil hLt hbw HBX
      go_wp2_with fail
      generalize wr.alloc (.cells ((List.range n).map (fun _ => Value.bool false)).toArray 4) = w2 at *
      generalize hq : wr.heap.size = q at *
      clear k0 k1 k2 k3
      generalize wr = wo at *
      go_loopw [10] (fun i wr => ∃ (m : Nat), m ≤ ids.length ∧ i = .int .i64 m ∧ Hid (TbV wr q n 4 (boV (tcP L l ids m))) ∧ Hid (Below q wo wr)) (fun i _ => ids.length - (intOf i).toNat)
      case atStart => exact ⟨0, Nat.zero_le _, rfl, HT0, HBM⟩
      case round =>
        clear HT0 HBM
        obtain ⟨m, hm, rfl, HTI, HBI⟩ := hrel
        have hqi : q < wr.heap.size := HTI.out.lt
        have hbpi : Below p w wr := HBW.out.trans (HBI.out.mono (by omega))
        obtain ⟨⟨a0, a1⟩, _⟩ := two_cells ((HBI.out.block p (by omega)).trans HK0.out)
        obtain ⟨⟨a2, a3⟩, _⟩ := two_cells ((HBI.out.block (p + 1) (by omega)).trans HK1.out)
        by_cases hlm : m < ids.length
        · have hlm' : (m : Int) < ids.length := by omega
          have hm0 : (0 : Int) ≤ m := by omega
          obtain ⟨rfl, hzl, hzat⟩ := HIZ.out (by omega)
          have s0 := (hbpi.cell (p := ⟨iz, oz + m, none⟩) (hp ▸ hzl)).trans (hzat m hlm)
          have HCT := Lib.hid (tcP_t (L := L) (l := l) hlm)
          have HCF := Lib.hid (tcP_f (L := L) (l := l) hlm)
          obtain ⟨d0, d1⟩ := HD.out m hlm
          obtain ⟨i, HII⟩ : ∃ i : Nat, Hid (ids.getD m 0 = (i : Int)) := ⟨(ids.getD m 0).toNat, by show _ = _; omega⟩
          rw [HII.out, Int.toNat_natCast] at HCT HCF
          rw [HII.out] at s0 d0 d1
          have hil2 : i < l.length := by omega
          obtain ⟨rfl, hal, hat⟩ := HIA.out (by omega)
          obtain ⟨x0, x1, x2⟩ := hat i hil2
          have y0 := (hbpi.cell (p := ⟨ia, oa + i * 3, none⟩) (hp ▸ hal)).trans x0
          have y1 := (hbpi.cell (p := ⟨ia, oa + i * 3 + 1, none⟩) (hp ▸ hal)).trans x1
          have y2 := (hbpi.cell (p := ⟨ia, oa + i * 3 + 2, none⟩) (hp ▸ hal)).trans x2
          have hin := chk_in HCK.out hil2
          generalize l.getD i A.zero = x at *
          obtain ⟨xf, xt, xw⟩ := x
          obtain ⟨⟨f0, f1⟩, t0, t1⟩ := hin
          simp only at f0 f1 t0 t1 y0 y1 y2
          obtain ⟨u, rfl⟩ : ∃ u : Nat, xf = u := ⟨xf.toNat, by omega⟩
          obtain ⟨v, rfl⟩ : ∃ v : Nat, xt = v := ⟨xt.toNat, by omega⟩
          obtain ⟨rfl, hll, hlat⟩ := HIL.out (by omega)
          have l0 := hlat u (by omega)
          have l1 := hlat v (by omega)
          have HPR : Hid (prt L ⟨(u : Int), (v : Int), xw⟩ = (L.getD u 0 != L.getD v 0)) := by
            show _ = _
            unfold prt lb
            simp only [Int.toNat_natCast]
            exact dec_ne _ _
          have HLB : Hid (lb L (u : Int) = L.getD u 0) := by show _ = _; unfold lb; rw [Int.toNat_natCast]
          obtain ⟨e0, e1⟩ := HLT.out u (by omega)
          obtain ⟨y, HY⟩ : ∃ y : Nat, Hid (L.getD u 0 = (y : Int)) := ⟨(L.getD u 0).toNat, by show _ = _; omega⟩
          obtain ⟨lw, HLV⟩ := named (L.getD v 0)
          rw [HY.out] at l0 e0 e1 HLB
          rw [HLV.out] at l1
          rw [HY.out, HLV.out] at HPR
          rw [HPR.out] at HCT HCF
          have L0 := Lib.hid l0
          have L1 := Lib.hid l1
          have hid' : (i : Int) < l.length := by omega
          have hid0 : (0 : Int) ≤ i := by omega
          have hyn : y < n := by omega
          clear x0 x1 x2 hat hlat hzat l0 l1
          have hbz : Below wr.heap.size wr (wr.alloc (.cells #[.int .i64 0, .int .i64 0, .int .u32 0] 56)) := (Below.refl _ _).alloc (Nat.le_refl _) _
          have s00 := (hbz.cell (p := ⟨iz, oz + m, none⟩) (World.block_lt_of_cell? wr _ s0)).trans s0
          have y00 := (hbz.cell (p := ⟨ia, oa + i * 3, none⟩) (World.block_lt_of_cell? wr _ y0)).trans y0
          have y11 := (hbz.cell (p := ⟨ia, oa + i * 3 + 1, none⟩) (World.block_lt_of_cell? wr _ y1)).trans y1
          have y22 := (hbz.cell (p := ⟨ia, oa + i * 3 + 2, none⟩) (World.block_lt_of_cell? wr _ y2)).trans y2
          have a11 := (hbz.cell (p := ⟨p, 1, none⟩) (World.block_lt_of_cell? wr _ a1)).trans a1
          have A3 := Lib.hid a3
          have HBP := Lib.hid hbpi
          clear hbz hbpi
          go_wp2_with fail
          go_region
          have hGX := heap_top wr (.cells #[.int .i64 u, .int .i64 v, .int .u32 xw] 56)
          have HBV : Hid (Below wr.heap.size wr (wr.alloc (.cells #[.int .i64 u, .int .i64 v, .int .u32 xw] 56)).drew) := ((Below.refl _ _).alloc (Nat.le_refl _) _).drew
          have hGX2 : (wr.alloc (.cells #[.int .i64 u, .int .i64 v, .int .u32 xw] 56)).drew.heap[wr.heap.size]? = some (.cells #[.int .i64 u, .int .i64 v, .int .u32 xw] 56) := hGX
          have HGX := Lib.hid hGX2
          generalize hV : (wr.alloc (.cells #[.int .i64 u, .int .i64 v, .int .u32 xw] 56)).drew = X at *
          clear hV hGX hGX2 s00 y00 y11 y22 a11 y0 y1 y2 s0 a0 a1 a2 a3
          have hbVw : Below p w X := HBP.out.trans (HBV.out.mono (by have := HBP.out.size; omega))
          have b3 := (HBV.out.cell (p := ⟨p + 1, 1, none⟩) (by show p + 1 < _; omega)).trans A3.out
          have d0 := (hbVw.cell (p := ⟨bx, ox + k, none⟩) (hp ▸ hbl)).trans HD0.out
          have l0 := (hbVw.cell (p := ⟨il, ol + u, none⟩) (hp ▸ hll)).trans L0.out
          have l1 := (hbVw.cell (p := ⟨il, ol + v, none⟩) (hp ▸ hll)).trans L1.out
          obtain ⟨z0, z1, z2⟩ := three_cells HGX.out
          have hu1 : (u : Int) < n := by omega
          have hv1 : (v : Int) < n := by omega
          have hu0 : (0 : Int) ≤ u := by omega
          have hv0 : (0 : Int) ≤ v := by omega
          have hzV := HBV.out.size
          have HTX : Hid (TbV X q n 4 (boV (tcP L l ids m))) := HTI.out.same (HBV.out.block _ hqi)
          have HBXq : Hid (Below q wo X) := HBI.out.trans (HBV.out.mono (by omega))
          have hqa : q ≠ wr.heap.size := by omega
          generalize wr.heap.size = qa at *
          have B3 := Lib.hid b3
          have D0 := Lib.hid d0
          have LL0 := Lib.hid l0
          have Z0 := Lib.hid z0
          have HNQ : Hid (∀ nq, TbV (X.drewN nq) q n 4 (boV (tcP L l ids m)) ∧ Below q wo (X.drewN nq) ∧ (X.drewN nq).cell? ⟨p + 1, 1, none⟩ = some (.slice (some ⟨bx, ox, none⟩) C.length cc) ∧ (X.drewN nq).cell? ⟨bx, ox + k, none⟩ = some (.slice (some ⟨il, ol, none⟩) n vc) ∧ (X.drewN nq).cell? ⟨il, ol + u, none⟩ = some (.int .i64 y) ∧ (X.drewN nq).cell? ⟨qa, 0, none⟩ = some (.int .i64 u)) := fun nq => ⟨HTX.out, HBXq.out.trans (below_drewN _ _ nq), B3.out, D0.out, LL0.out, Z0.out⟩
          clear hbVw
          go_wp2_with fail
          go_quiet (fail)
          obtain ⟨h1x, h2x, c0, c1, c2, c3⟩ := HNQ.out nq
          have HTY := Lib.hid h1x
          have HBY := Lib.hid h2x
          clear b3 d0 l0 l1 z0 z1 z2 HGX HNQ B3 D0 LL0 Z0 HTX HBXq h1x h2x
          generalize X.drewN nq = Y at *
          cases hb : ((y : Int) != lw) with
          | true =>
            have HTN : Hid (TbV Y q n 4 (boV (tcP L l ids (m + 1)))) := HTY.out.congr (fun c _ => by show Value.bool _ = Value.bool _; rw [HCF.out hb])
            have hb2 : ((y : Int) == lw) = false := by simpa using hb
            go_wp2_with fail
            exact ⟨⟨m + 1, by omega, by simp, HTN, HBY⟩, by simp [intOf]; omega⟩
          | false =>
            have hb2 : ((y : Int) == lw) = true := by simpa using hb
            have q0 := HTY.out.free y
            have r0 := HTY.out.cell (v := y) hyn
            have hy' : (y : Int) < n := by omega
            have HTN : Hid (∀ Z : World, Z.heap[q]? = (Y.setCell ⟨q, y, none⟩ (.bool true)).heap[q]? → TbV Z q n 4 (boV (tcP L l ids (m + 1)))) := fun Z hZ => (((HTY.out.set y (.bool true)).congr (fun c _ => by
              rw [boV_set]
              show Value.bool _ = Value.bool _
              rw [HCT.out hb]
              simp only [HLB.out, Int.toNat_natCast]))).same hZ
            have HBN : Hid (Below q wo (Y.setCell ⟨q, y, none⟩ (.bool true))) := HBY.out.setCell (p := ⟨q, y, none⟩) (by simp) _
            go_wp2_with fail
            go_region
            have HTM : Hid (TbV (Y.setCell ⟨q, y, none⟩ (.bool true)).drew q n 4 (boV (tcP L l ids (m + 1)))) := HTN.out _ rfl
            have HBM : Hid (Below q wo (Y.setCell ⟨q, y, none⟩ (.bool true)).drew) := HBN.out.drew
            go_wp2_with fail
            exact ⟨⟨m + 1, by omega, by simp, HTM, HBM⟩, by simp [intOf]; omega⟩
        · have hlm' : ¬ (m : Int) < ids.length := by omega
          obtain rfl : m = ids.length := by omega
          have HAL := Lib.hid (rall_any (F := tcP L l ids ids.length) hn8 HTI.out)
          rw [allk_tcL] at HAL
          clear a0 a1 a2 a3
          go_wp2_with fail
          refine HAL.out.mono ?_
          rintro e w3 ⟨v3, rfl, hown3, hb3⟩
          obtain ⟨xa, xc, rfl⟩ := own_sl hown3
          have HB3 : Hid (Below q wo w3) := HBI.out.trans (hb3.mono (by omega))
          have HOX := Lib.hid hown3
          have HDE : Hid (tcL n (cl C k).xs l ids = tcL n L l ids) := by show _ = _; rw [HLL.out]
          obtain ⟨D, HDD⟩ := named (tcL n L l ids)
          rw [HDD.out] at HOX HDE
          have hz3 : q < w3.heap.size := by have := hb3.size; omega
          have HNW : Hid (∀ j u, [Value.slice xa D.length xc][j]? = some u → (w3.alloc (.cells #[.slice xa D.length xc] 25)).cell? ((⟨w3.heap.size, 0, none⟩ : Addr).add j) = some u) := by
            intro j u hu
            match j, hu with
            | 0, hu => simp at hu; subst hu; simp [Addr.add]
          have HB4 : Hid (Below q wo (w3.alloc (.cells #[.slice xa D.length xc] 25))) := HB3.out.alloc (by omega) _
          have HTA : Hid (TcR (w3.alloc (.cells #[.slice xa D.length xc] 25)) (p + 2) n l ids C V k av cv) := HTC.out.on (hq ▸ HB4.out)
          have HOA : Hid ((w3.alloc (.cells #[.slice xa D.length xc] 25)).ownsRow (p + 2) 3 1 (.slice xa D.length xc) D.length (cellsI (ints D))) := own_base (HOX.out.alloc _) (by omega)
          have HOV := Lib.hid HTA.out.1
          have hsz4 : (w3.alloc (.cells #[.slice xa D.length xc] 25)).heap.size = w3.heap.size + 1 := by simp
          have HBZ : Hid (p + 2 ≤ (w3.alloc (.cells #[.slice xa D.length xc] 25)).heap.size) := by show _ ≤ _; omega
          rw [HDD.out]
          clear hown3 hb3 HAL
          go_wp2_with (at_builtin; go_must (refine wpList_append_own _ rfl (.tmp 69) (.tmp 72) 26 rfl (p + 2) 25 i25 (.slice none 0 0) 1 24 Try.underlying26 hi25 hz25 hs25 hby25 rfl (by decide) (.slice av k cv) k (V.map Cl.val) rfl HOV.out ⟨w3.heap.size, 0, none⟩ 1 1 [.slice xa D.length xc] rfl rfl HNW.out (by intro u hu; simp at hu; subst hu; rfl) (by unfold maxLen; omega) (by omega) HBZ.out ?_; intro v5 w5 hown5 hgrow5 hnil5; obtain ⟨g5, c5, hv5, _, _, _, _⟩ := own_shape hown5 (fun e => by have := (hnil5.1 e).2; simp at this); subst hv5; have HO5 := Lib.hid hown5; have HGR := Lib.hid hgrow5; clear hown5 hgrow5 hnil5))
          have HB5 : Hid (Below (p + 2) W w5) := (HBR.out.trans (HB4.out.mono (by omega))).grown HGR.out HBZ.out (fun j hj => (HOV.out.lt j hj).1)
          have HT5 : Hid (TcR w5 (p + 2) n l ids C (V ++ [⟨xa, xc, ints D⟩]) (k + 1) (some ⟨g5, 0, none⟩) c5) := by
            have hVl := HTA.out.2.1
            refine ⟨?_, by rw [List.length_append, hVl]; rfl, fun j hj => ?_⟩
            · have := HO5.out
              rw [List.map_append]
              simpa [Cl.val, ints_len] using this
            · by_cases h : j < k
              · rw [cl_app_lt (by omega)]
                exact ⟨own_kept (HTA.out.2.2 j h).1 HOV.out (by decide) HGR.out, (HTA.out.2.2 j h).2⟩
              · have e : j = V.length := by omega
                rw [e, cl_app_eq]
                refine ⟨?_, ?_⟩
                · have h6 := own_kept HOA.out HOV.out (by decide) HGR.out
                  simpa [Cl.val, ints_len] using h6
                · rw [hVl, HDE.out]
          exact ⟨⟨k + 1, some ⟨g5, 0, none⟩, c5, V ++ [⟨xa, xc, ints D⟩], by omega, by simp, rfl, HT5, HB5⟩, by simp [intOf]; omega⟩
    · have hlk' : ¬ (k : Int) + 1 ≤ C.length := by omega
      obtain rfl : k = C.length := by omega
      go_wp2_with fail
      go_ret
      exact ⟨av, cv, rfl, ⟨V, ⟨own_base HTC.out.1 (by omega), HTC.out.2.1, fun j hj => ⟨own_base (HTC.out.2.2 j hj).1 (by omega), (HTC.out.2.2 j hj).2⟩⟩⟩, HBW.out⟩
end Go.Proofs.Ytpmjbeiclmllmaa
namespace Go.Proofs.Ytpmjbeiclmllmaa
open Go.RowKit
set_option maxRecDepth 100000 in
set_option maxHeartbeats 1600000 in
theorem rstale_any (N : Int) (a : Option Addr) (l : List A) (cap : Nat) (ba : Option Addr) (bs : List Int) (bc : Nat) (ca : Option Addr) (C : List Cl) (cc : Nat) (d : Option Addr) (ids : List Int) (dc : Nat) (w : World) (hl : l.length ≤ 9223372036854775807) (hbl : bs.length ≤ 9223372036854775807) (hr : Arcs w a l) (hi : Ints w ba bs) (hR : Rws w ca C) (hdl : ids.length ≤ 9223372036854775807) (hj : Ints w d ids) :
    Calls Try.prog 29 #[.agg #[.int .i64 N, .slice a l.length cap], .agg #[.slice ba bs.length bc, .slice ca C.length cc], .slice d ids.length dc] w fun e w' => (stE N l bs (csl C) ids = 0 → ∃ av cv V, e = .returned (.tuple #[.slice av C.length cv, .int .i64 0]) ∧ TcR w' w.heap.size N.toNat l ids C V C.length av cv) ∧ (stE N l bs (csl C) ids ≠ 0 → e = .returned (.tuple #[.slice none 0 0, .int .i64 (stE N l bs (csl C) ids)])) ∧ Below w.heap.size w w' := by
  have hb0 : Below w.heap.size w ((w.alloc (.cells #[.int .i64 N, .slice a l.length cap] 24)).alloc (.cells #[.slice ba bs.length bc, .slice ca C.length cc] 28)) := (top2 w _ _).2.2.1
  have hg0 := (top2 w (.cells #[.int .i64 N, .slice a l.length cap] 24) (.cells #[.slice ba bs.length bc, .slice ca C.length cc] 28)).1
  have hg1 := (top2 w (.cells #[.int .i64 N, .slice a l.length cap] 24) (.cells #[.slice ba bs.length bc, .slice ca C.length cc] 28)).2.1
  have hsz := (top2 w (.cells #[.int .i64 N, .slice a l.length cap] 24) (.cells #[.slice ba bs.length bc, .slice ca C.length cc] 28)).2.2.2
  obtain ⟨⟨a0, a1⟩, _⟩ := two_cells hg0
  obtain ⟨⟨a2, a3⟩, _⟩ := two_cells hg1
  have HB0 := Lib.hid hb0
  have HCK := Lib.hid (rnck_any N a l cap ba bs bc ca C cc _ hl hbl (hr.on hb0) (hi.on hb0) (hR.on hb0))
  obtain ⟨E, HE⟩ := named (nsE N l bs (csl C))
  generalize nsW N l bs (csl C) = nw at *
  rw [HE.out] at HCK
  have HG0 := Lib.hid hg0
  have HG1 := Lib.hid hg1
  have HST : Hid (stE N l bs (csl C) ids = if E ≠ 0 then E else if 16384 < ids.length then 2 else if ids.all (fun i => decide (0 ≤ i ∧ i < (l.length : Int))) then 0 else 5) := by
    show _ = _
    unfold stE
    rw [HE.out]
  obtain ⟨S, HSS⟩ := named (stE N l bs (csl C) ids)
  rw [HSS.out] at HST
  rw [HSS.out]
  have HRA := Lib.hid hr
  have HRR := Lib.hid hR
  have HJ := Lib.hid hj
  clear hr hi hR hj hb0 HSS
  generalize hp : w.heap.size = p at *
  go_enter Try.func29, Try.ntmps29
  go_wp2_with fail
  generalize hW : (w.alloc (.cells #[.int .i64 N, .slice a l.length cap] 24)).alloc (.cells #[.slice ba bs.length bc, .slice ca C.length cc] 28) = W at *
  clear hW
  refine HCK.out.mono ?_
  rintro e w1 ⟨rfl, hb1⟩
  have HB1 : Hid (Below p w w1) := HB0.out.trans (hb1.mono (by omega))
  have HG0 : Hid (w1.heap[p]? = some (.cells #[.int .i64 N, .slice a l.length cap] 24)) := (hb1.block p (by omega)).trans HG0.out
  have HG1 : Hid (w1.heap[p + 1]? = some (.cells #[.slice ba bs.length bc, .slice ca C.length cc] 28)) := (hb1.block (p + 1) (by omega)).trans HG1.out
  have hw1 : p + 2 ≤ w1.heap.size := by have := hb1.size; omega
  clear a0 a1 a2 a3 hg0 hg1 hb1 HCK HB0
  by_cases hE : E = 0
  · subst hE
    have HST : Hid (S = if 16384 < ids.length then 2 else if ids.all (fun i => decide (0 ≤ i ∧ i < (l.length : Int))) then 0 else 5) := by
      show _ = _
      rw [HST.out, if_neg (by simp)]
    by_cases h16 : 16384 < ids.length
    · have h16' : (16384 : Int) < ids.length := by omega
      obtain rfl : S = 2 := by rw [HST.out, if_pos h16]
      go_wp2_with fail
      go_ret2
      exact ⟨(fun h => absurd h (by decide)), (fun _ => rfl), HB1.out⟩
    · have h16' : ¬ (16384 : Int) < ids.length := by omega
      have HST : Hid (S = if ids.all (fun i => decide (0 ≤ i ∧ i < (l.length : Int))) then 0 else 5) := by
        show _ = _
        rw [HST.out, if_neg h16]
      obtain ⟨iz, oz, hiz⟩ := HJ.out.get
      have HIZ := Lib.hid hiz
      clear hiz
      go_wp2_with fail
      go_loopw [10] (fun i wr => ∃ (k : Nat), k ≤ ids.length ∧ i = .int .i64 k ∧ Hid ((ids.take k).all (fun i => decide (0 ≤ i ∧ i < (l.length : Int))) = true) ∧ Hid (Below w1.heap.size w1 wr)) (fun i _ => ids.length - (intOf i).toNat)
      case atStart => exact ⟨0, Nat.zero_le _, rfl, by show _ = _; simp, Below.refl _ _⟩
      case round =>
        obtain ⟨k, hk, rfl, HK, HBR⟩ := hrel
        have hbw : Below p w wr := HB1.out.trans (HBR.out.mono (by omega))
        obtain ⟨⟨a0, a1⟩, _⟩ := two_cells ((HBR.out.block p (by omega)).trans HG0.out)
        by_cases hlk : k < ids.length
        · have hlk' : (k : Int) < ids.length := by omega
          have hk0 : (0 : Int) ≤ k := by omega
          obtain ⟨rfl, hzl, hzat⟩ := HIZ.out (by omega)
          have s0 := (hbw.cell (p := ⟨iz, oz + k, none⟩) (hp ▸ hzl)).trans (hzat k hlk)
          have HT := Lib.hid (all_take_I (p := (fun i => decide (0 ≤ i ∧ i < (l.length : Int)))) hlk HK.out)
          have HF := Lib.hid (all_not_I (p := (fun i => decide (0 ≤ i ∧ i < (l.length : Int)))) hlk)
          have HBD : Hid (∀ m, Below p w (wr.drewN m)) := fun m => hbw.trans (below_drewN _ _ m)
          have HBE : Hid (∀ m, Below w1.heap.size w1 (wr.drewN m)) := fun m => HBR.out.trans (below_drewN _ _ m)
          generalize ids.getD k 0 = x at *
          clear hzat hbw
          by_cases h1 : x < 0
          · obtain rfl : S = 5 := by rw [HST.out, if_neg (by rw [HF.out (decide_eq_false (by omega))]; simp)]
            have g1 : decide (x < 0) = true := decide_eq_true h1
            go_wp2_with fail
            go_quiet (fail)
            go_wp2_with fail
            go_ret2
            exact ⟨(fun h => absurd h (by decide)), (fun _ => rfl), HBD.out _⟩
          · have g1 : decide (x < 0) = false := decide_eq_false h1
            by_cases h2 : (l.length : Int) ≤ x
            · obtain rfl : S = 5 := by rw [HST.out, if_neg (by rw [HF.out (decide_eq_false (by omega))]; simp)]
              have g2 : decide ((l.length : Int) ≤ x) = true := decide_eq_true h2
              go_wp2_with fail
              go_quiet (fail)
              go_wp2_with fail
              go_ret2
              exact ⟨(fun h => absurd h (by decide)), (fun _ => rfl), HBD.out _⟩
            · have g2 : decide ((l.length : Int) ≤ x) = false := decide_eq_false h2
              have HK2 : Hid ((ids.take (k + 1)).all (fun i => decide (0 ≤ i ∧ i < (l.length : Int))) = true) := HT.out (decide_eq_true (by omega))
              go_wp2_with fail
              go_quiet (fail)
              have HB4 := Lib.hid (HBE.out nq)
              generalize wr.drewN nq = X at *
              go_wp2_with fail
              exact ⟨⟨k + 1, by omega, by simp, HK2, HB4⟩, by simp [intOf]; omega⟩
        · obtain rfl : k = ids.length := by omega
          have hlk' : ¬ (ids.length : Int) < ids.length := by omega
          have HAL := HK.out
          rw [List.take_length] at HAL
          obtain rfl : S = 0 := by rw [HST.out, if_pos HAL]
          have hNR := nsE_zero.1 HE.out
          have h1024 := (chk_zero hNR.1).2.1
          have h0N := (chk_zero hNR.1).1
          obtain ⟨n, hn⟩ : ∃ n : Nat, N = n := ⟨N.toNat, by omega⟩
          subst hn
          have hcl : C.length = bs.length := by have := hNR.2.2.2.1; rw [csl_len] at this; exact this
          have h5 : C.length ≤ 5 := by have := hNR.2.2.1; omega
          have hn8 : n ≤ 1024 := by omega
          have hLT : ∀ j, j < C.length → (cl C j).xs.length = n ∧ ∀ v, v < n → 0 ≤ (cl C j).xs.getD v 0 ∧ (cl C j).xs.getD v 0 < n := fun j hj => by
            obtain ⟨hLn, hty, _, _⟩ := hNR.lv (show j < bs.length by omega)
            rw [csl_at] at hLn hty
            have hLn' : (cl C j).xs.length = n := by omega
            refine ⟨hLn', fun v hv => ?_⟩
            obtain ⟨y, h1, h2⟩ := right_lt hty (u := v) (by rw [hLn']; exact hv)
            have h3 := szL_length (cl C j).xs
            rw [h1]
            omega
          have HTC := Lib.hid (rtouched_any n a l cap ba bs bc ca C cc d ids dc wr hNR.1 h5 hcl.symm hLT (by omega) (fun i hi => by have := all_at_I HAL hi; simpa using this) (HRA.out.on (hp ▸ hbw)) (HRR.out.on (hp ▸ hbw)) (HJ.out.on (hp ▸ hbw)))
          obtain ⟨⟨a2, a3⟩, _⟩ := two_cells ((HBR.out.block (p + 1) (by omega)).trans HG1.out)
          have HBW := Lib.hid hbw
          have hpw : p ≤ wr.heap.size := by have := hbw.size; omega
          clear hNR hLT hbw HAL HK hcl
          go_wp2_with fail
          refine HTC.out.mono ?_
          rintro e w3 ⟨av, cv, V, rfl, ht3, hb3⟩
          have HT3 : Hid (TcR w3 p n l ids C V C.length av cv) := ⟨own_base ht3.1 hpw, ht3.2.1, fun j hj => ⟨own_base (ht3.2.2 j hj).1 hpw, (ht3.2.2 j hj).2⟩⟩
          have HB3 : Hid (Below p w w3) := HBW.out.trans (hb3.mono hpw)
          clear ht3 hb3 HTC a0 a1 a2 a3
          go_wp2_with fail
          go_ret2
          exact ⟨⟨av, cv, rfl, V, by simpa using HT3.out⟩, HB3.out⟩
  · have e1 : (E != 0) = true := by simpa using hE
    obtain rfl : S = E := by rw [HST.out, if_pos hE]
    go_wp2_with fail
    go_ret2
    exact ⟨fun h => absurd h hE, fun _ => rfl, HB1.out⟩
end Go.Proofs.Ytpmjbeiclmllmaa
