import Derived.Test.YtaafkpojjdjphaaGreatQBC
import Derived.Test.YtaafkpojjdjphaaGreatQAX
open Go.Lib (hid)
namespace Go.Proofs.YtaafkpojjdjphaaGreat
open Go.RowKit
theorem info84 : (Tryz.prog.info? 84).map (fun i => (i.zero, i.size, i.bytes)) = some (some (.agg #[.int .i64 0, .int .u32 0]), 2, 16) := by kernel_rfl
def cellsG : List G3.Cg → List Value
 | [] => []
 | x :: r => .int .i64 x.a :: .int .u32 x.w :: cellsG r
theorem cellsG_append : ∀ l m : List G3.Cg, cellsG (l ++ m) = cellsG l ++ cellsG m
 | [], _ => rfl
 | x :: r, m => by simp only [cellsG, List.cons_append, cellsG_append r m]
theorem cellsG_at : ∀ (l : List G3.Cg) (j : Nat), j < l.length → (cellsG l)[j * 2]? = some (.int .i64 (l.getD j G3.Cg.zero).a) ∧ (cellsG l)[j * 2 + 1]? = some (.int .u32 (l.getD j G3.Cg.zero).w)
 | [], _, h => absurd h (by simp)
 | x :: r, 0, _ => ⟨rfl, rfl⟩
 | x :: r, j + 1, h => by
   have := cellsG_at r j (by simpa using h)
   rw [show (j + 1) * 2 = j * 2 + 2 by omega]
   exact this
theorem cellsG_1 (x y : Int) : ∀ u ∈ [Value.int .i64 x, .int .u32 y], u.oneCell' = true := by
 intro u hu
 simp at hu
 rcases hu with rfl | rfl <;> rfl
theorem cgs_own {w : World} {B c n : Nat} {a : Option Addr} {m : List G3.Cg} (h : w.ownsRow B 84 2 (.slice a n c) n (cellsG m)) (hn : m.length = n) : G3.Cgs w a m := by
 subst hn
 by_cases h0 : 0 < m.length
 ·rcases h.2 with ⟨_, h'⟩ | ⟨g, c', cur, h', hb, hg, _⟩
  ·omega
  ·injection h' with e1 e2 e3
   subst e1
   refine Or.inr ⟨g, 0, rfl, lt_of_block hg, fun j hj => ?_⟩
   obtain ⟨h1, h2⟩ := cellsG_at m j hj
   rw [Nat.zero_add]
   exact ⟨(World.ownsRow.cellAt h (j * 2) (by omega)).trans h1, (World.ownsRow.cellAt h (j * 2 + 1) (by omega)).trans h2⟩
 ·exact Or.inl (List.eq_nil_of_length_eq_zero (by omega))
theorem two_new (w : World) (x y : Int) : ∀ j u, [Value.int .i64 x, .int .u32 y][j]? = some u → (w.alloc (.cells #[.int .i64 x, .int .u32 y] 84)).cell? ((⟨w.heap.size, 0, none⟩ : Addr).add j) = some u := by
 intro j u hu
 match j, hu with
 | 0, hu => simp at hu; subst hu; simp [Addr.add]
 | 1, hu => simp at hu; subst hu; simp [Addr.add]
theorem cgO_snoc {ids : List Nat} {x : Int} {k : Nat} (h : k < ids.length) : cellsG (cgO (ids.take (k + 1)) x) = cellsG (cgO (ids.take k) x) ++ [.int .i64 (ids.getD k 0 : Nat), .int .u32 x] := by
 unfold cgO
 rw [List.take_add_one, List.map_append, cellsG_append]
 simp [List.getD, List.getElem?_eq_getElem h, cellsG]
theorem rowI_ints {w : World} {B : Nat} {v : Option Addr} {ids : List Nat} (h : RowI w B v (ints ids)) : Ints w v (ints ids) := by
 rcases h with ⟨_, h⟩ | ⟨g, cur, rfl, hb, hg, hc⟩
 ·exact Or.inl h
 ·refine Or.inr ⟨g, 0, rfl, lt_of_block hg, fun j hj => ?_⟩
  have h1 := cellsI_getD (ints ids) j hj
  rw [← hc] at h1
  have h2 : cur[j]? = some (.int .i64 ((ints ids).getD j 0)) := by
   rw [List.getElem?_take, if_pos hj, Array.getElem?_toList] at h1
   exact h1
  simp [World.cell?, hg, h2]
set_option maxRecDepth 100000 in
set_option maxHeartbeats 12800000 in
theorem outer14_any (N : Int) (a : Option Addr) (l : List A) (cap : Nat) (ba : Option Addr) (bs : List Int) (bc : Nat) (ca : Option Addr) (C : List Cl) (cc : Nat) (wt : Int) (w : World) (hlen : l.length * 24 ≤ 140737488351232) (hnil : a = none → l = [] ∧ cap = 0) (hbl0 : bs.length * 8 ≤ 140737488351232) (hwt : ∀ x ∈ l, 0 ≤ x.w ∧ x.w < 4294967296) (hr : Arcs w a l) (hi : Ints w ba bs) (hR : Rws w ca C) (hx : 0 ≤ wt ∧ wt < 4294967296) :
  Calls Tryz.prog 8 #[.agg #[.int .i64 N, .slice a l.length cap], .agg #[.slice ba bs.length bc, .slice ca C.length cc], .int .u32 wt] w fun e w' => e = .returned (.bool true) ∧ Below w.heap.size w w' := by
 have hl : l.length ≤ 9223372036854775807 := by omega
 have hbl : bs.length ≤ 9223372036854775807 := by omega
 obtain ⟨i8, hi8, hz8, hs8, hby8⟩ := info_parts info84
 obtain ⟨hg0, hg1, hb0, hsz⟩ := top2 w (.cells #[.int .i64 N, .slice a l.length cap] 24) (.cells #[.slice ba bs.length bc, .slice ca C.length cc] 28)
 have HWK := hid (fun w => works14_any w)
 have HLG : Hid (∀ W2, Below w.heap.size w W2 → Calls Tryz.prog 36 #[.agg #[.int .i64 N, .slice a l.length cap]] W2 fun e w' => e = .returned (.bool (lgB N l)) ∧ Below W2.heap.size W2 w') := fun W2 hb => large14_any N a l cap W2 hl (hr.on hb)
 obtain ⟨S, HS⟩ := named (ouV N l bs (csl C) (bs.length : Nat))
 obtain ⟨E, HE⟩ := named (atE N l bs (csl C) (bs.length : Nat))
 have HOU : Hid (∀ W2, Below w.heap.size w W2 → Calls Tryz.prog 54 #[.agg #[.int .i64 N, .slice a l.length cap], .agg #[.slice ba bs.length bc, .slice ca C.length cc], .int .i64 (bs.length : Nat)] W2 fun e w' => ∃ v, e = .returned (.tuple #[.slice v S.length S.length, .int .i64 E]) ∧ Ints w' v (ints S) ∧ Below W2.heap.size W2 w') := fun W2 hb => by
  have h := outer_any N a l cap ba bs bc ca C cc (bs.length : Nat) W2 hl hbl (hr.on hb) (hi.on hb) (hR.on hb)
  rw [HS.out, HE.out] at h
  refine h.mono ?_
  rintro e w' ⟨v, q1, q2, q3⟩
  exact ⟨v, q1, rowI_ints q2, q3⟩
 have hE0 : E ≠ 0 → S = [] := fun h => by
  rw [← HS.out]
  unfold ouV
  rw [if_neg (by rw [HE.out]; exact h)]
 have hEn : E = 0 → NR N l bs (csl C) := fun h => (atE_zero (HE.out.trans h)).1
 have HAL : Hid (∀ W2, Below w.heap.size w W2 → NR N l bs (csl C) → Calls Tryz.prog 38 #[.agg #[.int .i64 N, .slice a l.length cap], .agg #[.slice ba bs.length bc, .slice ca C.length cc], .int .i64 0] W2 fun e w' => ∃ g O, e = .returned (.tuple #[.slice (some ⟨g, 0, none⟩) C.length C.length, .int .i64 0]) ∧ Hid (Ovs w' (some ⟨g, 0, none⟩) O) ∧ Hid (RgO N.toNat l bs (csl C) 0 O ∧ ∀ j, j < C.length → ∀ i, i < (szL (lvl (csl C) j)).length → (mt (lw O j).M i).ep = 0) ∧ Hid (Below W2.heap.size W2 w')) := fun W2 hb hN => by
  refine (all_any N a l cap ba bs bc ca C cc 0 W2 hl hbl (hr.on hb) (hi.on hb) (hR.on hb) hwt).mono ?_
  rintro e w' ⟨h1, h2, h3⟩
  obtain ⟨g, rv, R, q1, q2, q3⟩ := h1 ⟨nsE_zero.2 hN, by decide⟩
  have h0N := (chk_zero hN.1).1
  obtain ⟨O, f1, f2, f3⟩ := all_right (n := N.toNat) (by rw [show ((N.toNat : Nat) : Int) = N by omega]; exact hN) (by decide) q2 q3
  exact ⟨g, O, q1, f1, ⟨f2, f3⟩, h3⟩
 have HPK : Hid (NR N l bs (csl C) → SmE l (G3.chg l (cgO S wt)) ∧ (∀ j, j < bs.length → tcL N.toNat (lvl (csl C) j) l (ints S) = []) ∧ (∀ k : Nat, (k : Int) ∉ ints S → (G3.chg l (cgO S wt)).getD k A.zero = l.getD k A.zero) ∧ (∀ x ∈ G3.chg l (cgO S wt), 0 ≤ x.w ∧ x.w < 4294967296) ∧ G3.cgE N l (cgO S wt) = 0 ∧ S.length ≤ 8192 ∧ ∀ x ∈ ints S, 0 ≤ x ∧ x < ((G3.chg l (cgO S wt)).length : Int)) := fun hN => by
  have h0N := (chk_zero hN.1).1
  have hz : G3.cgE N l (cgO S wt) = 0 := by rw [← HS.out]; exact cgO_zero hN.1
  have hc := cg_zero hz
  refine ⟨chg_sm _ _, fun j hj => ?_, fun k hk => chg_keep _ _ k (fun c hcm => (hc.2.2 c hcm).1) (by rw [cgO_I]; exact hk), chg_wt _ _ hwt (fun x hxm => ?_), hz, ?_, ?_⟩
  ·have hN2 : NR (N.toNat : Nat) l bs (csl C) := by rw [show ((N.toNat : Nat) : Int) = N by omega]; exact hN
   have := outer_none hN2 hj
   rwa [show ((N.toNat : Nat) : Int) = N by omega, HS.out] at this
  ·unfold cgO at hxm
   obtain ⟨i, _, rfl⟩ := List.mem_map.1 hxm
   exact hx
  ·have := ouV_len N l bs (csl C) (bs.length : Nat)
   have h8 := (chk_zero hN.1).2.2.1
   rw [HS.out] at this
   omega
  ·have := cgI_in hz (l' := G3.chg l (cgO S wt)) (G3.chg_len _ _)
   rwa [cgO_I] at this
 obtain ⟨X, HX⟩ := named S.length
 have HCH : Hid (∀ W v c, Below w.heap.size w W → NR N l bs (csl C) → G3.Cgs W v (cgO S wt) → Calls Tryz.prog 51 #[.agg #[.int .i64 N, .slice a l.length cap], .slice v X c] W fun e w' => ∃ a1 c1, e = .returned (.tuple #[.agg #[.int .i64 N, .slice a1 l.length c1], .int .i64 0]) ∧ Hid (Arcs w' a1 (G3.chg l (cgO S wt))) ∧ Hid (Below W.heap.size W w')) := fun W v c hb hN hg => by
  obtain ⟨_, _, _, _, hz, h8, _⟩ := HPK.out hN
  have h := G3.change_any N a l cap v (cgO S wt) c W hlen (by rw [cgO_len]; omega) hnil (hr.on hb) hg
  rw [cgO_len, HX.out] at h
  refine h.mono ?_
  rintro e w' h
  unfold G3.ChgPost at h
  rw [hz, if_pos rfl, if_pos rfl] at h
  obtain ⟨a1, c1, q1, q2, q3, q4⟩ := h
  rw [G3.chg_len] at q1
  exact ⟨a1, c1, q1, q2.arcs, q4⟩
 have HSN : Hid (∀ k, k < X → cellsG (cgO (S.take (k + 1)) wt) = cellsG (cgO (S.take k) wt) ++ [.int .i64 (S.getD k 0 : Nat), .int .u32 wt]) := fun k hk => cgO_snoc (by rw [HX.out]; exact hk)
 have HXS : Hid (NR N l bs (csl C) → X ≤ 8192) := fun hN => by
  obtain ⟨_, _, _, _, _, h8, _⟩ := HPK.out hN
  rw [← HX.out]; exact h8
 have HFU : Hid (S.take X = S) := by show _ = _; rw [← HX.out]; exact List.take_length
 have HCL : Hid ((cgO S wt).length = X) := by show _ = _; rw [cgO_len, HX.out]
 have HIS : Hid (∀ (W : World) v, Ints W v (ints S) → ∃ b o, 0 < X → v = some ⟨b, o, none⟩ ∧ b < W.heap.size ∧ ∀ j, j < X → W.cell? ⟨b, o + j, none⟩ = some (.int .i64 (S.getD j 0 : Nat))) := fun W v h => by
  obtain ⟨b, o, hq⟩ := h.get
  rw [ints_len, HX.out] at hq
  refine ⟨b, o, fun h0 => ?_⟩
  obtain ⟨q1, q2, q3⟩ := hq h0
  refine ⟨q1, q2, fun j hj => ?_⟩
  rw [q3 j hj, ints_getD (by rw [HX.out]; exact hj)]
 have HAR := hid hr
 have HI := hid hi
 have HRR := hid hR
 have HWT := hid hwt
 have HB0 := hid hb0
 have HG0 := hid hg0
 have HG1 := hid hg1
 have HBL := hid hbl
 have H8 := hid (And.intro hi8 (And.intro hz8 (And.intro hs8 hby8)))
 rw [HX.out] at HOU
 clear hr hi hR hb0 hg0 hg1 hwt hlen hbl0 hnil hx hi8 hz8 hs8 hby8 HE
 generalize hp : w.heap.size = p at *
 go_enter Tryz.func8, Tryz.ntmps8
 go_wp2_with fail
 generalize (w.alloc (.cells #[.int .i64 N, .slice a l.length cap] 24)).alloc (.cells #[.slice ba bs.length bc, .slice ca C.length cc] 28) = W at *
 refine (HWK.out W).mono ?_
 rintro e w1 ⟨rfl, hb1⟩
 have hz1 := hb1.size
 have HB1 : Hid (Below p w w1) := HB0.out.trans (hb1.mono (by omega))
 have HK0 := hid ((hb1.block p (by omega)).trans HG0.out)
 have HK1 := hid ((hb1.block (p + 1) (by omega)).trans HG1.out)
 clear hb1 HG0 HG1 HB0 HWK
 obtain ⟨⟨a0, a1⟩, _⟩ := two_cells HK0.out
 have HLGc := hid (HLG.out w1 HB1.out)
 obtain ⟨lg, HLB⟩ := named (lgB N l)
 rw [HLB.out] at HLGc
 go_wp2_with fail
 refine HLGc.out.mono ?_
 rintro e w2 ⟨rfl, hb2⟩
 have hz2 := hb2.size
 have HB2 : Hid (Below p w w2) := HB1.out.trans (hb2.mono (by omega))
 have HL0 := hid ((hb2.block p (by omega)).trans HK0.out)
 have HL1 := hid ((hb2.block (p + 1) (by omega)).trans HK1.out)
 clear hb2 HK0 HK1 HLGc HLG a0 a1
 cases lg with
 | true =>
   go_wp2_with fail
   go_ret
   exact ⟨rfl, HB2.out⟩
 | false =>
   obtain ⟨⟨a0, a1⟩, _⟩ := two_cells HL0.out
   obtain ⟨⟨a2, a3⟩, _⟩ := two_cells HL1.out
   have HOUc := hid (HOU.out w2 HB2.out)
   go_wp2_with fail
   refine HOUc.out.mono ?_
   rintro e w3 ⟨v, rfl, hv3, hb3⟩
   have hz3 := hb3.size
   have HB3 : Hid (Below p w w3) := HB2.out.trans (hb3.mono (by omega))
   have HM0 := hid ((hb3.block p (by omega)).trans HL0.out)
   have HM1 := hid ((hb3.block (p + 1) (by omega)).trans HL1.out)
   have HV3 := hid hv3
   clear hb3 HOUc HOU HL0 HL1 a0 a1 a2 a3 hv3
   by_cases hE : E = 0
   ·subst hE
    have hNR := hEn rfl
    have hX := HXS.out hNR
    have HNR := hid hNR
    clear hE0 hEn HXS
    obtain ⟨vb, vo, hvi⟩ := HIS.out w3 v HV3.out
    have HVI := hid hvi
    have H0 : Hid (w3.ownsRow w3.heap.size 84 2 (.slice none 0 0) 0 (cellsG (cgO (S.take 0) wt))) := World.ownsRow_nil _ _ _ _
    clear hvi hNR
    go_wp2_with fail
    go_loopw [9, 42] (fun ov i wr => ∃ (k : Nat) (u : Option Addr) (c : Nat), k ≤ X ∧ ov = .slice u k c ∧ i = .int .i64 k ∧ Hid (wr.ownsRow w3.heap.size 84 2 (.slice u k c) k (cellsG (cgO (S.take k) wt))) ∧ Hid (Below w3.heap.size w3 wr)) (fun _ i _ => X - (intOf i).toNat)
    case atStart => exact ⟨0, none, 0, Nat.zero_le _, rfl, rfl, H0, Below.refl _ _⟩
    case round =>
     obtain ⟨k, u, c, hk, rfl, rfl, HO, HBR⟩ := hrel
     by_cases hlk : k < X
     ·have hlk' : (k : Int) < X := by omega
      obtain ⟨rfl, hbl2, hat⟩ := HVI.out (by omega)
      have u0 := (HBR.out.cell (p := ⟨vb, vo + k, none⟩) hbl2).trans (hat k hlk)
      have HS1 := hid (HSN.out k hlk)
      have hszr := HBR.out.size
      clear hat
      generalize S.getD k 0 = x at *
      obtain ⟨Z, HZ⟩ := named (cellsG (cgO (S.take k) wt))
      rw [HZ.out] at HO HS1
      have HNW := hid (two_new wr (x : Int) wt)
      have HO3 := hid (HO.out.alloc (.cells #[.int .i64 (x : Int), .int .u32 wt] 84))
      have hp3 : p ≤ wr.heap.size := by have := HB3.out.size; omega
      clear HZ
      go_wp2_with (at_builtin; refine wpList_append_own _ rfl (.tmp 46) (.tmp 50) 79 rfl w3.heap.size 84 i8 _ 2 16 Tryz.underlying79 H8.out.1 H8.out.2.1 H8.out.2.2.1 H8.out.2.2.2 rfl (by decide) (.slice u k c) k Z rfl HO3.out ⟨wr.heap.size, 0, none⟩ 1 1 [.int .i64 (x : Int), .int .u32 wt] rfl rfl HNW.out (cellsG_1 _ _) (by unfold maxLen; omega) (by omega) (by simp; omega) ?_; intro v6 w6 hown6 hgrow6 hnil6; rw [← HS1.out] at hown6; obtain ⟨a6, c6, rfl⟩ := own_slice hown6; have HO6 := hid hown6; have HG6 := hid hgrow6; clear hown6 hgrow6 hnil6)
      go_wp2_with fail
      refine ⟨⟨k + 1, a6, c6, by omega, rfl, by go_num, HO6.out, ?_⟩, by simp [intOf]; omega⟩
      exact (HBR.out.alloc hszr _).grown HG6.out (by simp; omega) (fun g hg => (HO.out.lt g hg).1)
     ·have hlk' : ¬ (k : Int) < X := by omega
      obtain rfl : X = k := by omega
      rw [HFU.out] at HO
      have HCG := hid (cgs_own HO.out HCL.out)
      obtain ⟨n, hn⟩ : ∃ n : Nat, N = n := ⟨N.toNat, by have := (chk_zero HNR.out.1).1; omega⟩
      subst hn
      rw [Int.toNat_natCast] at HAL HPK
      obtain ⟨hsm, hno, hk, hw', hz, h8, hin⟩ := HPK.out HNR.out
      generalize hl' : G3.chg l (cgO S wt) = l' at *
      have hll : l'.length = l.length := by rw [← hl', G3.chg_len]
      have hl2 : l'.length ≤ 9223372036854775807 := by omega
      have hmb : C.length = bs.length := by have := HNR.out.2.2.2.1; rw [csl_len] at this; exact this
      have h5 : C.length ≤ 5 := by have h6 := HNR.out.2.2.1; omega
      have h1 : 1 ≤ bs.length := HNR.out.2.1
      have hcnt : ∀ j, j < C.length → (szL (lvl (csl C) j)).length ≤ 1024 := fun j hj => by
       obtain ⟨b1, b2, _⟩ := HNR.out.lv (k := j) (by omega)
       have h1 := szL_length (lvl (csl C) j)
       have := (chk_zero HNR.out.1).2.1
       omega
      have HREN : Hid (∀ W a1 c1 go O v, Below w.heap.size w W → Arcs W a1 l' → Ovs W (some ⟨go, 0, none⟩) O → RgO n l bs (csl C) 0 O → Ints W v (ints S) → Calls Tryz.prog 44 #[.agg #[.int .i64 n, .slice a1 l.length c1], .agg #[.slice ba bs.length bc, .slice ca C.length cc], .slice (some ⟨go, 0, none⟩) C.length C.length, .slice v X X, .int .i64 1] W fun e w' => ∃ (g : Nat) (OA : List Lw) (many : Nat), e = .returned (.tuple #[.slice (some ⟨g, 0, none⟩) C.length C.length, .int .i64 many, .int .i64 0]) ∧ Hid (Ovs w' (some ⟨g, 0, none⟩) OA) ∧ Hid (RgO n l' bs (csl C) 1 OA) ∧ Hid (∀ j, j < bs.length → ∀ i, i < (szL (lvl (csl C) j)).length → (mt (lw OA j).M i).ep = (mt (lw O j).M i).ep) ∧ Hid (Below W.heap.size W w')) := fun W a1 c1 go O v hb ha hO hF hd => by
       have h := renewed_kept n l a1 l' c1 ba bs bc ca C cc (some ⟨go, 0, none⟩) O C.length v (ints S) X 0 1 W HNR.out hsm hno hk (by decide) (by decide) hO hF (by rw [ints_len]; omega) hin hd hw' hl2 HBL.out ha (HI.out.on hb) (HRR.out.on hb)
       rw [ints_len, HX.out, hll] at h
       refine h.mono ?_
       rintro e w' ⟨g, OA, many, q1, q2, q3, q4, q5⟩
       exact ⟨g, OA, many, q1, q2, q3, q4, q5⟩
      have HALW : Hid (∀ W a1 c1, Below w.heap.size w W → Arcs W a1 l' → Calls Tryz.prog 38 #[.agg #[.int .i64 n, .slice a1 l.length c1], .agg #[.slice ba bs.length bc, .slice ca C.length cc], .int .i64 0] W fun e w' => ∃ g O, e = .returned (.tuple #[.slice (some ⟨g, 0, none⟩) C.length C.length, .int .i64 0]) ∧ Hid (Ovs w' (some ⟨g, 0, none⟩) O) ∧ Hid (RgO n l' bs (csl C) 0 O) ∧ Hid (Below W.heap.size W w')) := fun W a1 c1 hb ha => by
       have h := all_any n a1 l' c1 ba bs bc ca C cc 0 W hl2 HBL.out ha (HI.out.on hb) (HRR.out.on hb) hw'
       rw [hll, Int.toNat_natCast] at h
       refine h.mono ?_
       rintro e w' ⟨h1, h2, h3⟩
       obtain ⟨g, rv, R, q1, q2, q3⟩ := h1 ⟨nsE_zero.2 (hsm.nr HNR.out), by decide⟩
       obtain ⟨O, f1, f2, f3⟩ := all_right (hsm.nr HNR.out) (by decide) q2 q3
       exact ⟨g, O, q1, f1, f2, h3⟩
      obtain ⟨tp, htp⟩ : ∃ tp : Nat, tp + 1 = bs.length := ⟨bs.length - 1, by omega⟩
      have HFIN : Hid (∀ (W : World) go gr gw O OR OW, Ovs W (some ⟨go, 0, none⟩) O → Ovs W (some ⟨gr, 0, none⟩) OR → Ovs W (some ⟨gw, 0, none⟩) OW → RgO n l bs (csl C) 0 O → RgO n l' bs (csl C) 1 OR → RgO n l' bs (csl C) 0 OW → (∀ j, j < bs.length → ∀ i, i < (szL (lvl (csl C) j)).length → (mt (lw OR j).M i).ep = (mt (lw O j).M i).ep) → (∃ (x1 : Option Addr) (d1 : Nat) (x2 : Option Addr) (d2 cn : Nat), W.cell? ⟨gr, tp, none⟩ = some (.slice x1 cn d1) ∧ W.cell? ⟨go, tp, none⟩ = some (.slice x2 cn d2) ∧ gr < W.heap.size ∧ go < W.heap.size ∧ Hid (∀ W', Below W.heap.size W W' → Calls Tryz.prog 28 #[.slice x1 cn d1, .slice x2 cn d2] W' fun e w2 => e = .returned (.bool true) ∧ Below W.heap.size W w2)) ∧ Hid (∀ W', Below W.heap.size W W' → Calls Tryz.prog 53 #[.slice (some ⟨gr, 0, none⟩) C.length C.length, .slice (some ⟨gw, 0, none⟩) C.length C.length] W' fun e w2 => e = .returned (.bool true) ∧ Below W.heap.size W w2) ∧ Hid (∀ W', Below W.heap.size W W' → Calls Tryz.prog 53 #[.slice (some ⟨go, 0, none⟩) C.length C.length, .slice (some ⟨gw, 0, none⟩) C.length C.length] W' fun e w2 => e = .returned (.bool true) ∧ Below W.heap.size W w2)) := fun W go gr gw O OR OW hO hR hW rO rR rW hep => by
       have cell : ∀ g OX, Ovs W (some ⟨g, 0, none⟩) OX → OX.length = bs.length → g < W.heap.size ∧ W.cell? ⟨g, tp, none⟩ = some (.slice (lw OX tp).a (lw OX tp).M.length (lw OX tp).c) := fun g OX h hl => by
        rcases h.1 with h0 | ⟨b, o, e1, e2, e3⟩
        ·rw [h0] at hl; simp at hl; omega
        ·injection e1 with e1
         injection e1 with q1 q2 _
         subst q1
         subst q2
         have := e3 tp (by omega)
         rw [Nat.zero_add] at this
         exact ⟨e2, this⟩
       obtain ⟨c1, c2⟩ := cell gr OR hR rR.1
       obtain ⟨c3, c4⟩ := cell go O hO rO.1
       obtain ⟨r1, r2⟩ := rR.2 tp (by omega)
       obtain ⟨r3, r4⟩ := rO.2 tp (by omega)
       rw [r1] at c2
       rw [r3] at c4
       have same := fun {j i} hj hi => right_same (j := j) (i := i) HNR.out hsm hno hk hj hi
       have htm : tp < bs.length := by omega
       refine ⟨⟨_, _, _, _, _, c2, c4, c1, c3, fun W' hb => ?_⟩, fun W' hb => ?_, fun W' hb => ?_⟩
       ·refine (sameMats_any (lw OR tp).a (lw O tp).a (lw OR tp).M (lw O tp).M (lw OR tp).c (lw O tp).c _ W' r1 r3 (hcnt tp (by omega)) ((hR.2 tp (by rw [rR.1]; omega)).1.on hb) ((hO.2 tp (by rw [rO.1]; omega)).1.on hb) (fun i hi => ?_)).mono ?_
        ·obtain ⟨⟨m1, m2, _⟩, m3⟩ := r2 i hi
         obtain ⟨⟨k1, k2, _⟩, k3⟩ := r4 i hi
         exact ⟨by rw [m1, k1], by rw [m2, k2], hep tp htm i hi, by rw [m3, k3, same htm hi]⟩
        ·rintro e w2 ⟨q1, q2⟩
         exact ⟨q1, bel2 hb q2⟩
       ·refine (alike14_any _ _ C.length C.length C.length OR OW W' (hR.on hb) (hW.on hb) (by rw [rR.1, hmb]) (by rw [rW.1, hmb]) h5 (fun j hj => ?_)).mono ?_
        ·obtain ⟨s1, s2⟩ := rR.2 j (by omega)
         obtain ⟨s3, s4⟩ := rW.2 j (by omega)
         rw [s1, s3]
         exact ⟨hcnt j hj, rfl, fun i hi => by rw [(s2 i hi).2, (s4 i hi).2]⟩
        ·rintro e w2 ⟨q1, q2⟩
         exact ⟨q1, bel2 hb q2⟩
       ·refine (alike14_any _ _ C.length C.length C.length O OW W' (hO.on hb) (hW.on hb) (by rw [rO.1, hmb]) (by rw [rW.1, hmb]) h5 (fun j hj => ?_)).mono ?_
        ·obtain ⟨s1, s2⟩ := rO.2 j (by omega)
         obtain ⟨s3, s4⟩ := rW.2 j (by omega)
         rw [s1, s3]
         exact ⟨hcnt j hj, rfl, fun i hi => by rw [(s2 i hi).2, (s4 i hi).2, same (by omega) hi]⟩
        ·rintro e w2 ⟨q1, q2⟩
         exact ⟨q1, bel2 hb q2⟩
      have hbr := HBR.out.size
      have HBr : Hid (Below p w wr) := HB3.out.trans (HBR.out.mono (by omega))
      have HV4 := hid (HV3.out.on HBR.out)
      have HN0 := hid ((HBR.out.block p (by omega)).trans HM0.out)
      have HN1 := hid ((HBR.out.block (p + 1) (by omega)).trans HM1.out)
      have HCHc := hid (HCH.out wr u c HBr.out HNR.out HCG.out)
      have HWTP : Hid (tp + 1 = bs.length) := htp
      have HTM : Hid ((tp : Int) < (C.length : Int) ∧ IntKind.i64.wrap ((bs.length : Int) - 1) = (tp : Int)) := ⟨by omega, by rw [IntKind.wrap_i64]; omega⟩
      clear HCG HPK hsm hno hk hw' hz h8 hin hll hl2 hmb h5 h1 hcnt htp HCH HO HBR HM0 HM1 HV3 HCL HIS HFU HAR HI HRR HWT HBL H8 HX hl' HS HLB hX hbr
      obtain ⟨⟨a0, a1⟩, _⟩ := two_cells HN0.out
      go_wp2_with fail
      refine HCHc.out.mono ?_
      rintro e w5 ⟨u5, c5, rfl, HR5, HB5⟩
      have hz5 := HB5.out.size
      have hba : Below w5.heap.size w5 (w5.alloc (.cells #[.int .i64 (n : Nat), .slice u5 l.length c5] 24)) := (Below.refl _ _).alloc (Nat.le_refl _) _
      have HB5p : Hid (Below p w (w5.alloc (.cells #[.int .i64 (n : Nat), .slice u5 l.length c5] 24))) := (HBr.out.trans (HB5.out.mono (by have := HBr.out.size; omega))).trans (hba.mono (by have := HBr.out.size; omega))
      have HR5a := hid (HR5.out.on hba)
      have HV5 := hid ((HV4.out.on HB5.out).on hba)
      have HP0 := hid ((hba.block p (by have := lt_of_block HN0.out; omega)).trans ((HB5.out.block p (lt_of_block HN0.out)).trans HN0.out))
      have HP1 := hid ((hba.block (p + 1) (by have := lt_of_block HN1.out; omega)).trans ((HB5.out.block (p + 1) (lt_of_block HN1.out)).trans HN1.out))
      have HP5 := hid (heap_top w5 (.cells #[.int .i64 (n : Nat), .slice u5 l.length c5] 24))
      clear HCHc HR5 HB5 HBr HV4 HN0 HN1 a0 a1 hba
      have HALc := hid (HAL.out _ HB5p.out HNR.out)
      obtain ⟨⟨a0, a1⟩, _⟩ := two_cells HP0.out
      obtain ⟨⟨a2, a3⟩, _⟩ := two_cells HP1.out
      go_wp2_with fail
      generalize hW5 : w5.alloc (.cells #[.int .i64 (n : Nat), .slice u5 l.length c5] 24) = W5 at *
      generalize hq5 : w5.heap.size = q5 at *
      refine HALc.out.mono ?_
      rintro e w6 ⟨go, O, rfl, HOO, HRO, HB6⟩
      have hz6 := HB6.out.size
      have HB6p : Hid (Below p w w6) := HB5p.out.trans (HB6.out.mono (by have := HB5p.out.size; omega))
      have HR6 := hid (HR5a.out.on HB6.out)
      have HV6 := hid (HV5.out.on HB6.out)
      have HQ1 := hid ((HB6.out.block (p + 1) (lt_of_block HP1.out)).trans HP1.out)
      have HQ5 := hid ((HB6.out.block q5 (lt_of_block HP5.out)).trans HP5.out)
      clear HALc HAL HR5a HV5 HP0 HP1 HP5 HB5p HB6 a0 a1 a2 a3 hW5 hq5
      have HRNc := hid (HREN.out w6 u5 c5 go O v (by rw [hp]; exact HB6p.out) HR6.out HOO.out HRO.out.1 HV6.out)
      obtain ⟨⟨a0, a1⟩, _⟩ := two_cells HQ5.out
      obtain ⟨⟨a2, a3⟩, _⟩ := two_cells HQ1.out
      obtain ⟨htm, hwr⟩ := HTM.out
      go_wp2_with fail
      refine HRNc.out.mono ?_
      rintro e w7 ⟨gr, OR, many, rfl, HOR, HRR7, HEP, HB7⟩
      have hz7 := HB7.out.size
      have HB7p : Hid (Below p w w7) := HB6p.out.trans (HB7.out.mono (by have := HB6p.out.size; omega))
      have HS1 := hid ((HB7.out.block (p + 1) (lt_of_block HQ1.out)).trans HQ1.out)
      have HS5 := hid ((HB7.out.block q5 (lt_of_block HQ5.out)).trans HQ5.out)
      have HO7 := hid (HOO.out.on HB7.out)
      have HALWc := hid (HALW.out w7 u5 c5 (by rw [hp]; exact HB7p.out) (HR6.out.on HB7.out))
      clear HRNc HREN HOO HQ1 HQ5 HR6 HV6 HB6p HB7 HALW a0 a1 a2 a3
      obtain ⟨⟨a0, a1⟩, _⟩ := two_cells HS5.out
      obtain ⟨⟨a2, a3⟩, _⟩ := two_cells HS1.out
      go_wp2_with fail
      refine HALWc.out.mono ?_
      rintro e w8 ⟨gw, OW, rfl, HOW, HRW, HB8⟩
      have hz8 := HB8.out.size
      have HB8p : Hid (Below p w w8) := HB7p.out.trans (HB8.out.mono (by have := HB7p.out.size; omega))
      obtain ⟨⟨x1, d1, x2, d2, cn, y1, y2, g1, g2, HSM⟩, HK1, HK2⟩ := HFIN.out w8 go gr gw O OR OW (HO7.out.on HB8.out) (HOR.out.on HB8.out) HOW.out HRO.out.1 HRR7.out HRW.out HEP.out
      have HY1 := hid y1
      have HY2 := hid y2
      have hp8 : p ≤ w8.heap.size := by have := HB8p.out.size; omega
      clear HALWc HFIN HS1 HS5 HO7 HOR HOW HRO HRR7 HRW HEP HB7p HB8 a0 a1 a2 a3 HSN HNR HTM HWTP
      go_wp2_with fail
      go_region_held3 (fun w' => w'.cell? ⟨gr, tp, none⟩ = some (.slice x1 cn d1) ∧ w'.cell? ⟨go, tp, none⟩ = some (.slice x2 cn d2)) (go_keep) (first | (go_at_call 53; refine (HK2.out _ (bel2 HB10.out (by first | exact Below.refl _ _ | exact (Below.refl _ _).drew | exact below_drewN _ _ _))).mono ?_; rintro e w11 ⟨rfl, hb11⟩; have HB11 := hid hb11; have z1 := (hb11.cell (p := ⟨gr, tp, none⟩) g1).trans HY1.out; have z2 := (hb11.cell (p := ⟨go, tp, none⟩) g2).trans HY2.out; clear hb11) | (go_at_call 53; refine (HK1.out _ (bel2 HB9.out (by first | exact Below.refl _ _ | exact (Below.refl _ _).drew | exact below_drewN _ _ _))).mono ?_; rintro e w10 ⟨rfl, hb10⟩; have HB10 := hid hb10; have z1 := (hb10.cell (p := ⟨gr, tp, none⟩) g1).trans HY1.out; have z2 := (hb10.cell (p := ⟨go, tp, none⟩) g2).trans HY2.out; clear hb10) | (go_at_call 28; refine (HSM.out _ (by first | exact Below.refl _ _ | exact (Below.refl _ _).drew | exact below_drewN _ _ _)).mono ?_; rintro e w9 ⟨rfl, hb9⟩; have HB9 := hid hb9; have z1 := (hb9.cell (p := ⟨gr, tp, none⟩) g1).trans HY1.out; have z2 := (hb9.cell (p := ⟨go, tp, none⟩) g2).trans HY2.out; clear hb9))
      all_goals
       go_wp2_with fail
       go_ret
       first | exact ⟨rfl, HB8p.out.trans (HB11.out.mono hp8)⟩ | exact ⟨rfl, (HB8p.out.trans (HB11.out.mono hp8)).drew⟩
   ·have hb : (E != 0) = true := by simp [hE]
    have hS := hE0 hE
    have hX0 : X = 0 := by rw [← HX.out, hS]; rfl
    subst hX0
    go_wp2_with fail
    go_ret
    exact ⟨rfl, HB3.out⟩
end Go.Proofs.YtaafkpojjdjphaaGreat
