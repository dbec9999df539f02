import Derived.Test.YtaafkpojjdjphaaGreatQAX
open Go.Lib (hid)
namespace Go.Proofs.YtaafkpojjdjphaaGreat
open Go.RowKit
theorem top3c (w : World) (o0 o1 o2 : Obj) : (((w.alloc o0).alloc o1).alloc o2).heap[w.heap.size]? = some o0 ∧ (((w.alloc o0).alloc o1).alloc o2).heap[w.heap.size + 1]? = some o1 ∧ (((w.alloc o0).alloc o1).alloc o2).heap[w.heap.size + 1 + 1]? = some o2 ∧ Below w.heap.size w (((w.alloc o0).alloc o1).alloc o2) ∧ (((w.alloc o0).alloc o1).alloc o2).heap.size = w.heap.size + 3 := by
 obtain ⟨h1, h2, h3, h4⟩ := top2 w o0 o1
 refine ⟨(Below.heap_alloc _ _ _ (by omega)).trans h1, (Below.heap_alloc _ _ _ (by omega)).trans h2, ?_, h3.alloc (by omega) _, by simp⟩
 have := heap_top ((w.alloc o0).alloc o1) o2
 rwa [h4] at this
def Chd (W : World) (w' : World) (e : Ending) (N1 : Int) (l1 : List A) (L1 : Nat) (E1 : Int) : Prop :=
 ∃ a1 c1, e = .returned (.tuple #[.agg #[.int .i64 N1, .slice a1 L1 c1], .int .i64 E1]) ∧ Arcs w' a1 l1 ∧ (a1 = none → l1 = [] ∧ c1 = 0) ∧ Below W.heap.size W w'
set_option maxRecDepth 100000 in
set_option maxHeartbeats 12800000 in
theorem twice_any (N : Int) (a : Option Addr) (l : List A) (cap : Nat) (ba : Option Addr) (bs : List Int) (bc : Nat) (ca : Option Addr) (C : List Cl) (cc : Nat) (xa : Option Addr) (A1 : List G3.Cg) (ac : Nat) (xb : Option Addr) (B1 : List G3.Cg) (bcc : Nat) (w : World) (hlen : l.length * 24 ≤ 140737488351232) (hnil : a = none → l = [] ∧ cap = 0) (hbl0 : bs.length * 8 ≤ 140737488351232) (hwt : ∀ x ∈ l, 0 ≤ x.w ∧ x.w < 4294967296) (hr : Arcs w a l) (hi : Ints w ba bs) (hR : Rws w ca C) (hA : G3.Cgs w xa A1 ∧ A1.length * 16 ≤ 140737488351232 ∧ ∀ x ∈ A1, 0 ≤ x.w ∧ x.w < 4294967296) (hB : G3.Cgs w xb B1 ∧ B1.length * 16 ≤ 140737488351232 ∧ ∀ x ∈ B1, 0 ≤ x.w ∧ x.w < 4294967296) :
  Calls Tryz.prog 9 #[.agg #[.int .i64 N, .slice a l.length cap], .agg #[.slice ba bs.length bc, .slice ca C.length cc], .agg #[.slice xa A1.length ac, .slice xb B1.length bcc]] w fun e w' => e = .returned (.bool true) ∧ Below w.heap.size w w' := by
 have hl : l.length ≤ 9223372036854775807 := by omega
 have hbl : bs.length ≤ 9223372036854775807 := by omega
 obtain ⟨hA0, hA1, hA2⟩ := hA
 obtain ⟨hB0, hB1, hB2⟩ := hB
 obtain ⟨hg0, hg1, hg2, hb0, hsz⟩ := top3c w (.cells #[.int .i64 N, .slice a l.length cap] 24) (.cells #[.slice ba bs.length bc, .slice ca C.length cc] 28) (.cells #[.slice xa A1.length ac, .slice xb B1.length bcc] 91)
 have HWK := hid (fun w => works14_any w)
 have HLG : Hid (∀ W2, Below w.heap.size w W2 → Calls Tryz.prog 36 #[.agg #[.int .i64 N, .slice a l.length cap]] W2 fun e w' => e = .returned (.bool (lgB N l)) ∧ Below W2.heap.size W2 w') := fun W2 hb => large14_any N a l cap W2 hl (hr.on hb)
 have HAL : Hid (∀ W2, Below w.heap.size w W2 → Calls Tryz.prog 38 #[.agg #[.int .i64 N, .slice a l.length cap], .agg #[.slice ba bs.length bc, .slice ca C.length cc], .int .i64 0] W2 fun e w' => (nsE N l bs (csl C) = 0 → ∃ g rv R, e = .returned (.tuple #[.slice (some ⟨g, 0, none⟩) C.length C.length, .int .i64 0]) ∧ OS w' W2.heap.size g C.length rv R ∧ ∀ j, j < C.length → RA N.toNat l bs (csl C) 0 j (R j)) ∧ (nsE N l bs (csl C) ≠ 0 → ∃ x, x ≠ 0 ∧ e = .returned (.tuple #[.slice none 0 0, .int .i64 x])) ∧ Below W2.heap.size W2 w') := fun W2 hb => by
  refine (all_any N a l cap ba bs bc ca C cc 0 W2 hl hbl (hr.on hb) (hi.on hb) (hR.on hb) hwt).mono ?_
  rintro e w' ⟨h1, h2, h3⟩
  exact ⟨fun h => h1 ⟨h, by decide⟩, fun h => h2 (fun h' => h h'.1), h3⟩
 obtain ⟨N1, HN1⟩ := named (if G3.cgE N l A1 = 0 then N else 0)
 obtain ⟨l1, HL1⟩ := named (if G3.cgE N l A1 = 0 then G3.chg l A1 else [])
 obtain ⟨E1, HE1⟩ := named (G3.cgE N l A1)
 obtain ⟨N2, HN2⟩ := named (if G3.cgE N1 l1 B1 = 0 then N1 else 0)
 obtain ⟨l2, HL2⟩ := named (if G3.cgE N1 l1 B1 = 0 then G3.chg l1 B1 else [])
 obtain ⟨E2, HE2⟩ := named (G3.cgE N1 l1 B1)
 obtain ⟨L1, HLL1⟩ := named l1.length
 obtain ⟨L2, HLL2⟩ := named l2.length
 have hl1 : l1.length ≤ l.length := by rw [← HL1.out]; split; exact Nat.le_of_eq (G3.chg_len _ _); exact Nat.zero_le _
 have HCH1 : Hid (∀ W, Below w.heap.size w W → Calls Tryz.prog 51 #[.agg #[.int .i64 N, .slice a l.length cap], .slice xa A1.length ac] W fun e w' => Chd W w' e N1 l1 L1 E1) := fun W hb => by
  refine (G3.change_any N a l cap xa A1 ac W hlen (by omega) hnil (hr.on hb) (hA0.on hb)).mono ?_
  rintro e w' h
  unfold G3.ChgPost at h
  rw [HN1.out, HL1.out, HE1.out] at h
  obtain ⟨a1, c1, q1, q2, q3, q4⟩ := h
  rw [HLL1.out] at q1
  exact ⟨a1, c1, q1, q2.arcs, q3, q4⟩
 have HCH2 : Hid (∀ W a1 c1, Below w.heap.size w W → Arcs W a1 l1 → (a1 = none → l1 = [] ∧ c1 = 0) → Calls Tryz.prog 51 #[.agg #[.int .i64 N1, .slice a1 L1 c1], .slice xb B1.length bcc] W fun e w' => Chd W w' e N2 l2 L2 E2) := fun W a1 c1 hb h1 h2 => by
  have h := G3.change_any N1 a1 l1 c1 xb B1 bcc W (by omega) (by omega) h2 h1 (hB0.on hb)
  rw [HLL1.out] at h
  refine h.mono ?_
  rintro e w' h
  unfold G3.ChgPost at h
  rw [HN2.out, HL2.out, HE2.out] at h
  obtain ⟨a1, c1, q1, q2, q3, q4⟩ := h
  rw [HLL2.out] at q1
  exact ⟨a1, c1, q1, q2.arcs, q3, q4⟩
 have HAA : Hid (∀ W, Below w.heap.size w W → Calls Tryz.prog 55 #[.slice xa A1.length ac] W fun e w' => ∃ v c, e = .returned (.slice v A1.length c) ∧ w'.ownsRow W.heap.size 3 1 (.slice v A1.length c) A1.length (cellsI (cgI A1)) ∧ Below W.heap.size W w') := fun W hb => arcsOf_any xa A1 ac W hA1 (hA0.on hb)
 have HAB : Hid (∀ W, Below w.heap.size w W → Calls Tryz.prog 55 #[.slice xb B1.length bcc] W fun e w' => ∃ v c, e = .returned (.slice v B1.length c) ∧ w'.ownsRow W.heap.size 3 1 (.slice v B1.length c) B1.length (cellsI (cgI B1)) ∧ Below W.heap.size W w') := fun W hb => arcsOf_any xb B1 bcc W hB1 (hB0.on hb)
 have HMAIN : Hid (nsE N l bs (csl C) = 0 → E1 = 0 → E2 = 0 → Twi N N1 N2 l l1 l2 bs (csl C) A1 B1) := fun h1 h2 h3 => twi h1 hwt hA2 hB2 (HE1.out.trans h2) (HN1.out) (HL1.out) (HE2.out.trans h3) (HN2.out) (HL2.out)
 have HAR := hid hr
 have HI := hid hi
 have HRR := hid hR
 have HB0 := hid hb0
 have HG0 := hid hg0
 have HG1 := hid hg1
 have HG2 := hid hg2
 obtain ⟨X, HX⟩ := named A1.length
 obtain ⟨Y, HY⟩ := named B1.length
 rw [HX.out] at HCH1 HAA HG0 HG1 HG2 HB0 hsz ⊢
 rw [HY.out] at HCH2 HAB HG0 HG1 HG2 HB0 hsz ⊢
 have hX : X * 16 ≤ 140737488351232 := by rw [← HX.out]; exact hA1
 have hY : Y * 16 ≤ 140737488351232 := by rw [← HY.out]; exact hB1
 clear hr hi hR hb0 hg0 hg1 hg2 hwt hlen hbl0 hnil hA0 hA1 hA2 hB0 hB1 hB2 hl1
 generalize hp : w.heap.size = p at *
 go_enter Tryz.func9, Tryz.ntmps9
 go_wp2_with fail
 generalize ((w.alloc (.cells #[.int .i64 N, .slice a l.length cap] 24)).alloc (.cells #[.slice ba bs.length bc, .slice ca C.length cc] 28)).alloc (.cells #[.slice xa X ac, .slice xb Y bcc] 91) = W at *
 refine (HWK.out W).mono ?_
 rintro e w1 ⟨rfl, hb1⟩
 have hz1 := hb1.size
 have HB1 : Hid (Below p w w1) := HB0.out.trans (hb1.mono (by omega))
 have HK0 := hid ((hb1.block p (by omega)).trans HG0.out)
 have HK1 := hid ((hb1.block (p + 1) (by omega)).trans HG1.out)
 have HK2 := hid ((hb1.block (p + 1 + 1) (by omega)).trans HG2.out)
 clear hb1 HG0 HG1 HG2 HB0 HWK
 obtain ⟨⟨a0, a1⟩, _⟩ := two_cells HK0.out
 have HLGc := hid (HLG.out w1 HB1.out)
 obtain ⟨lg, HLB⟩ := named (lgB N l)
 rw [HLB.out] at HLGc
 go_wp2_with fail
 refine HLGc.out.mono ?_
 rintro e w2 ⟨rfl, hb2⟩
 have hz2 := hb2.size
 have HB2 : Hid (Below p w w2) := HB1.out.trans (hb2.mono (by omega))
 have HL0 := hid ((hb2.block p (by omega)).trans HK0.out)
 have HL1' := hid ((hb2.block (p + 1) (by omega)).trans HK1.out)
 have HL2' := hid ((hb2.block (p + 1 + 1) (by omega)).trans HK2.out)
 clear hb2 HK0 HK1 HK2 HLGc HLG a0 a1
 cases lg with
 | true =>
   go_wp2_with fail
   go_ret
   exact ⟨rfl, HB2.out⟩
 | false =>
   obtain ⟨⟨a4, a5⟩, _⟩ := two_cells HL2'.out
   have hww : IntKind.i64.wrap ((X : Int) + (Y : Int)) = (X : Int) + (Y : Int) := by rw [IntKind.wrap_i64]; omega
   by_cases h100 : (100 : Int) < (X : Int) + (Y : Int)
   ·go_wp2_with fail
    go_ret
    exact ⟨rfl, HB2.out⟩
   ·obtain ⟨⟨a0, a1⟩, _⟩ := two_cells HL0.out
    obtain ⟨⟨a2, a3⟩, _⟩ := two_cells HL1'.out
    have HALc := hid (HAL.out w2 HB2.out)
    go_wp2_with fail
    refine HALc.out.mono ?_
    rintro e w3 ⟨h1, h2, hb3⟩
    have hz3 := hb3.size
    have HB3 : Hid (Below p w w3) := HB2.out.trans (hb3.mono (by omega))
    have HM0 := hid ((hb3.block p (by omega)).trans HL0.out)
    have HM1 := hid ((hb3.block (p + 1) (by omega)).trans HL1'.out)
    have HM2 := hid ((hb3.block (p + 1 + 1) (by omega)).trans HL2'.out)
    clear hb3 HALc HAL HL0 HL1' HL2' a0 a1 a2 a3 a4 a5
    by_cases hns : nsE N l bs (csl C) = 0
    ·obtain ⟨go, rv, R, rfl, hos, hra⟩ := h1 hns
     clear h1 h2
     obtain ⟨⟨a0, a1⟩, _⟩ := two_cells HM0.out
     obtain ⟨⟨a4, a5⟩, _⟩ := two_cells HM2.out
     have HC1c := hid (HCH1.out w3 HB3.out)
     go_wp2_with fail
     refine HC1c.out.mono ?_
     rintro e w4 ⟨u1, c1, rfl, hr4, hn4, hb4⟩
     have hz4 := hb4.size
     have HB4 : Hid (Below p w (w4.alloc (.cells #[.int .i64 N1, .slice u1 L1 c1] 24))) := (HB3.out.trans (hb4.mono (by omega))).alloc (by omega) _
     have hba : Below w4.heap.size w4 (w4.alloc (.cells #[.int .i64 N1, .slice u1 L1 c1] 24)) := (Below.refl _ _).alloc (Nat.le_refl _) _
     have HN4 := hid hn4
     have HR4 := hid (hr4.on hba)
     have HQ1 := hid ((hba.block (p + 1) (by omega)).trans ((hb4.block (p + 1) (by omega)).trans HM1.out))
     have HQ2 := hid ((hba.block (p + 1 + 1) (by omega)).trans ((hb4.block (p + 1 + 1) (by omega)).trans HM2.out))
     have HQ4 := hid (heap_top w4 (.cells #[.int .i64 N1, .slice u1 L1 c1] 24))
     have HSB4 : Hid (Below w3.heap.size w3 (w4.alloc (.cells #[.int .i64 N1, .slice u1 L1 c1] 24))) := hb4.alloc (by omega) _
     have hzz4 : (w4.alloc (.cells #[.int .i64 N1, .slice u1 L1 c1] 24)).heap.size = w4.heap.size + 1 := by simp
     clear hb4 hr4 hn4 hba a0 a1 a4 a5 HC1c HCH1 HM0 HM1 HM2
     have HC2c := hid (HCH2.out _ u1 c1 HB4.out HR4.out HN4.out)
     obtain ⟨⟨a0, a1⟩, _⟩ := two_cells HQ4.out
     obtain ⟨⟨a4, a5⟩, _⟩ := two_cells HQ2.out
     go_wp2_with fail
     generalize hw4a : w4.alloc (.cells #[.int .i64 N1, .slice u1 L1 c1] 24) = W4 at *
     generalize hq4 : w4.heap.size = q4 at *
     refine HC2c.out.mono ?_
     rintro e w5 ⟨u2, c2, rfl, hr5, hn5, hb5⟩
     have hz5 := hb5.size
     have HB5 : Hid (Below p w (w5.alloc (.cells #[.int .i64 N2, .slice u2 L2 c2] 24))) := (HB4.out.trans (hb5.mono (by omega))).alloc (by omega) _
     have hba : Below w5.heap.size w5 (w5.alloc (.cells #[.int .i64 N2, .slice u2 L2 c2] 24)) := (Below.refl _ _).alloc (Nat.le_refl _) _
     have HR5 := hid (hr5.on hba)
     have HR45 := hid ((HR4.out.on hb5).on hba)
     have HS1 := hid ((hba.block (p + 1) (by omega)).trans ((hb5.block (p + 1) (by omega)).trans HQ1.out))
     have HS2 := hid ((hba.block (p + 1 + 1) (by omega)).trans ((hb5.block (p + 1 + 1) (by omega)).trans HQ2.out))
     have HS4 := hid ((hba.block q4 (by omega)).trans ((hb5.block q4 (by omega)).trans HQ4.out))
     have HS5 := hid (heap_top w5 (.cells #[.int .i64 N2, .slice u2 L2 c2] 24))
     have HSB5 : Hid (Below w3.heap.size w3 (w5.alloc (.cells #[.int .i64 N2, .slice u2 L2 c2] 24))) := HSB4.out.trans ((hb5.alloc (by omega) _).mono (by have := HSB4.out.size; omega))
     have hzz5 : (w5.alloc (.cells #[.int .i64 N2, .slice u2 L2 c2] 24)).heap.size = w5.heap.size + 1 := by simp
     clear hb5 hr5 hn5 hba a0 a1 a4 a5 HC2c HCH2 HQ1 HQ2 HQ4 HR4 HN4 HSB4
     by_cases hE1 : E1 = 0
     ·subst hE1
      by_cases hE2 : E2 = 0
      ·subst hE2
       have HM := HMAIN.out hns rfl rfl
       obtain ⟨n, hn0, hn1, hn2, hNR, hs1, hs2, hk1, hk2, hk3, hw1, hw2, hi1, hi2, hi3⟩ := HM
       subst hn0 hn1 hn2
       rw [Int.toNat_natCast] at hra
       obtain ⟨O, hO, hRO, _⟩ := all_right hNR (by decide) hos hra
       have h5 : C.length ≤ 5 := by have h6 := hNR.2.2.1; have h7 := hNR.2.2.2.1; rw [csl_len] at h7; omega
       have h1024 : n ≤ 1024 := by have := (chk_zero hNR.1).2.1; omega
       have hcnt : ∀ j, j < C.length → (szL (lvl (csl C) j)).length ≤ 1024 := fun j hj => by
        have h7 := hNR.2.2.2.1
        rw [csl_len] at h7
        obtain ⟨b1, b2, _⟩ := hNR.lv (k := j) (by omega)
        have h1 := szL_length (lvl (csl C) j)
        omega
       have h81 : l1.length ≤ 9223372036854775807 := by have := (chk_zero (hs1.nr hNR).1).2.2.1; omega
       have h82 : l2.length ≤ 9223372036854775807 := by have := (chk_zero ((hs1.trans hs2).nr hNR).1).2.2.1; omega
       have hXY : X ≤ 100 ∧ Y ≤ 100 := by omega
       go_wp2_with fail
       have hmb : C.length = bs.length := by have := hNR.2.2.2.1; rw [csl_len] at this; exact this
       generalize hw5a : w5.alloc (.cells #[.int .i64 n, .slice u2 L2 c2] 24) = W5 at *
       generalize hq5 : w5.heap.size = q5 at *
       have hO5 := hO.on HSB5.out
       have HBW : ∀ W, Below W5.heap.size W5 W → Below w.heap.size w W := fun W hb => hp ▸ (HB5.out.trans (hb.mono (by have := HB5.out.size; omega)))
       have HRN1 : Hid (∀ w6 v c, Below W5.heap.size W5 w6 → Ints w6 v (cgI A1) → ∀ W, Below w6.heap.size w6 W → Calls Tryz.prog 44 #[.agg #[.int .i64 n, .slice u1 L1 c1], .agg #[.slice ba bs.length bc, .slice ca C.length cc], .slice (some ⟨go, 0, none⟩) C.length C.length, .slice v X c, .int .i64 1] W fun e w' => ∃ gb OB many, e = .returned (.tuple #[.slice (some ⟨gb, 0, none⟩) C.length C.length, .int .i64 (many : Nat), .int .i64 0]) ∧ Hid (Ovs w' (some ⟨gb, 0, none⟩) OB) ∧ Hid (RgO n l1 bs (csl C) 1 OB) ∧ Hid (Below W5.heap.size W5 w')) := fun w6 v c hb0 hd W hb1 => by
        have hb : Below W5.heap.size W5 W := hb0.trans (hb1.mono hb0.size)
        have h := renewed_any n l u1 l1 c1 ba bs bc ca C cc (some ⟨go, 0, none⟩) O C.length v (cgI A1) c 0 1 W hNR hs1 hk1 (by decide) (by decide) (hO5.on hb) hRO (by rw [cgI_len, HX.out]; omega) hi1 (hd.on hb1) hw1 h81 hbl (HR45.out.on hb) (HI.out.on (HBW W hb)) (HRR.out.on (HBW W hb))
        rw [cgI_len, HX.out, HLL1.out] at h
        refine h.mono ?_
        rintro e w' ⟨g, OB, q1, q2, q3, q4⟩
        exact ⟨g, OB, _, q1, q2, q3, hb.trans (q4.mono hb.size)⟩
       have HRN2 : Hid (∀ wc ga OA, Below W5.heap.size W5 wc → Ovs wc (some ⟨ga, 0, none⟩) OA → RgO n l1 bs (csl C) 1 OA → ∀ w6 v c, Below wc.heap.size wc w6 → Ints w6 v (cgI B1) → ∀ W, Below w6.heap.size w6 W → Calls Tryz.prog 44 #[.agg #[.int .i64 n, .slice u2 L2 c2], .agg #[.slice ba bs.length bc, .slice ca C.length cc], .slice (some ⟨ga, 0, none⟩) C.length C.length, .slice v Y c, .int .i64 2] W fun e w' => ∃ gb OB many, e = .returned (.tuple #[.slice (some ⟨gb, 0, none⟩) C.length C.length, .int .i64 (many : Nat), .int .i64 0]) ∧ Hid (Ovs w' (some ⟨gb, 0, none⟩) OB) ∧ Hid (RgO n l2 bs (csl C) 2 OB) ∧ Hid (Below wc.heap.size wc w')) := fun wc ga OA hbc hOA hRA w6 v c hb0 hd W hb1 => by
        have hb : Below wc.heap.size wc W := hb0.trans (hb1.mono hb0.size)
        have hbb : Below W5.heap.size W5 W := hbc.trans (hb.mono hbc.size)
        have h := renewed_any n l1 u2 l2 c2 ba bs bc ca C cc (some ⟨ga, 0, none⟩) OA C.length v (cgI B1) c 1 2 W (hs1.nr hNR) hs2 hk2 (by decide) (by decide) (hOA.on hb) hRA (by rw [cgI_len, HY.out]; omega) hi2 (hd.on hb1) hw2 h82 hbl (HR5.out.on hbb) (HI.out.on (HBW W hbb)) (HRR.out.on (HBW W hbb))
        rw [cgI_len, HY.out, HLL2.out] at h
        refine h.mono ?_
        rintro e w' ⟨g, OB, q1, q2, q3, q4⟩
        exact ⟨g, OB, _, q1, q2, q3, hb.trans (q4.mono hb.size)⟩
       have HRN3 : Hid (∀ wc, Below W5.heap.size W5 wc → ∀ w6 v c, Below wc.heap.size wc w6 → Ints w6 v (cgI A1 ++ cgI B1) → ∀ W, Below w6.heap.size w6 W → Calls Tryz.prog 44 #[.agg #[.int .i64 n, .slice u2 L2 c2], .agg #[.slice ba bs.length bc, .slice ca C.length cc], .slice (some ⟨go, 0, none⟩) C.length C.length, .slice v (X + Y) c, .int .i64 2] W fun e w' => ∃ gb OB many, e = .returned (.tuple #[.slice (some ⟨gb, 0, none⟩) C.length C.length, .int .i64 (many : Nat), .int .i64 0]) ∧ Hid (Ovs w' (some ⟨gb, 0, none⟩) OB) ∧ Hid (RgO n l2 bs (csl C) 2 OB) ∧ Hid (Below wc.heap.size wc w')) := fun wc hbc w6 v c hb0 hd W hb1 => by
        have hb : Below wc.heap.size wc W := hb0.trans (hb1.mono hb0.size)
        have hbb : Below W5.heap.size W5 W := hbc.trans (hb.mono hbc.size)
        have h := renewed_any n l u2 l2 c2 ba bs bc ca C cc (some ⟨go, 0, none⟩) O C.length v (cgI A1 ++ cgI B1) c 0 2 W hNR (hs1.trans hs2) hk3 (by decide) (by decide) (hO5.on hbb) hRO (by rw [List.length_append, cgI_len, cgI_len, HX.out, HY.out]; omega) hi3 (hd.on hb1) hw2 h82 hbl (HR5.out.on hbb) (HI.out.on (HBW W hbb)) (HRR.out.on (HBW W hbb))
        rw [List.length_append, cgI_len, cgI_len, HX.out, HY.out, HLL2.out] at h
        refine h.mono ?_
        rintro e w' ⟨g, OB, q1, q2, q3, q4⟩
        exact ⟨g, OB, _, q1, q2, q3, hb.trans (q4.mono hb.size)⟩
       have HALK : Hid (∀ wc gb gc OB OC, Ovs wc (some ⟨gb, 0, none⟩) OB → Ovs wc (some ⟨gc, 0, none⟩) OC → RgO n l2 bs (csl C) 2 OB → RgO n l2 bs (csl C) 2 OC → Calls Tryz.prog 53 #[.slice (some ⟨gb, 0, none⟩) C.length C.length, .slice (some ⟨gc, 0, none⟩) C.length C.length] wc fun e w' => e = .returned (.bool true) ∧ Below wc.heap.size wc w') := fun wc gb gc OB OC h1 h2 h3 h4 =>
        alike14_any _ _ C.length C.length C.length OB OC wc h1 h2 (by rw [h3.1, hmb]) (by rw [h4.1, hmb]) h5 (fun j hj => by
         obtain ⟨r1, r2⟩ := h3.2 j (by omega)
         obtain ⟨r3, r4⟩ := h4.2 j (by omega)
         rw [r1, r3]
         exact ⟨hcnt j hj, rfl, fun i hi => by rw [(r2 i hi).2, (r4 i hi).2]⟩)
       have HAAc : Hid (∀ W1, Below W5.heap.size W5 W1 → ∀ W, Below W1.heap.size W1 W → Calls Tryz.prog 55 #[.slice xa X ac] W fun e w' => ∃ v c, e = .returned (.slice v X c) ∧ Hid (Ints w' v (cgI A1)) ∧ Hid (w'.ownsRow W1.heap.size 3 1 (.slice v X c) X (cellsI (cgI A1))) ∧ Hid (Below W1.heap.size W1 w')) := fun W1 hb0 W hb1 => by
        refine (HAA.out W (hp ▸ HBW W (hb0.trans (hb1.mono hb0.size)))).mono ?_
        rintro e w' ⟨v, c, q1, q2, q3⟩
        exact ⟨v, c, q1, ints_ownN q2 (by rw [cgI_len, HX.out]), own_base q2 hb1.size, hb1.trans (q3.mono hb1.size)⟩
       have HABc : Hid (∀ W1, Below W5.heap.size W5 W1 → ∀ W, Below W1.heap.size W1 W → Calls Tryz.prog 55 #[.slice xb Y bcc] W fun e w' => ∃ v c, e = .returned (.slice v Y c) ∧ Hid (Ints w' v (cgI B1)) ∧ Hid (w'.ownsRow W1.heap.size 3 1 (.slice v Y c) Y (cellsI (cgI B1))) ∧ Hid (Below W1.heap.size W1 w')) := fun W1 hb0 W hb1 => by
        refine (HAB.out W (hp ▸ HBW W (hb0.trans (hb1.mono hb0.size)))).mono ?_
        rintro e w' ⟨v, c, q1, q2, q3⟩
        exact ⟨v, c, q1, ints_ownN q2 (by rw [cgI_len, HY.out]), own_base q2 hb1.size, hb1.trans (q3.mono hb1.size)⟩
       have hpW : p + 3 ≤ W5.heap.size ∧ q4 < W5.heap.size ∧ q5 < W5.heap.size := by omega
       have HBLK : Hid (∀ W, Below W5.heap.size W5 W → W.cell? ⟨q4, 0, none⟩ = some (.int .i64 n) ∧ W.cell? ⟨q4, 1, none⟩ = some (.slice u1 L1 c1) ∧ W.cell? ⟨q5, 0, none⟩ = some (.int .i64 n) ∧ W.cell? ⟨q5, 1, none⟩ = some (.slice u2 L2 c2) ∧ W.cell? ⟨p + 1, 0, none⟩ = some (.slice ba bs.length bc) ∧ W.cell? ⟨p + 1, 1, none⟩ = some (.slice ca C.length cc) ∧ W.cell? ⟨p + 1 + 1, 0, none⟩ = some (.slice xa X ac) ∧ W.cell? ⟨p + 1 + 1, 1, none⟩ = some (.slice xb Y bcc)) := fun W hb => by
        obtain ⟨⟨r0, r1⟩, _⟩ := two_cells ((hb.block q4 (by omega)).trans HS4.out)
        obtain ⟨⟨r2, r3⟩, _⟩ := two_cells ((hb.block q5 (by omega)).trans HS5.out)
        obtain ⟨⟨r4, r5⟩, _⟩ := two_cells ((hb.block (p + 1) (by omega)).trans HS1.out)
        obtain ⟨⟨r6, r7⟩, _⟩ := two_cells ((hb.block (p + 1 + 1) (by omega)).trans HS2.out)
        exact ⟨r0, r1, r2, r3, r4, r5, r6, r7⟩
       have HBF := hid HB5.out
       obtain ⟨i3, hi3', hz3', hs3', hby3'⟩ := info_parts info3
       have hI3 := hid (And.intro hi3' (And.intro hz3' (And.intro hs3' hby3')))
       have hpl : p ≤ W5.heap.size := by omega
       obtain ⟨m, HMM⟩ := named C.length
       obtain ⟨mb, HMB⟩ := named bs.length
       rw [HMM.out] at HRN1 HRN2 HRN3 HALK HBLK
       rw [HMB.out] at HRN1 HRN2 HRN3 HBLK
       generalize hAI : cgI A1 = IA at *
       generalize hBI : cgI B1 = IB at *
       have HNA : Hid (IA.length = X) := by show _ = _; rw [← hAI, cgI_len, HX.out]
       have HNB : Hid (IB.length = Y) := by show _ = _; rw [← hBI, cgI_len, HY.out]
       rw [HMM.out, HMB.out]
       clear hAI hBI HMAIN HAA HAB HI HRR HAR HR45 HR5 HS1 HS2 HS4 HS5 HSB5 HB5 hO5 HBW hos hra hO hRO hNR hs1 hs2 hk1 hk2 hk3 hw1 hw2 hi1 hi2 hi3 hmb h5 h1024 hcnt h81 h82 hw5a hq5 hw4a hq4 hns hzz4 hzz5 hz1 hz2 hz3 hz4 hz5 hsz HN1 HL1 HE1 HN2 HL2 HE2 HLL1 HLL2 HX HY HLB HMM HMB HB1 HB2 HB3 HB4 hi3' hz3' hs3' hby3' hpW hww h100 hl hbl
       have HREST := hid (And.intro HRN2.out (And.intro HRN3.out (And.intro HALK.out (And.intro HAAc.out (And.intro HABc.out (And.intro hXY (And.intro hpl (And.intro HBF.out (And.intro HNA.out (And.intro HNB.out hI3.out))))))))))
       have HAAd := hid (HAAc.out W5 (Below.refl _ _))
       clear HRN2 HRN3 HALK HAAc HABc hXY hpl HBF HNA HNB hI3
       obtain ⟨y0, y1, -, -, y4, y5, y6, -⟩ := HBLK.out W5 (Below.refl _ _)
       go_cut [13, 15] (fun s13 s15 wc => ∃ (ga : Nat) (OA : List Lw), s13 = .slice (some ⟨ga, 0, none⟩) m m ∧ s15 = .int .i64 0 ∧ Hid (Ovs wc (some ⟨ga, 0, none⟩) OA) ∧ Hid (RgO n l1 bs (csl C) 1 OA) ∧ Hid (Below W5.heap.size W5 wc))
       case first =>
        clear HREST
        go_region_held3 (fun w' => w'.cell? ⟨q4, 0, none⟩ = some (.int .i64 n) ∧ w'.cell? ⟨q4, 1, none⟩ = some (.slice u1 L1 c1) ∧ w'.cell? ⟨p + 1, 0, none⟩ = some (.slice ba mb bc) ∧ w'.cell? ⟨p + 1, 1, none⟩ = some (.slice ca m cc) ∧ w'.cell? ⟨p + 1 + 1, 0, none⟩ = some (.slice xa X ac)) (go_keep) (first | (go_at_call 44; refine (HRN1.out w6 _ _ HB6.out HI6.out _ (by first | exact Below.refl _ _ | exact (Below.refl _ _).drew | exact below_drewN _ _ _)).mono ?_; rintro e w7 ⟨ga, OA, many, rfl, HOV, HRG, HB7⟩; obtain ⟨z0, z1, -, -, z4, z5, z6, -⟩ := HBLK.out w7 HB7.out) | (go_at_call 55; refine (HAAd.out _ (by first | exact Below.refl _ _ | exact (Below.refl _ _).drew | exact below_drewN _ _ _)).mono ?_; rintro e w6 ⟨v6, d6, rfl, HI6, HO6, HB6⟩; obtain ⟨z0, z1, -, -, z4, z5, z6, -⟩ := HBLK.out w6 HB6.out))
        all_goals
         go_wp2_with fail
         go_meet
         case rel => exact ⟨ga, OA, rfl, rfl, HOV, HRG, HB7⟩
       case rest =>
        rename World => W6
        obtain ⟨ga, OA, rfl, rfl, HOV, HRG, HBA⟩ := hcut
        clear HRN1 HAAd y0 y1 y4 y5 y6
        obtain ⟨r1, r2, r3, r4, r5, r6, r7, r8, r9, r10, r11⟩ := HREST.out
        have HRN2c := hid (r1 W6 ga OA HBA.out HOV.out HRG.out)
        have HABd := hid (r5 W6 HBA.out)
        have HREST2 := hid (And.intro r2 (And.intro r3 (And.intro r4 (And.intro r5 (And.intro r6 (And.intro r7 (And.intro r8 (And.intro r9 (And.intro r10 r11)))))))))
        have HBLK2 : Hid (∀ W, Below W5.heap.size W5 W → W.cell? ⟨q5, 0, none⟩ = some (.int .i64 n) ∧ W.cell? ⟨q5, 1, none⟩ = some (.slice u2 L2 c2) ∧ W.cell? ⟨p + 1, 0, none⟩ = some (.slice ba mb bc) ∧ W.cell? ⟨p + 1, 1, none⟩ = some (.slice ca m cc) ∧ W.cell? ⟨p + 1 + 1, 0, none⟩ = some (.slice xa X ac) ∧ W.cell? ⟨p + 1 + 1, 1, none⟩ = some (.slice xb Y bcc)) := fun W hb => by
         obtain ⟨_, _, q⟩ := HBLK.out W hb
         exact q
        clear HREST HBLK HOV HRG r1 r2 r3 r4 r5 r6 r7 r8 r9 r10 r11
        obtain ⟨y0, y1, y4, y5, -, y7⟩ := HBLK2.out W6 HBA.out
        go_wp2_with fail
        go_cut [16, 18] (fun s16 s18 wc => ∃ (gb : Nat) (OB : List Lw), s16 = .slice (some ⟨gb, 0, none⟩) m m ∧ s18 = .int .i64 0 ∧ Hid (Ovs wc (some ⟨gb, 0, none⟩) OB) ∧ Hid (RgO n l2 bs (csl C) 2 OB) ∧ Hid (Below W6.heap.size W6 wc))
        case first =>
         clear HREST2
         go_region_held3 (fun w' => w'.cell? ⟨q5, 0, none⟩ = some (.int .i64 n) ∧ w'.cell? ⟨q5, 1, none⟩ = some (.slice u2 L2 c2) ∧ w'.cell? ⟨p + 1, 0, none⟩ = some (.slice ba mb bc) ∧ w'.cell? ⟨p + 1, 1, none⟩ = some (.slice ca m cc) ∧ w'.cell? ⟨p + 1 + 1, 1, none⟩ = some (.slice xb Y bcc)) (go_keep) (first | (go_at_call 44; refine (HRN2c.out w6 _ _ HB6.out HI6.out _ (by first | exact Below.refl _ _ | exact (Below.refl _ _).drew | exact below_drewN _ _ _)).mono ?_; rintro e w7 ⟨gb, OB, many2, rfl, HOV, HRG, HB7⟩; obtain ⟨z0, z1, z4, z5, -, z7⟩ := HBLK2.out w7 (bel2 HBA.out HB7.out)) | (go_at_call 55; refine (HABd.out _ (by first | exact Below.refl _ _ | exact (Below.refl _ _).drew | exact below_drewN _ _ _)).mono ?_; rintro e w6 ⟨v6, d6, rfl, HI6, HO6, HB6⟩; obtain ⟨z0, z1, z4, z5, -, z7⟩ := HBLK2.out w6 (bel2 HBA.out HB6.out)))
         all_goals
          go_wp2_with fail
          go_meet
          case rel => exact ⟨gb, OB, rfl, rfl, HOV, HRG, HB7⟩
        case rest =>
         rename World => W7
         obtain ⟨gb, OB, rfl, rfl, HOVb, HRGb, HBB⟩ := hcut
         clear HRN2c HABd y0 y1 y4 y5 y7
         obtain ⟨r2, r3, r4, r5, r6, r7, r8, r9, r10, r11⟩ := HREST2.out
         have HBAB := hid (bel2 HBA.out HBB.out)
         have HRN3d := hid (r2 W7 HBAB.out)
         have HAA0 := hid (r4 W7 HBAB.out)
         have HAB0 := hid (r5 W7 HBAB.out)
         have HAA1 := hid (fun W hb => r4 W (bel2 HBAB.out hb))
         have HAB1 := hid (fun W hb => r5 W (bel2 HBAB.out hb))
         have HREST3 := hid (And.intro r3 (And.intro r8 (And.intro HOVb.out (And.intro HRGb.out r7))))
         have HXY := hid r6
         have HNA := hid r9
         have HNB := hid r10
         have HI3 := hid r11
         clear HREST2 HOVb HRGb r2 r3 r4 r5 r6 r7 r8 r9 r10 r11
         obtain ⟨y0, y1, y4, y5, y6, y7⟩ := HBLK2.out W7 HBAB.out
         go_wp2_with fail
         go_cut [19, 21] (fun s19 s21 wc => ∃ (gc : Nat) (OC : List Lw), s19 = .slice (some ⟨gc, 0, none⟩) m m ∧ s21 = .int .i64 0 ∧ Hid (Ovs wc (some ⟨gc, 0, none⟩) OC) ∧ Hid (RgO n l2 bs (csl C) 2 OC) ∧ Hid (Below W7.heap.size W7 wc))
         case first =>
          clear HREST3
          go_region_held3 (fun w' => w'.cell? ⟨q5, 0, none⟩ = some (.int .i64 n) ∧ w'.cell? ⟨q5, 1, none⟩ = some (.slice u2 L2 c2) ∧ w'.cell? ⟨p + 1, 0, none⟩ = some (.slice ba mb bc) ∧ w'.cell? ⟨p + 1, 1, none⟩ = some (.slice ca m cc) ∧ w'.cell? ⟨p + 1 + 1, 0, none⟩ = some (.slice xa X ac) ∧ w'.cell? ⟨p + 1 + 1, 1, none⟩ = some (.slice xb Y bcc)) (go_keep) (first | (go_at_call 44; refine (HRN3d.out w8 _ _ HB8.out HI8.out _ (by first | exact Below.refl _ _ | exact (Below.refl _ _).drew | exact below_drewN _ _ _)).mono ?_; rintro e w9 ⟨gc, OC, many3, rfl, HOV, HRG, HB9⟩; obtain ⟨z0, z1, z4, z5, z6, z7⟩ := HBLK2.out w9 (bel2 HBAB.out HB9.out)) | (refine wp_append_rows (.tmp 94) (.tmp 97) 25 rfl W7.heap.size 3 i3 _ 1 8 Tryz.underlying25 HI3.out.1 HI3.out.2.1 HI3.out.2.2.1 HI3.out.2.2.2 rfl (by decide) (.slice va X da) X (cellsI IA) rfl (own_on HAz.out (by first | exact Below.refl _ _ | exact (Below.refl _ _).drew | exact below_drewN _ _ _)) W7.heap.size vb Y db (cellsI IB) rfl (own_on HBz.out (by first | exact Below.refl _ _ | exact (Below.refl _ _).drew | exact below_drewN _ _ _)) (by rw [cellsI_len, HNB.out, Nat.mul_one]) (cellsI_one IB) (by have := HXY.out; unfold maxLen; omega) (by have := HXY.out; omega) (bel2 HBZ.out (by first | exact Below.refl _ _ | exact (Below.refl _ _).drew | exact below_drewN _ _ _)).size ?_; intro v8 w8 hown8 hgrow8; rw [cellsI_app] at hown8; obtain ⟨a8, d8, rfl⟩ := own_slice hown8; have HI8 : Hid (Ints w8 a8 (IA ++ IB)) := ints_ownN hown8 (by rw [List.length_append, HNA.out, HNB.out]); have HB8 : Hid (Below W7.heap.size W7 w8) := (bel2 HBZ.out (by first | exact Below.refl _ _ | exact (Below.refl _ _).drew | exact below_drewN _ _ _)).grown hgrow8 (bel2 HBZ.out (by first | exact Below.refl _ _ | exact (Below.refl _ _).drew | exact below_drewN _ _ _)).size (rowOwn HAz.out); clear hown8 hgrow8; obtain ⟨z0, z1, z4, z5, z6, z7⟩ := HBLK2.out w8 (bel2 HBAB.out HB8.out)) | (go_at_call 55; refine (HAB1.out w6 HBA6.out _ (by first | exact Below.refl _ _ | exact (Below.refl _ _).drew | exact below_drewN _ _ _)).mono ?_; rintro e w7 ⟨vb, db, rfl, HIB, HOB, HBB7⟩; have HAz : Hid (w7.ownsRow W7.heap.size 3 1 (.slice va X da) X (cellsI IA)) := own_on HOA.out HBB7.out; have HBz : Hid (w7.ownsRow W7.heap.size 3 1 (.slice vb Y db) Y (cellsI IB)) := own_base HOB.out HBA6.out.size; have HBZ := hid (bel2 HBA6.out HBB7.out); obtain ⟨z0, z1, z4, z5, z6, z7⟩ := HBLK2.out w7 (bel2 HBAB.out HBZ.out)) | (go_at_call 55; refine (HAA1.out w6 HBB6.out _ (by first | exact Below.refl _ _ | exact (Below.refl _ _).drew | exact below_drewN _ _ _)).mono ?_; rintro e w7 ⟨va, da, rfl, HIA, HOA, HBA7⟩; have HBz : Hid (w7.ownsRow W7.heap.size 3 1 (.slice vb Y db) Y (cellsI IB)) := own_on HOB.out HBA7.out; have HAz : Hid (w7.ownsRow W7.heap.size 3 1 (.slice va X da) X (cellsI IA)) := own_base HOA.out HBB6.out.size; have HBZ := hid (bel2 HBB6.out HBA7.out); obtain ⟨z0, z1, z4, z5, z6, z7⟩ := HBLK2.out w7 (bel2 HBAB.out HBZ.out)) | (go_at_call 55; refine (HAA0.out _ (by first | exact Below.refl _ _ | exact (Below.refl _ _).drew | exact below_drewN _ _ _)).mono ?_; rintro e w6 ⟨va, da, rfl, HIA, HOA, HBA6⟩; obtain ⟨z0, z1, z4, z5, z6, z7⟩ := HBLK2.out w6 (bel2 HBAB.out HBA6.out)) | (go_at_call 55; refine (HAB0.out _ (by first | exact Below.refl _ _ | exact (Below.refl _ _).drew | exact below_drewN _ _ _)).mono ?_; rintro e w6 ⟨vb, db, rfl, HIB, HOB, HBB6⟩; obtain ⟨z0, z1, z4, z5, z6, z7⟩ := HBLK2.out w6 (bel2 HBAB.out HBB6.out)))
          all_goals
           go_wp2_with fail
           go_meet
           case rel => exact ⟨gc, OC, rfl, rfl, HOV, HRG, HB9⟩
         case rest =>
          rename World => W8
          obtain ⟨gc, OC, rfl, rfl, HOVc, HRGc, HBC⟩ := hcut
          clear HRN3d HAA0 HAB0 HAA1 HAB1 y0 y1 y4 y5 y6 y7
          obtain ⟨r3, r8, ro, rg, r7⟩ := HREST3.out
          have HLAST := hid (r3 W8 gb gc OB OC (ro.on HBC.out) HOVc.out rg HRGc.out)
          have HBL : Hid (Below p w W8) := r8.trans ((bel2 HBAB.out HBC.out).mono r7)
          have hpl : p ≤ W8.heap.size := by have := HBL.out.size; have := (bel2 HBAB.out HBC.out).size; omega
          clear HREST3 r3 r8 ro rg r7
          go_wp2_with fail
          refine HLAST.out.mono ?_
          rintro e w9 ⟨rfl, hb9⟩
          have HBX : Hid (Below p w w9) := HBL.out.trans (hb9.mono hpl)
          go_wp2_with fail
          go_ret
          exact ⟨rfl, HBX.out⟩
      ·have hb : (E2 != 0) = true := by simp [hE2]
       go_wp2_with fail
       go_ret
       exact ⟨rfl, HB5.out⟩
     ·have hb : (E1 != 0) = true := by simp [hE1]
      go_wp2_with fail
      go_ret
      exact ⟨rfl, HB5.out⟩
    ·obtain ⟨x, hx, rfl⟩ := h2 hns
     have hxb : (x != 0) = true := by simp [hx]
     clear h1 h2
     obtain ⟨⟨a0, a1⟩, _⟩ := two_cells HM0.out
     obtain ⟨⟨a4, a5⟩, _⟩ := two_cells HM2.out
     have HC1c := hid (HCH1.out w3 HB3.out)
     go_wp2_with fail
     refine HC1c.out.mono ?_
     rintro e w4 ⟨u1, c1, rfl, hr4, hn4, hb4⟩
     have hz4 := hb4.size
     have HB4 : Hid (Below p w (w4.alloc (.cells #[.int .i64 N1, .slice u1 L1 c1] 24))) := (HB3.out.trans (hb4.mono (by omega))).alloc (by omega) _
     have hba : Below w4.heap.size w4 (w4.alloc (.cells #[.int .i64 N1, .slice u1 L1 c1] 24)) := (Below.refl _ _).alloc (Nat.le_refl _) _
     have HN4 := hid hn4
     have HR4 := hid (hr4.on hba)
     have HQ1 := hid ((hba.block (p + 1) (by omega)).trans ((hb4.block (p + 1) (by omega)).trans HM1.out))
     have HQ2 := hid ((hba.block (p + 1 + 1) (by omega)).trans ((hb4.block (p + 1 + 1) (by omega)).trans HM2.out))
     have HQ4 := hid (heap_top w4 (.cells #[.int .i64 N1, .slice u1 L1 c1] 24))
     have HSB4 : Hid (Below w3.heap.size w3 (w4.alloc (.cells #[.int .i64 N1, .slice u1 L1 c1] 24))) := hb4.alloc (by omega) _
     have hzz4 : (w4.alloc (.cells #[.int .i64 N1, .slice u1 L1 c1] 24)).heap.size = w4.heap.size + 1 := by simp
     clear hb4 hr4 hn4 hba a0 a1 a4 a5 HC1c HCH1 HM0 HM1 HM2
     have HC2c := hid (HCH2.out _ u1 c1 HB4.out HR4.out HN4.out)
     obtain ⟨⟨a0, a1⟩, _⟩ := two_cells HQ4.out
     obtain ⟨⟨a4, a5⟩, _⟩ := two_cells HQ2.out
     go_wp2_with fail
     generalize hw4a : w4.alloc (.cells #[.int .i64 N1, .slice u1 L1 c1] 24) = W4 at *
     generalize hq4 : w4.heap.size = q4 at *
     refine HC2c.out.mono ?_
     rintro e w5 ⟨u2, c2, rfl, hr5, hn5, hb5⟩
     have hz5 := hb5.size
     have HB5 : Hid (Below p w (w5.alloc (.cells #[.int .i64 N2, .slice u2 L2 c2] 24))) := (HB4.out.trans (hb5.mono (by omega))).alloc (by omega) _
     have hba : Below w5.heap.size w5 (w5.alloc (.cells #[.int .i64 N2, .slice u2 L2 c2] 24)) := (Below.refl _ _).alloc (Nat.le_refl _) _
     have HR5 := hid (hr5.on hba)
     have HR45 := hid ((HR4.out.on hb5).on hba)
     have HS1 := hid ((hba.block (p + 1) (by omega)).trans ((hb5.block (p + 1) (by omega)).trans HQ1.out))
     have HS2 := hid ((hba.block (p + 1 + 1) (by omega)).trans ((hb5.block (p + 1 + 1) (by omega)).trans HQ2.out))
     have HS4 := hid ((hba.block q4 (by omega)).trans ((hb5.block q4 (by omega)).trans HQ4.out))
     have HS5 := hid (heap_top w5 (.cells #[.int .i64 N2, .slice u2 L2 c2] 24))
     have HSB5 : Hid (Below w3.heap.size w3 (w5.alloc (.cells #[.int .i64 N2, .slice u2 L2 c2] 24))) := HSB4.out.trans ((hb5.alloc (by omega) _).mono (by have := HSB4.out.size; omega))
     have hzz5 : (w5.alloc (.cells #[.int .i64 N2, .slice u2 L2 c2] 24)).heap.size = w5.heap.size + 1 := by simp
     clear hb5 hr5 hn5 hba a0 a1 a4 a5 HC2c HCH2 HQ1 HQ2 HQ4 HR4 HN4 HSB4
     go_wp2_with fail
     go_ret
     exact ⟨rfl, HB5.out⟩
end Go.Proofs.YtaafkpojjdjphaaGreat
