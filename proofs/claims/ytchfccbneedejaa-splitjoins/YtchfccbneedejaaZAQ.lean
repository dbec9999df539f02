/-
  Lists of numbers that are lent, and kept. The contract of flyoverref09.Up. The contract of flyoverref09.CutUp. Contract of the book's KeptGraph, at a graph that was kept: true. Contract of the book's LendGraph: a graph of its own, with a mark behind its arcs.
-/
import Derived.Test.YtchfccbneedejaaZAO
import Derived.Test.YtchfccbneedejaaZAP
import Derived.Test.YtchfccbneedejaaZAN
import Derived.Deep.RegionHeld3
import Derived.Test.YtchfccbneedejaaZAA
namespace Go.Proofs.Ytchfccbneedejaa
open Go.RowKit
theorem div_hit {t B : Nat} (h0 : 0 < t) (hB : 0 < B) (h : t % B = 0) : (t - 1) / B + 1 = t / B := by
  obtain ⟨q, rfl⟩ : ∃ q, t = B * q := ⟨t / B, by have := Nat.div_add_mod t B; omega⟩
  rw [Nat.mul_div_cancel_left _ hB]
  rcases q with _ | q
  · simp at h0
  · have e : B * (q + 1) - 1 = B * q + (B - 1) := by rw [Nat.mul_succ]; omega
    rw [e, Nat.mul_add_div hB, Nat.div_eq_of_lt (by omega)]
theorem div_miss {t B : Nat} (hB : 0 < B) (h : t = 0 ∨ t % B ≠ 0) : (t - 1) / B = t / B := by
  rcases h with rfl | h
  · rfl
  · have h1 := Nat.div_add_mod t B
    have h2 := Nat.mod_lt t hB
    have e : t - 1 = B * (t / B) + (t % B - 1) := by omega
    rw [e, Nat.mul_add_div hB, Nat.div_eq_of_lt (show t % B - 1 < B by omega)]
    omega
/-- What is known of right labels and a bound. -/
structure UpK (l : List A) (L S : List Nat) (B : Nat) : Prop where
  s1 : S.length ≤ 1024
  sl : ∀ k, S.getD k 0 ≤ 1024
  vn : ∀ k, B < S.getD k 0 → vsL L k ≠ []
  ol : ∀ k, B < S.getD k 0 → (orL l L k).length = S.getD k 0
  nx : ∀ k, k ≤ S.length → (cuS l L S B k).2 ≤ cuB - 1024
  pm : ∀ k, k ≤ S.length → ∀ u, u ∈ (cuS l L S B k).1 → u ≤ cuB
  me : ∀ k, B < S.getD k 0 → ∀ v, v ∈ orL l L k → v < L.length
theorem upK {n : Nat} {l : List A} {L : List Nat} {B : Nat} (hC : chkE n l = 0) (hL : L.length = n) (hT : tdy (ints L) 0 = true) : UpK l L (szL (ints L)) B := by
  subst hL
  obtain ⟨h1n, hn, hl, hoa⟩ := chk_zero hC
  have hn' : L.length ≤ 1024 := by omega
  have hS1 : (szL (ints L)).length ≤ 1024 := Nat.le_trans (szL_length _) (by rw [ints_len]; exact hn')
  have HSV : ∀ k, (szL (ints L)).getD k 0 = (vsL L k).length := fun k => sz_vs hT k
  have HSL : ∀ k, (szL (ints L)).getD k 0 ≤ 1024 := fun k => Nat.le_trans (szL_le _ k) (by rw [ints_len]; exact hn')
  have HVN : ∀ k, B < (szL (ints L)).getD k 0 → vsL L k ≠ [] := fun k hk e => by rw [HSV, e] at hk; simp at hk
  have HOL : ∀ k, B < (szL (ints L)).getD k 0 → (orL l L k).length = (szL (ints L)).getD k 0 := fun k hk => by rw [HSV, orL_len hC rfl (HVN k hk)]
  have HOC : ∀ k, B < (szL (ints L)).getD k 0 → (orL l L k).length + 1 ≤ 1025 := fun k hk => by have h1 := HOL k hk; have h2 := HSL k; omega
  have HLM : ∀ u, u ∈ L → u ≤ cuB := fun u hu => by
    obtain ⟨i, hi, rfl⟩ := List.getElem_of_mem hu
    have h := (right_next hT i (by rw [ints_len]; exact hi)).2
    rw [ints_getD hi, Int.toNat_natCast] at h
    have h2 := szL_length ((ints L).take i)
    rw [List.length_take, ints_len] at h2
    have h3 : L.getD i 0 = L[i] := by simp [List.getD, List.getElem?_eq_getElem hi]
    rw [cuB_le]
    omega
  refine ⟨hS1, HSL, HVN, HOL, fun k hk => ?_, fun k hk => cuS_mem HOC HLM k ?_, fun k hk v hv => (orL_mem hC rfl (HVN k hk) hv).1⟩
  · have h := cu_next HOC k
    have h2 : k * 1025 ≤ 1024 * 1025 := Nat.mul_le_mul_right _ (by omega)
    rw [cuB_le]
    omega
  · have h2 : k * 1025 ≤ 1024 * 1025 := Nat.mul_le_mul_right _ (by omega)
    rw [cuB_le]
    omega
set_option maxRecDepth 100000 in
set_option maxHeartbeats 1600000 in
theorem up_ok (n : Nat) (a : Option Addr) (l : List A) (cap : Nat) (ad : Addr) (L : List Nat) (bc B : Nat) (w : World) (hC : chkE n l = 0) (hL : L.length = n) (hT : tdy (ints L) 0 = true) (hB1 : 1 ≤ B) (hB2 : B ≤ 1024) (hr : Arcs w a l) (hi : Ints w (some ad) (ints L)) :
    Calls Try.prog 32 #[.agg #[.int .i64 n, .slice a l.length cap], .slice (some ad) L.length bc, .int .i64 B] w fun e w' => ∃ v c, e = .returned (.slice v (cuL l L B).length c) ∧ w'.ownsRow w.heap.size 3 1 (.slice v (cuL l L B).length c) (cuL l L B).length (cellsI (ints (cuL l L B))) ∧ Below w.heap.size w w' := by
  subst hL
  have HK := Lib.hid (upK (B := B) hC rfl hT)
  obtain ⟨h1n, hn, hl, hoa⟩ := chk_zero hC
  have hn' : L.length ≤ 1024 := by omega
  have h1n' : 1 ≤ L.length := by omega
  have HC := Lib.hid hC
  have hb0 : Below w.heap.size w (w.alloc (.cells #[.int .i64 L.length, .slice a l.length cap] 24)) := (Below.refl _ _).alloc (Nat.le_refl _) _
  have hg := heap_top w (.cells #[.int .i64 L.length, .slice a l.length cap] 24)
  have HR := Lib.hid (hr.on hb0)
  have HI := Lib.hid (hi.on hb0)
  have HB0 := Lib.hid hb0
  have HSZ := Lib.hid (rsize_any (some ad) (ints L) bc (w.alloc (.cells #[.int .i64 L.length, .slice a l.length cap] 24)) (by rw [ints_len]; exact hn') hT HI.out)
  have HCU : Hid (cuL l L B = tdL (cuS l L (szL (ints L)) B (szL (ints L)).length).1) := rfl
  obtain ⟨S, HS⟩ := named (szL (ints L))
  rw [HS.out, ints_len] at HSZ
  rw [HS.out] at HK HCU
  have hS1 := HK.out.s1
  obtain ⟨R, HRR⟩ := named (cuL l L B)
  rw [HRR.out] at HCU ⊢
  have hwz : w.heap.size ≤ (w.alloc (.cells #[.int .i64 L.length, .slice a l.length cap] 24)).heap.size := hb0.size
  obtain ⟨i3, hi3, hz3, hs3, hby3⟩ := info_parts info3
  obtain ⟨i4, hi4, hz4', hs4, hb4'⟩ := info_parts info4C
  have hmk : ∀ w, (Instr.makeSlice 69 (.int .i64 L.length) (.int .i64 L.length)).run Try.prog w = .ok (.slice (some ⟨w.heap.size, 0, none⟩) L.length L.length) (w.alloc (.cells ((List.range L.length).map (fun _ => Value.bool false)).toArray 4)) := fun w => by
    have := run_make (P := Try.prog) w 69 4 i4 (.bool false) Try.underlying69 hi4 hz4' .i64 .i64 L.length L.length (by omega) (by omega) (by rw [hb4']; omega) (by omega)
    rw [this, Int.toNat_natCast, hs4, made_bool]
  clear hi4 hz4' hs4 hb4'
  clear i4
  clear hb0 hr hi hoa h1n hn hC hT
  generalize hp : w.heap.size = p at *
  go_enter Try.func32, Try.ntmps32
  go_wp2_with fail
  generalize hW : w.alloc (.cells #[.int .i64 L.length, .slice a l.length cap] 24) = W at *
  clear hW
  refine HSZ.out.mono ?_
  rintro e w1 ⟨v1, c1', rfl, hown1, hb1⟩
  have HB1 : Hid (Below p w w1) := HB0.out.trans (hb1.mono hwz)
  have HS1 : Hid (Ints w1 v1 (ints S)) := own_ints hown1 rfl
  have HR1 := Lib.hid (HR.out.on hb1)
  have HI1 := Lib.hid (HI.out.on hb1)
  have hg1 := (hb1.block p (by have := lt_of_block hg; omega)).trans hg
  have hz1 : p + 1 ≤ w1.heap.size := by have := hb1.size; have := lt_of_block hg; omega
  have HG1 := Lib.hid hg1
  generalize hq : w1.heap.size = q at *
  have HNW := Lib.hid (ints_newsC HI1.out (.cells #[] 3))
  have HOW : Hid ((w1.alloc (.cells #[] 3)).ownsRow q 3 1 (.slice (some ⟨w1.heap.size, 0, none⟩) 0 0) 0 []) := World.ownsRow_lit (base := q) (e := 3) (size := 1) w1 #[] 0 (by omega) (by decide) rfl
  have HBB : Hid (Below q w1 (w1.alloc (.cells #[] 3))) := (Below.refl _ _).alloc (by omega) _
  have HCL : Hid ((cellsI (ints L)).length = L.length * 1) := by show _ = _; rw [cellsI_len, ints_len]; omega
  rw [hq] at HOW
  clear hown1 hb1 HSZ hg hg1 HR HI HB0 hwz
  go_wp2_with (at_builtin; refine wpList_append_own _ rfl (.tmp 20) (.tmp 21) 25 rfl q 3 i3 (.int .i64 0) 1 8 Try.underlying25 hi3 hz3 hs3 hby3 rfl (by decide) (.slice (some ⟨q, 0, none⟩) 0 0) 0 [] rfl HOW.out ad L.length bc (cellsI (ints L)) rfl HCL.out HNW.out (one_I _) (by unfold maxLen; omega) (by omega) (by simp; omega) ?_; intro v6 w6 hown6 hgrow6 hnil6; obtain ⟨g, gc, hv6, _, _, _, _⟩ := own_shape hown6 (fun e => by have := hnil6.1 e; simp at this); rw [hv6] at hown6 ⊢; clear hnil6 hv6; simp only [Nat.zero_add, List.nil_append] at hown6 ⊢; have HO2 := Lib.hid hown6; have HB2 : Hid (Below q w1 w6) := HBB.out.grown hgrow6 (by simp; omega) (by intro k hk; cases hk; exact Nat.le_refl _); clear hown6 hgrow6)
  go_loopw [9, 10] (fun x i wr => ∃ k : Nat, k ≤ S.length ∧ i = .int .i64 k ∧ x = .int .i64 (((cuS l L S B k).2 : Nat) : Int) ∧ Hid (wr.ownsRow q 3 1 (.slice (some ⟨g, 0, none⟩) (cuS l L S B k).1.length gc) (cuS l L S B k).1.length (cellsI (ints (cuS l L S B k).1))) ∧ Hid (Below q w1 wr)) (fun x i _ => S.length - (intOf i).toNat)
  case atStart => exact ⟨0, Nat.zero_le _, rfl, rfl, HO2, HB2⟩
  case round =>
    obtain ⟨k, hk, rfl, rfl, HOR, HBR⟩ := hrel
    have hqr : q ≤ wr.heap.size := hq ▸ HBR.out.size
    have hgr := (HBR.out.block p (by omega)).trans HG1.out
    by_cases hlk : k < S.length
    · have hlk' : (k : Int) < S.length := by omega
      obtain ⟨ix, ox, hix⟩ := HS1.out.get
      obtain ⟨rfl, hbl, hat⟩ := hix (by rw [ints_len]; omega)
      have y0 := (HBR.out.cell (p := ⟨ix, ox + k, none⟩) (hq ▸ hbl)).trans (hat k (by rw [ints_len]; exact hlk))
      rw [ints_getD hlk] at y0
      clear hat hix
      have hs1 := HK.out.sl k
      obtain ⟨s, Hs⟩ := named (S.getD k 0)
      rw [Hs.out] at y0 hs1
      by_cases hsb : s ≤ B
      · have hsb' : (s : Int) ≤ B := by omega
        have HE : Hid (cuS l L S B (k + 1) = cuS l L S B k) := cuS_le (by rw [Hs.out]; exact hsb)
        clear hgr
        go_wp2_with fail
        refine ⟨⟨k + 1, by omega, by simp, by rw [HE.out], by rw [HE.out]; exact HOR, HBR⟩, by simp [intOf]; omega⟩
      · have hsb' : ¬ (s : Int) ≤ B := by omega
        obtain ⟨⟨d0, d1⟩, _⟩ := two_cells hgr
        have hsB : B < S.getD k 0 := by rw [Hs.out]; omega
        have HML := Lib.hid (HK.out.ol k hsB)
        have HMM := Lib.hid (HK.out.me k hsB)
        have HVE := Lib.hid (HK.out.vn k hsB)
        have HCG := Lib.hid (cuS_gt (l := l) (L := L) (S := S) (bd := B) (k := k) (by omega))
        have HPL : Hid ((cuS l L S B k).1.length = L.length) := cuS_len l L S B k
        have hnx := HK.out.nx k hk
        obtain ⟨P, HP⟩ := named (cuS l L S B k).1
        obtain ⟨nx, Hn⟩ := named (cuS l L S B k).2
        rw [HP.out] at HOR HPL HCG
        rw [Hn.out] at hnx HCG ⊢
        rw [Hs.out] at HML
        rw [HPL.out] at HOR
        rw [HML.out] at HCG
        have hnx' : nx ≤ 2000000 := by have := cuB_le; omega
        have HGR := Lib.hid hgr
        obtain ⟨z, hz⟩ : ∃ z, wr.heap.size = z := ⟨_, rfl⟩
        rw [hz] at hqr
        have HT0 : Hid (TbV (wr.alloc (.cells ((List.range L.length).map (fun _ => Value.bool false)).toArray 4)) z L.length 4 (fun v => .bool (decide (v < 0) && decide (L.getD v 0 = k)))) := by
          have h := heap_top wr (.cells ((List.range L.length).map (fun _ => Value.bool false)).toArray 4)
          rw [hz] at h
          exact TbV.congr (show TbV _ z L.length 4 (fun _ => .bool false) from h) (fun v _ => by simp)
        have HBU : Hid (Below z wr (wr.alloc (.cells ((List.range L.length).map (fun _ => Value.bool false)).toArray 4))) := (Below.refl _ _).alloc (by omega) _
        have HIr : Hid (Ints wr (some ad) (ints L)) := HI1.out.on (hq ▸ HBR.out)
        have HAr : Hid (Arcs wr a l) := HR1.out.on (hq ▸ HBR.out)
        clear hgr hsB hnx
        go_wp2_with fail
        try rw [hz]
        generalize hU : wr.alloc (.cells ((List.range L.length).map (fun _ => Value.bool false)).toArray 4) = U at *
        clear hU
        clear y0 d0 d1
        obtain ⟨jx, px, hjx⟩ := HIr.out.get
        have HJX := Lib.hid hjx
        clear hjx
        go_loopw [12] (fun i wi => ∃ u : Nat, u ≤ L.length ∧ i = .int .i64 u ∧ Hid (TbV wi z L.length 4 (fun v => .bool (decide (v < u) && decide (L.getD v 0 = k)))) ∧ Hid (Below z wr wi)) (fun i _ => L.length - (intOf i).toNat)
        case atStart => exact ⟨0, Nat.zero_le _, rfl, HT0, HBU⟩
        case round =>
          obtain ⟨u, hu, rfl, HTR, HBT⟩ := hrel
          have hgi := (HBT.out.block p (by omega)).trans HGR.out
          obtain ⟨⟨d0, d1⟩, _⟩ := two_cells hgi
          by_cases hlu : u < L.length
          · obtain ⟨hje, hjb, hjat⟩ := HJX.out (by rw [ints_len]; omega)
            obtain rfl : ad = ⟨jx, px, none⟩ := Option.some.inj hje
            clear hje
            have hlu' : (u : Int) < L.length := by omega
            have y0 := (HBT.out.cell (p := ⟨jx, px + u, none⟩) (hz ▸ hjb)).trans (hjat u (by rw [ints_len]; exact hlu))
            rw [ints_getD hlu] at y0
            have e1 := HTR.out.cell hlu
            have e2 := HTR.out.free u
            generalize (decide (u < u) && decide (L.getD u 0 = k)) = old at e1
            have HTK : Hid (TbV (wr.setCell ⟨z, u, none⟩ (.bool (decide (L.getD u 0 = k)))) z L.length 4 (fun v => .bool (decide (v < u + 1) && decide (L.getD v 0 = k)))) := (HTR.out.set u (.bool (decide (L.getD u 0 = k)))).congr (fun v _ => by
              by_cases e : v = u
              · subst e; rw [updV_self]; simp
              · rw [updV_ne _ _ e]
                congr 2
                rw [Bool.eq_iff_iff]
                simp only [decide_eq_true_eq]
                omega)
            have HBK := Lib.hid (HBT.out.setCell (p := ⟨z, u, none⟩) (Nat.le_refl _) (.bool (decide (L.getD u 0 = k))))
            clear hjat hgi
            by_cases he : L.getD u 0 = k
            · rw [decide_eq_true he] at HTK HBK
              rw [he] at y0
              have hq : ((k : Int) == (k : Int)) = true := by simp
              clear he
              go_wp2_with fail
              exact ⟨⟨u + 1, by omega, by simp, HTK, HBK⟩, by simp [intOf]; omega⟩
            · rw [decide_eq_false he] at HTK HBK
              obtain ⟨x, HX⟩ := named (L.getD u 0)
              rw [HX.out] at y0 he
              have hq : ((x : Int) == (k : Int)) = false := by simp; omega
              clear he
              go_wp2_with fail
              exact ⟨⟨u + 1, by omega, by simp, HTK, HBK⟩, by simp [intOf]; omega⟩
          · obtain rfl : u = L.length := by omega
            have hlu' : ¬ (L.length : Int) < L.length := by omega
            have hzi : z ≤ wr.heap.size := hz ▸ HBT.out.size
            have HBL : Hid (T3.Bools (· < wr.heap.size) wr (some ⟨z, 0, none⟩) (kpB L k)) := tb_bools (HTR.out.congr (fun v hv => by simp [hv]))
            have HAi : Hid (Arcs wr a l) := HAr.out.on (by rw [hz]; exact HBT.out)
            have HBQ : Hid (Below q w1 wr) := HBR.out.trans (HBT.out.mono hqr)
            have HKP := Lib.hid (T3.rkept_any L.length a (l.map toT) cap (some ⟨z, 0, none⟩) (kpB L k) L.length wr hn' (by rw [List.length_map]; exact hl) (kpB_len L k) (T3.chk_zero ((chkE_T _ l).trans HC.out)).2.2.2 (arcs_T HAi.out) HBL.out)
            rw [List.length_map] at HKP
            have HCI := Lib.hid (inL_ok HC.out rfl HVE.out)
            obtain ⟨hnd, hmem⟩ := owL_inv HC.out rfl HVE.out
            have HMEM := Lib.hid hmem
            have HOWL := Lib.hid (owL_len HC.out rfl HVE.out)
            have HVL : Hid ((vsL L k).length = s) := by
              show _ = _
              rw [← HML.out, orL_len HC.out rfl HVE.out]
            obtain ⟨IA, HIA⟩ := named (T3.indA (mq L k) (l.map toT))
            obtain ⟨vs, HVS⟩ := named (vsL L k)
            have HIA' : Hid (T3.indA (T3.mk (kpB L k)) (l.map toT) = IA) := HIA
            have HVS' : Hid (T3.hits (T3.mk (kpB L k)) L.length = vs) := HVS
            rw [HIA'.out, HVS'.out] at HKP
            have HINL : Hid (inL l L k = IA.map toA) := by show _ = _; unfold inL; rw [HIA.out]
            have HOR' : Hid (orL l L k = (owL l L k).map (fun v => (vs.getD v 0).toNat)) := by show _ = _; unfold orL; rw [HVS.out]
            rw [HVS.out] at HMEM HCI HVL HOWL
            rw [HVL.out] at HOWL HMEM HCI HKP
            have HVN : Hid (∀ j, j < s → ∃ u : Nat, u < L.length ∧ vs.getD j 0 = (u : Int)) := fun j hj => by
              obtain ⟨u, h1, _, h3, _⟩ := T3.hits_idx (q := mq L k) (n := L.length) (j := j) (by have e : T3.hits (mq L k) L.length = vs := HVS.out; rw [e, HVL.out]; exact hj)
              have e : T3.hits (mq L k) L.length = vs := HVS.out
              rw [e] at h3
              exact ⟨u, h1, h3⟩
            have HPi : Hid (wr.ownsRow q 3 1 (.slice (some ⟨g, 0, none⟩) L.length gc) L.length (cellsI (ints P))) := by
              refine ⟨HOR.out.1, ?_⟩
              rcases HOR.out.2 with h' | ⟨g', c', cur, h1, h2, h3, h4⟩
              · exact Or.inl h'
              · exact Or.inr ⟨g', c', cur, h1, h2, (HBT.out.block g' (by have := lt_of_block h3; omega)).trans h3, h4⟩
            clear hgi hnd hmem HBL HTR HBT HOR HBR
            go_wp2_with fail
            refine HKP.out.mono ?_
            rintro e w2 ⟨ah, ch, av, cv, ai, ci, rfl, hownA, hownV, _, hb2⟩
            have hw2 : wr.heap.size ≤ w2.heap.size := hb2.size
            have HB2 : Hid (Below q w1 w2) := HBQ.out.trans (hb2.mono (by omega))
            have HAR : Hid (Arcs w2 ah (IA.map toA)) := arcs_M hownA.arcs
            have HVI : Hid (Ints w2 av vs) := hownV.ints
            have hgz0 : g < wr.heap.size := by
              rcases HPi.out.2 with ⟨h, _⟩ | ⟨g', c', cur, h, h2, h3, _⟩
              · cases h
              · injection h with e1; injection e1 with e1; injection e1 with e1; exact e1 ▸ lt_of_block h3
            have HP2 : Hid (w2.ownsRow q 3 1 (.slice (some ⟨g, 0, none⟩) L.length gc) L.length (cellsI (ints P))) := by
              refine ⟨HPi.out.1, ?_⟩
              rcases HPi.out.2 with h' | ⟨g', c', cur, h1, h2, h3, h4⟩
              · exact Or.inl h'
              · exact Or.inr ⟨g', c', cur, h1, h2, (hb2.block g' (lt_of_block h3)).trans h3, h4⟩
            have hb23 : Below w2.heap.size w2 (w2.alloc (.cells #[.int .i64 s, .slice ah IA.length ch] 24)) := (Below.refl _ _).alloc (Nat.le_refl _) _
            have hg3 := heap_top w2 (.cells #[.int .i64 s, .slice ah IA.length ch] 24)
            have HA3 := Lib.hid (HAR.out.on hb23)
            have HV3 := Lib.hid (own_on hownV hb23)
            have HP3 := Lib.hid (own_on HP2.out hb23)
            have HB3 : Hid (Below q w1 (w2.alloc (.cells #[.int .i64 s, .slice ah IA.length ch] 24))) := HB2.out.trans (hb23.mono (by omega))
            have hw3 : w2.heap.size ≤ (w2.alloc (.cells #[.int .i64 s, .slice ah IA.length ch] 24)).heap.size := hb23.size
            obtain ⟨⟨d2, d3⟩, _⟩ := two_cells hg3
            clear hb2 hownA hownV HKP d0 d1 HPi hb23 hg3
            go_wp2_with fail
            generalize hw3e : w2.alloc (.cells #[.int .i64 s, .slice ah IA.length ch] 24) = w3 at *
            clear hw3e d2 d3
            have hcz := chk_zero HCI.out
            have HWH := Lib.hid (rwhole_any s ah (IA.map toA) ch w3 hs1 (by have h := hcz.2.2.1; rw [HINL.out] at h; exact h) (by have h := hcz.2.2.2; rw [HINL.out] at h; exact h) HA3.out)
            have HOE : Hid ((ordw (edl (IA.map toA)) (2 * (IA.map toA).length) s s).1 = owL l L k) := by show _ = _; unfold owL; rw [HVS.out, HVL.out, HINL.out]
            rw [HOE.out, List.length_map] at HWH
            obtain ⟨M, HM⟩ := named (orL l L k)
            obtain ⟨Q, HQ⟩ := named (owL l L k)
            rw [HQ.out] at HWH HOWL HMEM HOR'
            rw [HM.out] at HCG HOR' HML
            rw [HOWL.out] at HWH
            clear hcz
            have hgq : q ≤ g ∧ g < w2.heap.size := by
              rcases HP2.out.2 with ⟨h, _⟩ | ⟨g', c', cur, h, h2, h3, _⟩
              · cases h
              · injection h with e1; injection e1 with e1; injection e1 with e1; exact ⟨e1 ▸ h2, e1 ▸ lt_of_block h3⟩
            refine HWH.out.mono ?_
            rintro e w4 ⟨v4, rfl, hown4, hb4⟩
            have HV4 := Lib.hid (own_on HV3.out hb4)
            have HP4 := Lib.hid (own_on HP3.out hb4)
            have HB4 : Hid (Below q w1 w4) := HB3.out.trans (hb4.mono (by omega))
            have hne4 : v4 ≠ .slice none 0 0 := fun e => by
              rcases hown4.2 with ⟨_, h⟩ | ⟨_, _, _, h, _⟩
              · omega
              · rw [h] at e; cases e
            obtain ⟨gq, cq, hv4, hgq4, _, _, _⟩ := own_shape hown4 hne4
            clear hne4
            subst hv4
            have HQ4 := Lib.hid hown4
            obtain ⟨z3, hz3⟩ : ∃ z3, w3.heap.size = z3 := ⟨_, rfl⟩
            obtain ⟨z2, hz2⟩ : ∃ z2, wr.heap.size = z2 := ⟨_, rfl⟩
            rw [hz3] at HQ4 hw3
            rw [hz2] at HV4 hzi hw2
            rw [hz2] at hgz0
            clear hown4 hb4 HWH HP3 HV3 HA3 HB3 HP2 HAR HVI
            go_wp2_with fail
            go_loopw [9, 17] (fun x i wi => ∃ t : Nat, t ≤ s ∧ i = .int .i64 t ∧ x = .int .i64 (((nx + (t - 1) / B : Nat)) : Int) ∧ Hid (wi.ownsRow q 3 1 (.slice (some ⟨g, 0, none⟩) (asg P M nx B t).length gc) (asg P M nx B t).length (cellsI (ints (asg P M nx B t)))) ∧ Hid (wi.ownsRow z3 3 1 (.slice (some ⟨gq, 0, none⟩) Q.length cq) Q.length (cellsI (ints Q))) ∧ Hid (T3.OwnI wi z2 av cv vs) ∧ Hid (Below q w1 wi)) (fun _ i _ => s - (intOf i).toNat)
            case atStart => exact ⟨0, Nat.zero_le _, rfl, by simp, by rw [asg_len, HPL.out]; exact HP4, by rw [HOWL.out]; exact HQ4, HV4, HB4⟩
            case round =>
              obtain ⟨t, ht, rfl, rfl, HPT, HQT, HVT, HBT⟩ := hrel
              have hdl : (t - 1) / B ≤ t - 1 := Nat.div_le_self _ _
              have hdl2 : (t - 1) / B ≤ 1024 := by omega
              clear hdl
              by_cases hlt : t < s
              · have hlt' : (t : Int) < s := by omega
                have y0 := own_cellI HQT.out (k := t) (by rw [HOWL.out]; exact hlt)
                have hxs : Q.getD t 0 < s := (HMEM.out _).1 (by have h : t < Q.length := (by rw [HOWL.out]; exact hlt); simp [List.getD, List.getElem?_eq_getElem h])
                have HMT : Hid (M.getD t 0 = (vs.getD (Q.getD t 0) 0).toNat) := by
                  have h : t < Q.length := by rw [HOWL.out]; exact hlt
                  show _ = _
                  rw [HOR'.out]
                  simp [List.getD, List.getElem?_eq_getElem h]
                obtain ⟨x, HX⟩ := named (Q.getD t 0)
                rw [HX.out] at y0 hxs HMT
                have hxs' : (x : Int) < s := by omega
                obtain ⟨u, hu1, hu2⟩ := HVN.out x hxs
                rw [hu2, Int.toNat_natCast] at HMT
                obtain ⟨iv, ov, hiv⟩ := HVT.out.ints.get
                obtain ⟨rfl, _, hvat⟩ := hiv (by rw [HVL.out]; omega)
                have y1 := hvat x (by rw [HVL.out]; exact hxs)
                rw [hu2] at y1
                have y2 := own_cellI HPT.out (k := u) (by rw [asg_len, HPL.out]; exact hu1)
                have y3 := World.ownsRow.frozenAt HPT.out u
                have HAE : Hid (asg P M nx B (t + 1) = (asg P M nx B t).set u (nx + t / B)) := by show _ = _; rw [← HMT.out]; rfl
                have hB0 : ¬ (B : Int) = 0 := by omega
                have hrem : (t : Int) % (B : Int) = ((t % B : Nat) : Int) := (Int.natCast_emod t B).symm
                have HPN : ∀ m : Nat, nx + t / B = m → Hid ((wr.setCell ⟨g, u, none⟩ (.int .i64 (m : Int))).ownsRow q 3 1 (.slice (some ⟨g, 0, none⟩) (asg P M nx B (t + 1)).length gc) (asg P M nx B (t + 1)).length (cellsI (ints (asg P M nx B (t + 1))))) := fun m hm => by
                  rw [HAE.out, hm]
                  exact own_setI HPT.out u m
                have HQN : ∀ m : Nat, Hid ((wr.setCell ⟨g, u, none⟩ (.int .i64 (m : Int))).ownsRow z3 3 1 (.slice (some ⟨gq, 0, none⟩) Q.length cq) Q.length (cellsI (ints Q))) := fun m => own_set HQT.out _ _ (by show g < z3; omega)
                have HVN2 : ∀ m : Nat, Hid (T3.OwnI (wr.setCell ⟨g, u, none⟩ (.int .i64 (m : Int))) z2 (some ⟨iv, ov, none⟩) cv vs) := fun m => own_set HVT.out _ _ (by show g < z2; omega)
                have HBN : ∀ m : Nat, Hid (Below q w1 (wr.setCell ⟨g, u, none⟩ (.int .i64 (m : Int)))) := fun m => HBT.out.setCell hgq.1 _
                clear hvat hiv hu2
                have HPN := Lib.hid HPN
                have HQN := Lib.hid HQN
                have HVN2 := Lib.hid HVN2
                have HBN := Lib.hid HBN
                by_cases h0 : 0 < t ∧ t % B = 0
                · have HDE := Lib.hid (div_hit h0.1 hB1 h0.2)
                  rw [h0.2] at hrem
                  have h0' : (0 : Int) < t := by omega
                  obtain ⟨m, Hm⟩ := named (nx + (t - 1) / B)
                  have HM2 : Hid (nx + t / B = m + 1) := by show _ = _; rw [← Hm.out, ← HDE.out]; omega
                  have hm : m ≤ 3000000 := by rw [← Hm.out]; omega
                  rw [Hm.out]
                  clear h0 hdl2
                  go_wp2_with fail
                  have e : (m : Int) + 1 = ((m + 1 : Nat) : Int) := by omega
                  rw [e]
                  have HMA : Hid (nx + (t + 1 - 1) / B = m + 1) := by show _ = _; rw [Nat.add_sub_cancel]; exact HM2.out
                  exact ⟨⟨t + 1, by omega, by simp, by rw [HMA.out], HPN.out _ HM2.out, HQN.out _, HVN2.out _, HBN.out _⟩, by simp [intOf]; omega⟩
                · have HDE : Hid ((t - 1) / B = t / B) := div_miss hB1 (by
                    rcases Nat.eq_zero_or_pos t with h | h
                    · exact .inl h
                    · exact .inr (fun h2 => h0 ⟨h, h2⟩))
                  obtain ⟨m, Hm⟩ := named (nx + (t - 1) / B)
                  have HM2 : Hid (nx + t / B = m) := by show _ = _; rw [← Hm.out, ← HDE.out]
                  have hm : m ≤ 3000000 := by rw [← Hm.out]; omega
                  have HMA : Hid (nx + (t + 1 - 1) / B = m) := by show _ = _; rw [Nat.add_sub_cancel]; exact HM2.out
                  rw [Hm.out]
                  clear hdl2
                  by_cases h1 : 0 < t
                  · have h1' : (0 : Int) < t := by omega
                    have h2 : ¬ t % B = 0 := fun h => h0 ⟨h1, h⟩
                    obtain ⟨r, Hr⟩ := named (t % B)
                    rw [Hr.out] at hrem h2
                    have h2' : ((r : Int) == 0) = false := by simp; omega
                    clear h0 h2
                    go_wp2_with fail
                    exact ⟨⟨t + 1, by omega, by simp, by rw [HMA.out], HPN.out _ HM2.out, HQN.out _, HVN2.out _, HBN.out _⟩, by simp [intOf]; omega⟩
                  · have h1' : ¬ (0 : Int) < t := by omega
                    clear h0 hrem
                    go_wp2_with fail
                    exact ⟨⟨t + 1, by omega, by simp, by rw [HMA.out], HPN.out _ HM2.out, HQN.out _, HVN2.out _, HBN.out _⟩, by simp [intOf]; omega⟩
              · obtain rfl : t = s := by omega
                have hlt' : ¬ (t : Int) < t := by omega
                obtain ⟨m, Hm⟩ := named (nx + (t - 1) / B)
                have hm : m ≤ 3000000 := by rw [← Hm.out]; omega
                rw [Hm.out] at HCG
                rw [Hm.out]
                clear hdl2
                go_wp2_with fail
                refine ⟨⟨k + 1, by omega, by simp, by rw [HCG.out]; simp, ?_, HBT⟩, by simp [intOf]; omega⟩
                rw [HCG.out]
                exact HPT
    · obtain rfl : k = S.length := by omega
      have hlk' : ¬ (S.length : Int) < S.length := by omega
      have HPL : Hid ((cuS l L S B S.length).1.length = L.length) := cuS_len l L S B S.length
      obtain ⟨P, HP⟩ := named (cuS l L S B S.length).1
      rw [HP.out] at HPL HCU HOR
      have HTD := Lib.hid (T3.rtidyI_any (some ⟨g, 0, none⟩) L.length gc (ints P) (ldI (ints P)) wr hn' (ldI_RT _) (by rw [ints_len, HPL.out]) (fun u v _ _ => ldI_iff) (own_ints HOR.out rfl))
      have HRL : Hid (R.length = L.length) := by show _ = _; rw [HCU.out, tdL_len, HPL.out]
      have HRE : Hid (R = T3.labs (ldI (ints P)) L.length) := by show _ = _; rw [HCU.out]; unfold tdL; rw [HPL.out]
      clear hgr
      go_wp2_with fail
      refine HTD.out.mono ?_
      rintro e w3 ⟨rfl, hown3, hb3⟩
      have HB3 : Hid (Below p w w3) := HB1.out.trans ((HBR.out.mono (by omega)).trans (hb3.mono (by omega)))
      have HO3 := Lib.hid hown3
      clear hown3 hb3 HTD
      go_wp2_with fail
      go_ret
      refine ⟨some ⟨wr.heap.size, 0, none⟩, L.length, by rw [HRL.out]; rfl, ?_, HB3.out⟩
      rw [HRL.out, HRE.out]
      exact own_base HO3.out (by omega)
end Go.Proofs.Ytchfccbneedejaa
namespace Go.Proofs.Ytchfccbneedejaa
open Go.RowKit
set_option maxRecDepth 100000 in
set_option maxHeartbeats 1600000 in
theorem rcutUp_any (N : Int) (a : Option Addr) (l : List A) (cap : Nat) (b : Option Addr) (xs : List Int) (bc : Nat) (bd : Int) (w : World) (hl : l.length ≤ 9223372036854775807) (hx : xs.length ≤ 9223372036854775807) (hr : Arcs w a l) (hi : Ints w b xs) :
    Calls Try.prog 13 #[.agg #[.int .i64 N, .slice a l.length cap], .slice b xs.length bc, .int .i64 bd] w fun e w' => ∃ v c P, e = .returned (.tuple #[.slice v P.length c, .int .i64 (ckE N l xs bd)]) ∧ w'.ownsRow w.heap.size 3 1 (.slice v P.length c) P.length (cellsI (ints P)) ∧ P = (if ckE N l xs bd = 0 then cuL l (xs.map Int.toNat) bd.toNat else []) ∧ Below w.heap.size w w' := by
  have hb0 : Below w.heap.size w (w.alloc (.cells #[.int .i64 N, .slice a l.length cap] 24)) := (Below.refl _ _).alloc (Nat.le_refl _) _
  have hg := heap_top w (.cells #[.int .i64 N, .slice a l.length cap] 24)
  have HR := Lib.hid (hr.on hb0)
  have HI := Lib.hid (hi.on hb0)
  have HB0 := Lib.hid hb0
  have hwz : w.heap.size ≤ (w.alloc (.cells #[.int .i64 N, .slice a l.length cap] 24)).heap.size := hb0.size
  have HLK := Lib.hid (looked_any N a l cap b xs bc bd (w.alloc (.cells #[.int .i64 N, .slice a l.length cap] 24)) hl hx HR.out HI.out)
  have HUP : Hid (ckE N l xs bd = 0 → ∀ w1 : World, Arcs w1 a l → Ints w1 b xs → Calls Try.prog 32 #[.agg #[.int .i64 N, .slice a l.length cap], .slice b xs.length bc, .int .i64 bd] w1 fun e w' => ∃ v c, e = .returned (.slice v (cuL l (xs.map Int.toNat) bd.toNat).length c) ∧ w'.ownsRow w1.heap.size 3 1 (.slice v (cuL l (xs.map Int.toNat) bd.toNat).length c) (cuL l (xs.map Int.toNat) bd.toNat).length (cellsI (ints (cuL l (xs.map Int.toNat) bd.toNat))) ∧ Below w1.heap.size w1 w') := fun h0 w1 hr1 hi1 => by
    obtain ⟨h1, h2, h3, h4, h5⟩ := ckE_zero h0
    obtain ⟨L, HL⟩ := named (xs.map Int.toNat)
    have e1 : xs = ints L := by rw [← HL.out]; exact right_ints h3
    have e2 : L.length = xs.length := by rw [← HL.out, List.length_map]
    obtain ⟨B, rfl⟩ : ∃ B : Nat, bd = (B : Int) := ⟨bd.toNat, by omega⟩
    rw [HL.out, Int.toNat_natCast]
    obtain rfl : N = ((xs.length : Nat) : Int) := h2.symm
    have h6 := (chk_zero h1).1
    obtain ⟨ad, rfl⟩ : ∃ ad, b = some ad := by
      rcases hi1 with rfl | ⟨g, o, hab, _⟩
      · simp at h6
      · exact ⟨_, hab⟩
    rw [e1] at hi1 h3
    exact (e2 ▸ up_ok L.length a l cap ad L bc B w1 (e2 ▸ h1) rfl h3 (by omega) (by omega) hr1 hi1 :)
  obtain ⟨C, HC⟩ := named (cuL l (xs.map Int.toNat) bd.toNat)
  rw [HC.out] at HUP ⊢
  obtain ⟨E, HE⟩ := named (ckE N l xs bd)
  rw [HE.out] at HLK HUP ⊢
  obtain ⟨R, HRR⟩ := named (if E = 0 then C else [])
  rw [HRR.out]
  obtain ⟨⟨c0, c1⟩, _⟩ := two_cells hg
  clear hb0 hr hi
  generalize hp : w.heap.size = p at *
  go_enter Try.func13, Try.ntmps13
  go_wp2_with fail
  generalize hW : w.alloc (.cells #[.int .i64 N, .slice a l.length cap] 24) = W at *
  clear hW
  refine HLK.out.mono ?_
  rintro e w1 ⟨rfl, hb1⟩
  have HB1 : Hid (Below p w w1) := HB0.out.trans (hb1.mono hwz)
  have HI1 := Lib.hid (HI.out.on hb1)
  have HR1 := Lib.hid (HR.out.on hb1)
  have hwz1 : p ≤ w1.heap.size := Nat.le_trans hwz hb1.size
  have hg1 := (hb1.block p (lt_of_block hg)).trans hg
  clear hb1 HLK c0 c1 hg
  by_cases hE : E ≠ 0
  · have e1 : (E != 0) = true := by simpa using hE
    obtain rfl : R = [] := by rw [← HRR.out, if_neg hE]
    go_wp2_with fail
    go_ret2
    exact ⟨none, 0, [], rfl, World.ownsRow_nil _ _ _ _, rfl, HB1.out⟩
  obtain rfl : E = 0 := by omega
  clear hE
  obtain rfl : R = C := by rw [← HRR.out, if_pos rfl]
  have HU := Lib.hid (HUP.out rfl w1 HR1.out HI1.out)
  obtain ⟨⟨c0, c1⟩, _⟩ := two_cells hg1
  go_wp2_with fail
  refine HU.out.mono ?_
  rintro e w2 ⟨v2, c2, rfl, hown2, hb2⟩
  have HO2 := Lib.hid (own_base hown2 hwz1)
  have HB2 : Hid (Below p w w2) := HB1.out.trans (hb2.mono hwz1)
  clear hown2 hb2 HU
  go_wp2_with fail
  go_ret2
  exact ⟨v2, c2, R, rfl, HO2.out, rfl, HB2.out⟩
end Go.Proofs.Ytchfccbneedejaa
namespace Go.Proofs.Ytchfccbneedejaa
open Go.RowKit
/-- The mark behind. -/
def A.mark : A := ⟨-77, 0, 0⟩
/-- A graph that is lent. -/
def Lent (w w' : World) (e : Ending) (N : Int) (l : List A) : Prop :=
  ∃ g c, e = .returned (.agg #[.int .i64 N, .slice (some ⟨g, 0, none⟩) l.length c]) ∧ l.length < c ∧ c ≤ 9223372036854775807 ∧ w'.ownsRow w.heap.size 49 3 (.slice (some ⟨g, 0, none⟩) (l.length + 1) c) (l.length + 1) (cellsA (l ++ [A.mark])) ∧ Below w.heap.size w w'
theorem mark_news (w : World) : ∀ j u, (cellsA [A.mark])[j]? = some u → (w.alloc (.cells #[.int .i64 (-77), .int .i64 0, .int .u32 0] 49)).cell? ((⟨w.heap.size, 0, none⟩ : Addr).add j) = some u := by
  intro j u hu
  obtain ⟨h0, h1, h2⟩ := three_cells (heap_top w (.cells #[.int .i64 (-77), .int .i64 0, .int .u32 0] 49))
  rw [Go.WideShapes.add_plain, Nat.zero_add]
  match j, hu with
  | 0, hu => simp [cellsA, A.mark] at hu; subst hu; exact h0
  | 1, hu => simp [cellsA, A.mark] at hu; subst hu; exact h1
  | 2, hu => simp [cellsA, A.mark] at hu; subst hu; exact h2
  | j + 3, hu => simp [cellsA] at hu
set_option maxHeartbeats 1600000 in
theorem lend_some (N : Int) (ad : Addr) (l : List A) (cap : Nat) (w : World) (hlen : l.length * 24 ≤ 140737488351232) (hr : Arcs w (some ad) l) :
    Calls Try.prog 10 #[.agg #[.int .i64 N, .slice (some ad) l.length cap]] w fun e w' => Lent w w' e N l := by
  obtain ⟨i0, hi, hz0, hz1, hz2⟩ := info_parts info53
  have hb0 : Below w.heap.size w ((w.alloc (.cells #[.int .i64 N, .slice (some ad) l.length cap] 24)).alloc (.cells #[.int .i64 0, .slice none 0 0] 24)) := ((Below.refl _ _).alloc (Nat.le_refl _) _).alloc (by simp) _
  have hg : ((w.alloc (.cells #[.int .i64 N, .slice (some ad) l.length cap] 24)).alloc (.cells #[.int .i64 0, .slice none 0 0] 24)).heap[w.heap.size]? = some (.cells #[.int .i64 N, .slice (some ad) l.length cap] 24) := (Below.heap_alloc _ _ _ (by simp)).trans (heap_top w _)
  have h1 := heap_top (w.alloc (.cells #[.int .i64 N, .slice (some ad) l.length cap] 24)) (.cells #[.int .i64 0, .slice none 0 0] 24)
  rw [show (w.alloc (.cells #[.int .i64 N, .slice (some ad) l.length cap] 24)).heap.size = w.heap.size + 1 by simp] at h1
  generalize hW : (w.alloc (.cells #[.int .i64 N, .slice (some ad) l.length cap] 24)).alloc (.cells #[.int .i64 0, .slice none 0 0] 24) = W at *
  obtain ⟨⟨g0, g1⟩, gf0, gf1⟩ := two_cells hg
  have HN := Lib.hid (clone_news (hr.on hb0) (.cells #[] 49))
  have HL := Lib.hid (cellsA_len l)
  have HA : Hid (cellsA l ++ cellsA [A.mark] = cellsA (l ++ [A.mark])) := (cellsA_append l [A.mark]).symm
  have hown0 := World.ownsRow_lit (base := W.heap.size) (e := 49) (size := 3) W #[] 0 (Nat.le_refl _) (by decide) rfl
  have s0 := lt_of_block hg
  have s1 := lt_of_block h1
  go_enter Try.func10, Try.ntmps10
  go_wp2_with (first
    | (at_builtin; refine wpList_append_own _ rfl (.tmp 4) (.tmp 6) 22 rfl W.heap.size 49 i0 _ 3 24 Try.underlying22 hi hz0 hz1 hz2 rfl (by decide) (.slice (some ⟨W.heap.size, 0, none⟩) 0 0) 0 [] rfl hown0 ad l.length cap (cellsA l) rfl HL.out HN.out (cellsA_one l) (by unfold maxLen; omega) (by omega) (by simp) ?_; intro v1 w1 hown1 hgrow1 hnil1; obtain ⟨g1', c1, hv1, hg1, hc1, hs1, hm1⟩ := own_shape hown1 (fun e => by have := hnil1.1 e; simp at this); rw [hv1] at hown1 ⊢; clear hnil1 hv1; simp only [Nat.zero_add, List.nil_append] at hown1 hc1 ⊢)
    | (at_builtin; refine wpList_append_own _ rfl (.tmp 8) (.tmp 10) 22 rfl W.heap.size 49 i0 _ 3 24 Try.underlying22 hi hz0 hz1 hz2 rfl (by decide) (.slice (some ⟨g1', 0, none⟩) l.length c1) l.length (cellsA l) rfl (hown1.alloc _) ⟨w1.heap.size, 0, none⟩ 1 1 (cellsA [A.mark]) rfl rfl (mark_news w1) (cellsA_one _) (by unfold maxLen; omega) (by omega) (by simp; omega) ?_; intro v2 w2 hown2 hgrow2 hnil2; obtain ⟨g2, c2, hv2, hg2, hc2, hs2, hm2⟩ := own_shape hown2 (fun e => by have := hnil2.1 e; simp at this); rw [hv2] at hown2 ⊢; clear hnil2 hv2))
  have b1 : Below W.heap.size W w1 := ((Below.refl W.heap.size W).alloc (Nat.le_refl _) _).grown hgrow1 (by simp) (by intro k hk; cases hk; exact Nat.le_refl _)
  have b2 : Below W.heap.size W w2 := (b1.alloc b1.size _).grown hgrow2 (by have := b1.size; simp; omega) (by intro k hk; cases hk; exact hg1)
  have hg2' := (b2.block _ s0).trans hg
  have hh2' := (b2.block _ s1).trans h1
  have bw := bthen hb0 b2 hb0.size
  rw [HA.out] at hown2
  clear hown1 hgrow1 hgrow2 g0 g1 gf0 gf1 hown0 HN hW b1 b2
  obtain ⟨⟨g0, g1⟩, gf0, gf1⟩ := two_cells hg2'
  obtain ⟨⟨r0, r1⟩, rf0, rf1⟩ := two_cells hh2'
  have k1 : (l.length : Int) ≤ (c2 : Int) := by omega
  have k2 : (0 : Int) ≤ (l.length : Int) := by omega
  have HO := Lib.hid hown2
  clear hown2
  go_region
  go_wp2_with fail
  refine bodyPost_ret (v := .agg #[.int .i64 N, .slice (some ⟨g2, 0, none⟩) l.length c2]) (by simp [results, Try.results10, go_sem, r0, r1]) rfl ⟨g2, c2, rfl, by omega, hm2, ?_, ((bw.setCell (by show _ ≤ w.heap.size + 1; omega) _).setCell (by show _ ≤ w.heap.size + 1; omega) _).drew⟩
  exact own_base (ownsRow_setCell_below (ownsRow_setCell_below HO.out (show w.heap.size + 1 < W.heap.size by omega) _) (show w.heap.size + 1 < W.heap.size by omega) _) (by omega)
set_option maxHeartbeats 1600000 in
theorem lend_none (N : Int) (w : World) :
    Calls Try.prog 10 #[.agg #[.int .i64 N, .slice none 0 0]] w fun e w' => Lent w w' e N [] := by
  obtain ⟨i0, hi, hz0, hz1, hz2⟩ := info_parts info53
  have hb0 : Below w.heap.size w ((w.alloc (.cells #[.int .i64 N, .slice none 0 0] 24)).alloc (.cells #[.int .i64 0, .slice none 0 0] 24)) := ((Below.refl _ _).alloc (Nat.le_refl _) _).alloc (by simp) _
  have hg : ((w.alloc (.cells #[.int .i64 N, .slice none 0 0] 24)).alloc (.cells #[.int .i64 0, .slice none 0 0] 24)).heap[w.heap.size]? = some (.cells #[.int .i64 N, .slice none 0 0] 24) := (Below.heap_alloc _ _ _ (by simp)).trans (heap_top w _)
  have h1 := heap_top (w.alloc (.cells #[.int .i64 N, .slice none 0 0] 24)) (.cells #[.int .i64 0, .slice none 0 0] 24)
  rw [show (w.alloc (.cells #[.int .i64 N, .slice none 0 0] 24)).heap.size = w.heap.size + 1 by simp] at h1
  generalize hW : (w.alloc (.cells #[.int .i64 N, .slice none 0 0] 24)).alloc (.cells #[.int .i64 0, .slice none 0 0] 24) = W at *
  obtain ⟨⟨g0, g1⟩, gf0, gf1⟩ := two_cells hg
  have hown0 := World.ownsRow_lit (base := W.heap.size) (e := 49) (size := 3) W #[] 0 (Nat.le_refl _) (by decide) rfl
  have s0 := lt_of_block hg
  have s1 := lt_of_block h1
  have HM : Hid ([] ++ cellsA [A.mark] = cellsA ([] ++ [A.mark])) := rfl
  have hmk := mark_news (W.alloc (.cells #[] 49))
  rw [show (W.alloc (.cells #[] 49)).heap.size = W.heap.size + 1 by simp] at hmk
  have HMK := Lib.hid hmk
  clear hmk
  go_enter Try.func10, Try.ntmps10
  go_wp2_with (first
    | (at_builtin; refine wpList_append_own_none rfl (.tmp 4) (.tmp 6) 22 rfl W.heap.size 49 i0 3 Try.underlying22 hi (.slice (some ⟨W.heap.size, 0, none⟩) 0 0) 0 [] rfl hown0 rfl ?_)
    | (at_builtin; refine wpList_append_own _ rfl (.tmp 8) (.tmp 10) 22 rfl W.heap.size 49 i0 _ 3 24 Try.underlying22 hi hz0 hz1 hz2 rfl (by decide) (.slice (some ⟨W.heap.size, 0, none⟩) 0 0) 0 [] rfl (hown0.alloc _) ⟨W.heap.size + 1, 0, none⟩ 1 1 (cellsA [A.mark]) rfl rfl HMK.out (cellsA_one _) (by decide) (by decide) (by simp; omega) ?_; intro v2 w2 hown2 hgrow2 hnil2; obtain ⟨g2, c2, hv2, hg2, hc2, hs2, hm2⟩ := own_shape hown2 (fun e => by have := hnil2.1 e; simp at this); rw [hv2] at hown2 ⊢; clear hnil2 hv2; simp only [Nat.zero_add] at hown2 hc2 ⊢))
  have b2 : Below W.heap.size W w2 := (((Below.refl W.heap.size W).alloc (Nat.le_refl _) _).alloc (by simp) _).grown hgrow2 (by simp; omega) (by intro k hk; cases hk; exact Nat.le_refl _)
  have hg2' := (b2.block _ s0).trans hg
  have hh2' := (b2.block _ s1).trans h1
  have bw := bthen hb0 b2 hb0.size
  clear hgrow2 g0 g1 gf0 gf1 hown0 hW b2 HMK
  obtain ⟨⟨g0, g1⟩, gf0, gf1⟩ := two_cells hg2'
  obtain ⟨⟨r0, r1⟩, rf0, rf1⟩ := two_cells hh2'
  have k1 : (0 : Int) ≤ (c2 : Int) := by omega
  have HO := Lib.hid hown2
  clear hown2
  go_region
  go_wp2_with fail
  refine bodyPost_ret (v := .agg #[.int .i64 N, .slice (some ⟨g2, 0, none⟩) 0 c2]) (by simp [results, Try.results10, go_sem, r0, r1]) rfl ⟨g2, c2, rfl, by show 0 < c2; omega, hm2, ?_, ((bw.setCell (by show _ ≤ w.heap.size + 1; omega) _).setCell (by show _ ≤ w.heap.size + 1; omega) _).drew⟩
  exact own_base (ownsRow_setCell_below (ownsRow_setCell_below HO.out (show w.heap.size + 1 < W.heap.size by omega) _) (show w.heap.size + 1 < W.heap.size by omega) _) (by omega)
theorem lend_any (N : Int) (a : Option Addr) (l : List A) (cap : Nat) (w : World) (hlen : l.length * 24 ≤ 140737488351232) (hn : a = none → l = [] ∧ cap = 0) (hr : Arcs w a l) :
    Calls Try.prog 10 #[.agg #[.int .i64 N, .slice a l.length cap]] w fun e w' => Lent w w' e N l := by
  match a, hn, hr with
  | none, hn, _ =>
    obtain ⟨e1, e2⟩ := hn rfl
    subst e1 e2
    exact lend_none N w
  | some ad, _, hr => exact lend_some N ad l cap w hlen hr
end Go.Proofs.Ytchfccbneedejaa
namespace Go.Proofs.Ytchfccbneedejaa
open Go.RowKit
theorem getD_append_mark (l : List A) : (l ++ [A.mark]).getD l.length A.zero = A.mark := by simp [List.getD]
theorem getD_append_lt (l : List A) (j : Nat) (h : j < l.length) : (l ++ [A.mark]).getD j A.zero = l.getD j A.zero := by simp [List.getD, List.getElem?_append_left h]
/-- A graph that is lent still lies as it was, with its mark. -/
def Still (w : World) (g : Nat) (l : List A) : Prop := ∀ j, j < l.length + 1 → ((l ++ [A.mark]).getD j A.zero).at w g (j * 3)
theorem still_own {w : World} {B g c : Nat} {l : List A} (h : w.ownsRow B 49 3 (.slice (some ⟨g, 0, none⟩) (l.length + 1) c) (l.length + 1) (cellsA (l ++ [A.mark]))) : Still w g l := by
  intro j hj
  obtain ⟨h1, h2, h3⟩ := cellsA_at (l ++ [A.mark]) j (by simpa using hj)
  exact ⟨(World.ownsRow.cellAt h (j * 3) (by omega)).trans h1, (World.ownsRow.cellAt h (j * 3 + 1) (by omega)).trans h2, (World.ownsRow.cellAt h (j * 3 + 2) (by omega)).trans h3⟩
theorem Still.lt {w : World} {g : Nat} {l : List A} (h : Still w g l) : g < w.heap.size := World.block_lt_of_cell? w _ (h 0 (by omega)).1
theorem Still.on {w w' : World} {g : Nat} {l : List A} (h : Still w g l) (hb : Below w.heap.size w w') : Still w' g l := fun j hj => (h j hj).on hb
theorem Still.arcs {w : World} {g : Nat} {l : List A} (h : Still w g l) : Arcs w (some ⟨g, 0, none⟩) l :=
  Or.inr ⟨g, 0, rfl, h.lt, fun j hj => by rw [Nat.zero_add, ← getD_append_lt l j hj]; exact h j (by omega)⟩
set_option maxHeartbeats 1600000 in
theorem kept_any (N : Int) (g c : Nat) (a : Option Addr) (l : List A) (cap : Nat) (w : World) (hlen : l.length * 24 ≤ 140737488351232) (hc : l.length < c) (hcm : c ≤ 9223372036854775807) (hs : Still w g l) (hr : Arcs w a l) :
    Calls Try.prog 18 #[.agg #[.int .i64 N, .slice (some ⟨g, 0, none⟩) l.length c], .agg #[.int .i64 N, .slice a l.length cap]] w fun e w' => e = .returned (.bool true) ∧ Below w.heap.size w w' := by
  have hl : l.length ≤ 9223372036854775807 := by omega
  have hb0 : Below w.heap.size w ((w.alloc (.cells #[.int .i64 N, .slice (some ⟨g, 0, none⟩) l.length c] 24)).alloc (.cells #[.int .i64 N, .slice a l.length cap] 24)) := ((Below.refl _ _).alloc (Nat.le_refl _) _).alloc (by simp) _
  have hg : ((w.alloc (.cells #[.int .i64 N, .slice (some ⟨g, 0, none⟩) l.length c] 24)).alloc (.cells #[.int .i64 N, .slice a l.length cap] 24)).heap[w.heap.size]? = some (.cells #[.int .i64 N, .slice (some ⟨g, 0, none⟩) l.length c] 24) := (Below.heap_alloc _ _ _ (by simp)).trans (heap_top w _)
  have h1 := heap_top (w.alloc (.cells #[.int .i64 N, .slice (some ⟨g, 0, none⟩) l.length c] 24)) (.cells #[.int .i64 N, .slice a l.length cap] 24)
  rw [show (w.alloc (.cells #[.int .i64 N, .slice (some ⟨g, 0, none⟩) l.length c] 24)).heap.size = w.heap.size + 1 by simp] at h1
  generalize hW : (w.alloc (.cells #[.int .i64 N, .slice (some ⟨g, 0, none⟩) l.length c] 24)).alloc (.cells #[.int .i64 N, .slice a l.length cap] 24) = W at *
  have hsW := hs.on hb0
  have hrW := hr.on hb0
  obtain ⟨⟨g0, g1⟩, _, _⟩ := two_cells hg
  obtain ⟨⟨k0, k1⟩, _, _⟩ := two_cells h1
  have m0 := (hsW l.length (by omega)).1
  rw [getD_append_mark] at m0
  have m0' : W.cell? ⟨g, l.length * 3, none⟩ = some (.int .i64 (-77)) := m0
  have hgl := hsW.lt
  have i1 : (l.length : Int) + 1 ≤ (c : Int) := by omega
  have i2 : l.length + 1 ≤ c := by omega
  have i3 : (0 : Int) ≤ (l.length : Int) + 1 := by omega
  have i4 : IntKind.i64.wrap ((l.length : Int) + 1) = (l.length : Int) + 1 := by rw [IntKind.wrap_i64]; omega
  have i5 : (l.length : Int) < (l.length : Int) + 1 := by omega
  have i6 : ((l.length : Int) + 1).toNat = l.length + 1 := by omega
  have HS := Lib.hid (sameGraph_any N (some ⟨g, 0, none⟩) a c cap l W.drew hl (show Arcs W.drew _ l from hsW.arcs.on (below_drewN _ W 1)) (show Arcs W.drew a l from hrW.on (below_drewN _ W 1)))
  have HG := Lib.hid hg
  have HH := Lib.hid h1
  have HM := Lib.hid m0'
  clear hg h1 hs hr hsW hrW m0
  go_enter Try.func18, Try.ntmps18
  go_wp2_with fail
  go_region_held3 (fun w' => w'.cell? ⟨w.heap.size, 0, none⟩ = some (.int .i64 N) ∧ w'.cell? ⟨w.heap.size, 1, none⟩ = some (.slice (some ⟨g, 0, none⟩) l.length c) ∧ w'.cell? ⟨w.heap.size + 1, 0, none⟩ = some (.int .i64 N) ∧ w'.cell? ⟨w.heap.size + 1, 1, none⟩ = some (.slice a l.length cap) ∧ w'.cell? ⟨g, l.length * 3, none⟩ = some (.int .i64 (-77))) (go_keep) ((go_at_call 36; refine HS.out.mono ?_; rintro e w5 ⟨rfl, hb5⟩; obtain ⟨⟨p0, p1⟩, _, _⟩ := two_cells ((hb5.block _ (lt_of_block HG.out)).trans HG.out); obtain ⟨⟨q0, q1⟩, _, _⟩ := two_cells ((hb5.block _ (lt_of_block HH.out)).trans HH.out); have q2 := (hb5.cell (p := ⟨g, l.length * 3, none⟩) hgl).trans HM.out))
  go_wp2_with fail
  go_ret
  exact ⟨rfl, hb0.trans ((below_drewN _ W 1).trans (hb5.mono (by have := hb0.size; show w.heap.size ≤ W.heap.size; omega)))⟩
theorem own_wide {w : World} {B : Nat} {e : TypeId} {size g n c : Nat} {xs : List Value} (h : w.ownsRow B e size (.slice (some ⟨g, 0, none⟩) n c) n xs) : ∃ ys, w.ownsRow B e size (.slice (some ⟨g, 0, none⟩) c c) c ys := by
  rcases h.2 with ⟨h', _⟩ | ⟨g', c', cur, h', hb, hg, hnc, hm, hcs, _⟩
  · cases h'
  · injection h' with e1 e2 e3
    injection e1 with e1
    injection e1 with e1
    subst e1 e3
    refine ⟨cur.toList.take (c * size), ?_, Or.inr ⟨g, c, cur, rfl, hb, hg, Nat.le_refl _, hm, hcs, rfl⟩⟩
    rw [List.length_take, Array.length_toList, hcs]; omega
set_option maxHeartbeats 400000 in
theorem spoilInts_none (x : Int) (w : World) : Calls Try.prog 17 #[.slice none 0 0, .int .i64 x] w fun e w' => e = .returned (.tuple #[]) ∧ w' = w := by
  go_enter Try.func17, Try.ntmps17
  go_wp2_with fail
  refine wp_loop_rounds 1 ?_
  rw [rounds_succ]
  go_wp2_with fail
  go_end0
  exact ⟨rfl, rfl⟩
set_option maxHeartbeats 400000 in
theorem spoilInts_some (g n m B : Nat) (x : Int) (xs : List Value) (w : World) (hn : n ≤ 9223372036854775807) (hown : w.ownsRow B 3 1 (.slice (some ⟨g, 0, none⟩) n n) n xs) :
    Calls Try.prog 17 #[.slice (some ⟨g, 0, none⟩) m n, .int .i64 x] w fun e w' => e = .returned (.tuple #[]) ∧ Below B w w' := by
  have hgB : B ≤ g := (hown.lt g rfl).1
  go_enter Try.func17, Try.ntmps17
  go_wp2_with fail
  go_loopw [4] (fun i wr => ∃ (k : Nat) (xs : List Value), k ≤ n ∧ i = .int .i64 k ∧ wr.ownsRow B 3 1 (.slice (some ⟨g, 0, none⟩) n n) n xs ∧ Below B w wr) (fun i _ => n - (intOf i).toNat)
  case atStart => exact ⟨0, xs, Nat.zero_le _, rfl, hown, Below.refl _ _⟩
  case round =>
    obtain ⟨k, ys, hk, rfl, ho, hbel⟩ := hrel
    by_cases hlt : k < n
    · have hyl : k < ys.length := by have := ho.1; omega
      have c2 : wr.cell? ⟨g, k, none⟩ = some ys[k] := (ho.cellAt k (by omega)).trans (List.getElem?_eq_getElem hyl)
      have f2 : wr.frozen? ⟨g, k, none⟩ = false := ho.frozenAt k
      generalize ys[k] = y at c2
      have HS := Lib.hid (ho.stored k (.int .i64 x))
      go_wp2_with fail
      exact ⟨⟨k + 1, _, by omega, by go_num, HS.out.1, hbel.setCell hgB _⟩, by simp [intOf]; omega⟩
    · go_wp2_with fail
      go_end0
      exact ⟨rfl, hbel⟩
theorem spoilInts_any (a : Option Addr) (c B : Nat) (x : Int) (xs : List Int) (w : World) (hown : w.ownsRow B 3 1 (.slice a xs.length c) xs.length (cellsI xs)) :
    Calls Try.prog 17 #[.slice a xs.length c, .int .i64 x] w fun e w' => e = .returned (.tuple #[]) ∧ Below B w w' := by
  rcases hown.2 with ⟨h', h0⟩ | ⟨g, c', cur, h', hb, hg, hnc, hm, _⟩
  · injection h' with e1 e2 e3
    subst e1 e3
    rw [h0]
    refine (spoilInts_none x w).mono ?_
    rintro e w' ⟨rfl, rfl⟩
    exact ⟨rfl, Below.refl _ _⟩
  · injection h' with e1 e2 e3
    subst e1 e3
    obtain ⟨ys, hy⟩ := own_wide hown
    exact spoilInts_some g c xs.length B x ys w (by unfold maxLen at hm; omega) hy
end Go.Proofs.Ytchfccbneedejaa
namespace Go.Proofs.Ytchfccbneedejaa
open Go.RowKit
/-- Numbers that are lent. -/
def LentI (w w' : World) (e : Ending) (xs : List Int) : Prop :=
  ∃ g c, e = .returned (.slice (some ⟨g, 0, none⟩) xs.length c) ∧ xs.length < c ∧ c ≤ 9223372036854775807 ∧ w'.ownsRow w.heap.size 3 1 (.slice (some ⟨g, 0, none⟩) (xs.length + 1) c) (xs.length + 1) (cellsI (xs ++ [-77])) ∧ Below w.heap.size w w'
theorem one_i (xs : List Int) : ∀ u ∈ cellsI xs, u.oneCell' = true := by
  intro u hu
  unfold cellsI at hu
  obtain ⟨x, _, rfl⟩ := List.mem_map.1 hu
  rfl
theorem ints_news {w : World} {ad : Addr} {xs : List Int} (h : Ints w (some ad) xs) (o : Obj) : ∀ j u, (cellsI xs)[j]? = some u → (w.alloc o).cell? (ad.add j) = some u := by
  intro j u hu
  rcases h with rfl | ⟨b, o', hab, hl, hc⟩
  · simp [cellsI] at hu
  · cases hab
    have hj : j < xs.length := by
      rcases Nat.lt_or_ge j xs.length with h' | h'
      · exact h'
      · rw [List.getElem?_eq_none (by rw [cellsI_len]; exact h')] at hu; cases hu
    rw [cellsI_getD xs j hj] at hu
    rw [Go.WideShapes.add_plain]
    exact ((((Below.refl w.heap.size w).alloc (Nat.le_refl _) o).cell (p := ⟨b, o' + j, none⟩) hl).trans (hc j hj)).trans hu
theorem mark_i (w : World) : ∀ j u, (cellsI [-77])[j]? = some u → (w.alloc (.cells #[.int .i64 (-77)] 3)).cell? ((⟨w.heap.size, 0, none⟩ : Addr).add j) = some u := one_new w (-77)
theorem cellsI_append (a b : List Int) : cellsI (a ++ b) = cellsI a ++ cellsI b := by simp [cellsI]
set_option maxHeartbeats 1600000 in
theorem lendI_some (ad : Addr) (xs : List Int) (cap : Nat) (w : World) (hlen : xs.length * 8 ≤ 140737488351232) (hr : Ints w (some ad) xs) :
    Calls Try.prog 11 #[.slice (some ad) xs.length cap] w fun e w' => LentI w w' e xs := by
  obtain ⟨i0, hi, hz0, hz1, hz2⟩ := info_parts info3
  have HN := Lib.hid (ints_news hr (.cells #[] 3))
  have HL := Lib.hid (cellsI_len xs)
  have HA : Hid (cellsI xs ++ cellsI [-77] = cellsI (xs ++ [-77])) := (cellsI_append xs [-77]).symm
  have hown0 := World.ownsRow_lit (base := w.heap.size) (e := 3) (size := 1) w #[] 0 (Nat.le_refl _) (by decide) rfl
  go_enter Try.func11, Try.ntmps11
  go_wp2_with (first
    | (at_builtin; refine wpList_append_own _ rfl (.tmp 4) (.tmp 5) 25 rfl w.heap.size 3 i0 _ 1 8 Try.underlying25 hi hz0 hz1 hz2 rfl (by decide) (.slice (some ⟨w.heap.size, 0, none⟩) 0 0) 0 [] rfl hown0 ad xs.length cap (cellsI xs) rfl (by rw [HL.out]; omega) HN.out (one_i xs) (by unfold maxLen; omega) (by omega) (by simp) ?_; intro v1 w1 hown1 hgrow1 hnil1; obtain ⟨g1', c1, hv1, hg1, hc1, hs1, hm1⟩ := own_shape hown1 (fun e => by have := hnil1.1 e; simp at this); rw [hv1] at hown1 ⊢; clear hnil1 hv1; simp only [Nat.zero_add, List.nil_append] at hown1 hc1 ⊢)
    | (at_builtin; refine wpList_append_own _ rfl (.tmp 7) (.tmp 8) 25 rfl w.heap.size 3 i0 _ 1 8 Try.underlying25 hi hz0 hz1 hz2 rfl (by decide) (.slice (some ⟨g1', 0, none⟩) xs.length c1) xs.length (cellsI xs) rfl (hown1.alloc _) ⟨w1.heap.size, 0, none⟩ 1 1 (cellsI [-77]) rfl rfl (mark_i w1) (one_i _) (by unfold maxLen; omega) (by omega) (by simp; omega) ?_; intro v2 w2 hown2 hgrow2 hnil2; obtain ⟨g2, c2, hv2, hg2, hc2, hs2, hm2⟩ := own_shape hown2 (fun e => by have := hnil2.1 e; simp at this); rw [hv2] at hown2 ⊢; clear hnil2 hv2))
  have b1 : Below w.heap.size w w1 := ((Below.refl w.heap.size w).alloc (Nat.le_refl _) _).grown hgrow1 (by simp) (by intro k hk; cases hk; exact Nat.le_refl _)
  have b2 : Below w.heap.size w w2 := (b1.alloc b1.size _).grown hgrow2 (by have := b1.size; simp; omega) (by intro k hk; cases hk; exact hg1)
  rw [HA.out] at hown2
  have k1 : (xs.length : Int) ≤ (c2 : Int) := by omega
  have k2 : (0 : Int) ≤ (xs.length : Int) := by omega
  have HO := Lib.hid hown2
  clear hown1 hgrow1 hgrow2 hown0 HN hown2
  go_wp2_with fail
  go_ret
  exact ⟨g2, c2, rfl, by omega, hm2, HO.out, b2⟩
set_option maxHeartbeats 1600000 in
theorem lendI_none (w : World) :
    Calls Try.prog 11 #[.slice none 0 0] w fun e w' => LentI w w' e [] := by
  obtain ⟨i0, hi, hz0, hz1, hz2⟩ := info_parts info3
  have hown0 := World.ownsRow_lit (base := w.heap.size) (e := 3) (size := 1) w #[] 0 (Nat.le_refl _) (by decide) rfl
  have hmk := mark_i (w.alloc (.cells #[] 3))
  rw [show (w.alloc (.cells #[] 3)).heap.size = w.heap.size + 1 by simp] at hmk
  have HMK := Lib.hid hmk
  clear hmk
  go_enter Try.func11, Try.ntmps11
  go_wp2_with (first
    | (at_builtin; refine wpList_append_own_none rfl (.tmp 4) (.tmp 5) 25 rfl w.heap.size 3 i0 1 Try.underlying25 hi (.slice (some ⟨w.heap.size, 0, none⟩) 0 0) 0 [] rfl hown0 rfl ?_)
    | (at_builtin; refine wpList_append_own _ rfl (.tmp 7) (.tmp 8) 25 rfl w.heap.size 3 i0 _ 1 8 Try.underlying25 hi hz0 hz1 hz2 rfl (by decide) (.slice (some ⟨w.heap.size, 0, none⟩) 0 0) 0 [] rfl (hown0.alloc _) ⟨w.heap.size + 1, 0, none⟩ 1 1 (cellsI [-77]) rfl rfl HMK.out (one_i _) (by decide) (by decide) (by simp; omega) ?_; intro v2 w2 hown2 hgrow2 hnil2; obtain ⟨g2, c2, hv2, hg2, hc2, hs2, hm2⟩ := own_shape hown2 (fun e => by have := hnil2.1 e; simp at this); rw [hv2] at hown2 ⊢; clear hnil2 hv2; simp only [Nat.zero_add] at hown2 hc2 ⊢))
  have b2 : Below w.heap.size w w2 := (((Below.refl w.heap.size w).alloc (Nat.le_refl _) _).alloc (by simp) _).grown hgrow2 (by simp; omega) (by intro k hk; cases hk; exact Nat.le_refl _)
  have k1 : (0 : Int) ≤ (c2 : Int) := by omega
  have HO := Lib.hid hown2
  clear hgrow2 hown0 HMK hown2
  go_wp2_with fail
  go_ret
  exact ⟨g2, c2, rfl, by show 0 < c2; omega, hm2, HO.out, b2⟩
theorem lendI_any (a : Option Addr) (xs : List Int) (cap : Nat) (w : World) (hlen : xs.length * 8 ≤ 140737488351232) (hn : a = none → xs = [] ∧ cap = 0) (hr : Ints w a xs) :
    Calls Try.prog 11 #[.slice a xs.length cap] w fun e w' => LentI w w' e xs := by
  match a, hn, hr with
  | none, hn, _ =>
    obtain ⟨e1, e2⟩ := hn rfl
    subst e1 e2
    exact lendI_none w
  | some ad, _, hr => exact lendI_some ad xs cap w hlen hr
/-- They stand still. -/
def StillI (w : World) (g : Nat) (xs : List Int) : Prop := g < w.heap.size ∧ ∀ j, j < xs.length + 1 → w.cell? ⟨g, j, none⟩ = some (.int .i64 ((xs ++ [-77]).getD j 0))
theorem stillI_own {w : World} {B g c : Nat} {xs : List Int} (h : w.ownsRow B 3 1 (.slice (some ⟨g, 0, none⟩) (xs.length + 1) c) (xs.length + 1) (cellsI (xs ++ [-77]))) : StillI w g xs := by
  refine ⟨(h.lt g rfl).2, fun j hj => ?_⟩
  rw [World.ownsRow.cellAt h j (by omega), cellsI_getD _ j (by simp; omega)]
theorem StillI.on {w w' : World} {g : Nat} {xs : List Int} (h : StillI w g xs) (hb : Below w.heap.size w w') : StillI w' g xs := ⟨Nat.lt_of_lt_of_le h.1 hb.size, fun j hj => (hb.cell (p := ⟨g, j, none⟩) h.1).trans (h.2 j hj)⟩
theorem StillI.ints {w : World} {g : Nat} {xs : List Int} (h : StillI w g xs) : Ints w (some ⟨g, 0, none⟩) xs := by
  refine Or.inr ⟨g, 0, rfl, h.1, fun j hj => ?_⟩
  rw [Nat.zero_add, h.2 j (by omega)]
  simp [List.getD, List.getElem?_append_left hj]
theorem StillI.mark {w : World} {g : Nat} {xs : List Int} (h : StillI w g xs) : w.cell? ⟨g, xs.length, none⟩ = some (.int .i64 (-77)) := by
  rw [h.2 _ (by omega)]
  simp [List.getD]
set_option maxHeartbeats 800000 in
theorem keptI_any (g c : Nat) (a : Option Addr) (xs : List Int) (cap : Nat) (w : World) (hlen : xs.length * 8 ≤ 140737488351232) (hc : xs.length < c) (hs : StillI w g xs) (hr : Ints w a xs) :
    Calls Try.prog 19 #[.slice (some ⟨g, 0, none⟩) xs.length c, .slice a xs.length cap] w fun e w' => e = .returned (.bool true) ∧ Below w.heap.size w w' := by
  have HS := Lib.hid (sameInts_any (some ⟨g, 0, none⟩) a c cap xs w (by omega) hs.ints hr)
  have HST := Lib.hid hs
  have i1 : (xs.length : Int) + 1 ≤ (c : Int) := by omega
  have i2 : xs.length + 1 ≤ c := by omega
  have i3 : (0 : Int) ≤ (xs.length : Int) + 1 := by omega
  have i4 : IntKind.i64.wrap ((xs.length : Int) + 1) = (xs.length : Int) + 1 := by rw [IntKind.wrap_i64]; omega
  have i5 : (xs.length : Int) < (xs.length : Int) + 1 := by omega
  have i6 : ((xs.length : Int) + 1).toNat = xs.length + 1 := by omega
  clear hs hr
  go_enter Try.func19, Try.ntmps19
  go_wp2_with fail
  refine HS.out.mono ?_
  rintro e w1 ⟨rfl, hb1⟩
  have m0 := (HST.out.on hb1).mark
  go_wp2_with fail
  go_ret
  exact ⟨rfl, hb1⟩
end Go.Proofs.Ytchfccbneedejaa
