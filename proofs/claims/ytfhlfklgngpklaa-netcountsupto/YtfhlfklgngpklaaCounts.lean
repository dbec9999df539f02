/-
  NetCounts: there are as many letters as were sent and copied, but those that were taken and lost; the links that have letters are told.
-/
import Derived.Test.YtfhlfklgngpklaaTot
namespace Go.Proofs.Ytfhlfklgngpklaa
open Go.RowKit Go.Maps
set_option maxRecDepth 100000 in
set_option maxHeartbeats 12800000 in
theorem law_counts (nodes : Int) (a : Option Addr) (l : List Ac) (cap : Nat) (W : World) (hl : l.length ≤ 140737488351232) (hr : Acs W.heap.size W a l) :
    Calls Try.prog 5 #[.int .i64 nodes, .slice a l.length cap] W fun e w' => e = .returned (.bool true) ∧ Below W.heap.size W w' := by
  have HACS := Lib.hid hr
  obtain ⟨L, HL⟩ := named l.length
  rw [HL.out]
  have hL : L ≤ 140737488351232 := by rw [← HL.out]; exact hl
  clear hr hl
  have hu := amg_bd nodes 5 (by decide)
  have HA := Lib.hid (fun w : World => among_any nodes 5 (by decide) (by decide) w)
  generalize amg nodes 5 = u at *
  obtain ⟨K, rfl⟩ := Int.eq_ofNat_of_zero_le hu.1
  have hK : K < 5 := by have := hu.2; omega
  clear hu
  go_enter Try.func5, Try.ntmps5
  go_wp2_with fail
  refine (HA.out W).mono ?_
  rintro e w1 ⟨rfl, e1⟩
  obtain rfl : W = w1 := e1.symm
  have HN := Lib.hid (New_t (K + 2) W (by omega) (by omega))
  have hN : Hid (2 + (K : Int) = ((K + 2 : Nat) : Int)) := Lib.hid (by omega)
  clear HA
  go_wp2_with fail
  try rw [hN.out]
  refine HN.out.mono ?_
  rintro e w2 ⟨n, rfl, h1, hb1⟩
  have H1 := Lib.hid h1
  have HB1 := Lib.hid hb1
  clear h1 hb1 HN
  go_wp2_with fail
  refine (works_any w2).mono ?_
  rintro e w3 ⟨rfl, hb2⟩
  have H2 := Lib.hid (H1.out.on hb2)
  have HB2 := Lib.hid (bthen HB1.out hb2 HB1.out.size)
  clear hb2 H1 HB1
  generalize hNN : K + 2 = N at *
  have hN6 : N ≤ 6 := by omega
  have HKN : Hid ((K : Int) + 2 = N) := Lib.hid (by omega)
  have HKM : Hid (2 + (K : Int) = N) := Lib.hid (by omega)
  go_wp2_with fail
  go_loopw [8, 7] (fun i m wr => ∃ j q : Nat, j ≤ L ∧ j ≤ 300 ∧ q ≤ j ∧ i = .int .i64 j ∧ m = .int .i64 q ∧ Hid (TT W.heap.size wr n N q) ∧ Hid (Below W.heap.size W wr)) (fun i _ _ => L - (intOf i).toNat)
  case atStart => exact ⟨0, 0, by omega, by omega, by omega, rfl, rfl, H2, HB2⟩
  case round =>
    clear H2 HB2
    obtain ⟨j, q, hj, hj3, hq, rfl, rfl, H, HB⟩ := hrel
    by_cases hlt : j < L
    · by_cases hh : j < 300
      · have hjl : j < l.length := by rw [HL.out]; exact hlt
        obtain ⟨bb, o, rfl, hbb, hat⟩ := HACS.out (by omega)
        obtain ⟨p0, p1, p2, p3, p4, hok⟩ := hat j hjl
        clear hat hok
        generalize l[j] = x at *
        have q0 := (HB.out.cell (p := ⟨bb, o + j * 5, none⟩) hbb).trans p0
        have q1 := (HB.out.cell (p := ⟨bb, o + j * 5 + 1, none⟩) hbb).trans p1
        have q2 := (HB.out.cell (p := ⟨bb, o + j * 5 + 2, none⟩) hbb).trans p2
        have q3 := (HB.out.cell (p := ⟨bb, o + j * 5 + 3, none⟩) hbb).trans p3
        have q4 := (HB.out.cell (p := ⟨bb, o + j * 5 + 4, none⟩) hbb).trans p4
        clear p0 p1 p2 p3 p4
        obtain ⟨k, HK⟩ := named (amg x.kd 6)
        have hk0 : 0 ≤ k ∧ k < 6 := by rw [← HK.out]; unfold amg; omega
        have HAM := Lib.hid (fun W : World => among_any x.kd 6 (by omega) (by omega) W)
        rw [HK.out] at HAM
        go_wp2_with fail
        refine (HAM.out _).mono ?_
        rintro e w6 ⟨rfl, rfl⟩
        have hbA : Below wr.heap.size wr (wr.alloc (.cells #[.int .i64 x.kd, .int .i64 x.fr, .int .i64 x.to_, .int .i64 x.k, .string x.s] 33)) := (Below.refl _ _).alloc (Nat.le_refl _) _
        have H6 := Lib.hid (H.out.on hbA)
        have HB6 := Lib.hid (bthen HB.out hbA HB.out.size)
        clear H HB hbA HAM q0 q1 q2 q3 q4
        have hkk : k = 0 ∨ k = 1 ∨ k = 2 ∨ k = 3 ∨ k = 4 ∨ k = 5 := by omega
        clear hk0
        rcases hkk with rfl | rfl | rfl | rfl | rfl | rfl
        · have HC := Lib.hid (Send_t H6.out ⟨x.fr, x.to_⟩ x.s)
          clear H6
          go_wp2_with fail
          refine HC.out.mono ?_
          rintro e w7 ⟨E, q', rfl, hE, h7, hb7⟩
          have H7 := Lib.hid h7
          have HB7 := Lib.hid (HB6.out.trans hb7)
          clear hb7 h7 HC HB6
          rcases hE with ⟨rfl, rfl⟩ | ⟨hE, rfl⟩
          · go_wp2_with fail
            exact ⟨⟨j + 1, q + 1, by omega, by omega, by omega, by go_num, by go_num, H7, HB7⟩, by simp [intOf]; omega⟩
          · have hEb : (E == 0) = false := by simp [hE]
            go_wp2_with fail
            exact ⟨⟨j + 1, q', by omega, by omega, by omega, by go_num, by go_num, H7, HB7⟩, by simp [intOf]; omega⟩
        · have HC := Lib.hid (Take_t H6.out ⟨x.fr, x.to_⟩ x.k)
          clear H6
          go_wp2_with fail
          refine HC.out.mono ?_
          rintro e w7 ⟨t, E, q', rfl, hE, h7, hb7⟩
          have H7 := Lib.hid h7
          have HB7 := Lib.hid (HB6.out.trans hb7)
          clear hb7 h7 HC HB6
          rcases hE with ⟨rfl, rfl⟩ | ⟨hE, rfl⟩
          · have hm : Hid (((q' + 1 : Nat) : Int) - 1 = q') := Lib.hid (by omega)
            go_wp2_with fail
            exact ⟨⟨j + 1, q', by omega, by omega, by omega, by go_num, by go_num, H7, HB7⟩, by simp [intOf]; omega⟩
          · have hEb : (E == 0) = false := by simp [hE]
            go_wp2_with fail
            exact ⟨⟨j + 1, q', by omega, by omega, by omega, by go_num, by go_num, H7, HB7⟩, by simp [intOf]; omega⟩
        · have HC := Lib.hid (Copy_t H6.out ⟨x.fr, x.to_⟩ x.k)
          clear H6
          go_wp2_with fail
          refine HC.out.mono ?_
          rintro e w7 ⟨E, q', rfl, hE, h7, hb7⟩
          have H7 := Lib.hid h7
          have HB7 := Lib.hid (HB6.out.trans hb7)
          clear hb7 h7 HC HB6
          rcases hE with ⟨rfl, rfl⟩ | ⟨hE, rfl⟩
          · go_wp2_with fail
            exact ⟨⟨j + 1, q + 1, by omega, by omega, by omega, by go_num, by go_num, H7, HB7⟩, by simp [intOf]; omega⟩
          · have hEb : (E == 0) = false := by simp [hE]
            go_wp2_with fail
            exact ⟨⟨j + 1, q', by omega, by omega, by omega, by go_num, by go_num, H7, HB7⟩, by simp [intOf]; omega⟩
        · have HC := Lib.hid (Lose_t H6.out ⟨x.fr, x.to_⟩ x.k)
          clear H6
          go_wp2_with fail
          refine HC.out.mono ?_
          rintro e w7 ⟨E, q', rfl, hE, h7, hb7⟩
          have H7 := Lib.hid h7
          have HB7 := Lib.hid (HB6.out.trans hb7)
          clear hb7 h7 HC HB6
          rcases hE with ⟨rfl, rfl⟩ | ⟨hE, rfl⟩
          · have hm : Hid (((q' + 1 : Nat) : Int) - 1 = q') := Lib.hid (by omega)
            go_wp2_with fail
            exact ⟨⟨j + 1, q', by omega, by omega, by omega, by go_num, by go_num, H7, HB7⟩, by simp [intOf]; omega⟩
          · have hEb : (E == 0) = false := by simp [hE]
            go_wp2_with fail
            exact ⟨⟨j + 1, q', by omega, by omega, by omega, by go_num, by go_num, H7, HB7⟩, by simp [intOf]; omega⟩
        · have HC := Lib.hid (Down_t H6.out x.fr)
          clear H6
          go_wp2_with fail
          refine HC.out.mono ?_
          rintro e w7 ⟨E, rfl, h7, hb7⟩
          have H7 := Lib.hid h7
          have HB7 := Lib.hid (HB6.out.trans hb7)
          clear hb7 h7 HC HB6
          go_wp2_with fail
          exact ⟨⟨j + 1, q, by omega, by omega, by omega, by go_num, by go_num, H7, HB7⟩, by simp [intOf]; omega⟩
        · have HC := Lib.hid (Up_t H6.out x.fr)
          clear H6
          go_wp2_with fail
          refine HC.out.mono ?_
          rintro e w7 ⟨E, rfl, h7, hb7⟩
          have H7 := Lib.hid h7
          have HB7 := Lib.hid (HB6.out.trans hb7)
          clear hb7 h7 HC HB6
          go_wp2_with fail
          exact ⟨⟨j + 1, q, by omega, by omega, by omega, by go_num, by go_num, H7, HB7⟩, by simp [intOf]; omega⟩
      · obtain ⟨S, hS1, hS2, hS3⟩ := H
        have HS := Lib.hid hS3
        have HT := Lib.hid hS2
        have HM := Lib.hid hS1
        clear hS1 hS2 hS3 HACS
        go_wp2_with fail
        go_loopw [120, 12, 13] (fun i s m wr => ∃ r x y : Nat, r ≤ N ∧ x ≤ 300 ∧ y ≤ x ∧ i = .int .i64 r ∧ s = .int .i64 x ∧ m = .int .i64 y ∧ Hid (sumTo (rowL S) r = x ∧ sumTo (rowH S) r = y) ∧ Hid (NB W.heap.size wr n S) ∧ Hid (Below W.heap.size W wr)) (fun i _ _ _ => N - (intOf i).toNat)
        case atStart => exact ⟨0, 0, 0, by omega, by omega, by omega, rfl, rfl, rfl, ⟨rfl, rfl⟩, HS, HB⟩
        case round =>
          clear HS HB
          obtain ⟨r, x, y, hr, hx, hy, rfl, rfl, rfl, HV, HS, HB⟩ := hrel
          by_cases hrN : r < N
          · have hrK : (r : Int) < (K : Int) + 2 := by omega
            go_wp2_with fail
            go_loopw [124, 12, 13] (fun i s m wr => ∃ c x y : Nat, c ≤ N ∧ x ≤ 300 ∧ y ≤ x ∧ i = .int .i64 c ∧ s = .int .i64 x ∧ m = .int .i64 y ∧ Hid (sumTo (rowL S) r + sumTo (lenAt S r) c = x ∧ sumTo (rowH S) r + sumTo (hasAt S r) c = y) ∧ Hid (NB W.heap.size wr n S) ∧ Hid (Below W.heap.size W wr)) (fun i _ _ _ => N - (intOf i).toNat)
            case atStart => exact ⟨0, x, y, by omega, by omega, by omega, rfl, rfl, rfl, HV, HS, HB⟩
            case round =>
              clear HV HS HB hx hy
              obtain ⟨c, X, Y, hc, hx, hy, rfl, rfl, rfl, HV, HS, HB⟩ := hrel
              by_cases hcN : c < N
              · have hcK : (c : Int) < (K : Int) + 2 := by omega
                have hle : X + lenAt S r c ≤ 300 := by
                  have e1 := sumTo_mono (f := lenAt S r) (i := c + 1) (n := S.N) (by rw [HM.out]; omega)
                  have e2 := sumTo_mono (f := rowL S) (i := r + 1) (n := S.N) (by rw [HM.out]; omega)
                  have e3 : sumTo (rowL S) r + rowL S r ≤ tot S := e2
                  have e4 : sumTo (lenAt S r) c + lenAt S r c ≤ rowL S r := e1
                  have e5 := HT.out
                  have e6 := HV.out.1
                  omega
                have HBG := Lib.hid (Bag_t HS.out r c (by rw [HM.out]; exact hrN) (by rw [HM.out]; exact hcN))
                have HV1 : Hid (sumTo (rowL S) r + sumTo (lenAt S r) (c + 1) = X + lenAt S r c ∧ sumTo (rowH S) r + sumTo (hasAt S r) (c + 1) = Y + hasAt S r c) := by
                  obtain ⟨e1, e2⟩ := HV.out
                  exact Lib.hid ⟨by show _ + (sumTo _ c + _) = _; omega, by show _ + (sumTo _ c + _) = _; omega⟩
                have HH : Hid (hasAt S r c = if 0 < lenAt S r c then 1 else 0) := Lib.hid rfl
                have HZ : Hid (r = c → lenAt S r c = 0) := Lib.hid (fun e => by
                  unfold lenAt
                  rw [if_neg (fun h => h.2.2.2.2 (by show (r : Int) = c; omega))])
                generalize lenAt S r c = z at *
                generalize hasAt S r c = t at *
                clear HV HS
                by_cases hab : r = c
                · rw [if_pos hab] at HBG
                  have hz := HZ.out hab
                  subst hz
                  have ht := HH.out
                  rw [if_neg (by omega)] at ht
                  subst ht
                  subst hab
                  clear HZ HH
                  go_wp2_with fail
                  refine HBG.out.mono ?_
                  rintro e w8 ⟨v, vc, rfl, h8, hb8⟩
                  have H8 := Lib.hid h8
                  have HB8 := Lib.hid (HB.out.trans hb8)
                  clear h8 hb8 HBG HB
                  go_wp2_with fail
                  exact ⟨⟨r + 1, X, Y, by omega, by omega, by omega, by go_num, by go_num, rfl, HV1, H8, HB8⟩, by simp [intOf]; omega⟩
                · rw [if_neg hab] at HBG
                  have hab' : ¬ (r : Int) = c := by omega
                  have hne : ((r : Int) == (c : Int)) = false := by simp [hab']
                  have hne2 : ((r : Int) != (c : Int)) = true := by simp [hab']
                  clear HZ
                  by_cases hz : 0 < z
                  · have ht := HH.out
                    rw [if_pos hz] at ht
                    subst ht
                    clear HH
                    go_wp2_with fail
                    refine HBG.out.mono ?_
                    rintro e w8 ⟨v, vc, rfl, h8, hb8⟩
                    have H8 := Lib.hid h8
                    have HB8 := Lib.hid (HB.out.trans hb8)
                    clear h8 hb8 HBG HB
                    go_wp2_with fail
                    exact ⟨⟨c + 1, X + z, Y + 1, by omega, by omega, by omega, by go_num, by go_num, by go_num, HV1, H8, HB8⟩, by simp [intOf]; omega⟩
                  · have ht := HH.out
                    rw [if_neg hz] at ht
                    subst ht
                    obtain rfl : z = 0 := by omega
                    clear HH hz
                    go_wp2_with fail
                    refine HBG.out.mono ?_
                    rintro e w8 ⟨v, vc, rfl, h8, hb8⟩
                    have H8 := Lib.hid h8
                    have HB8 := Lib.hid (HB.out.trans hb8)
                    clear h8 hb8 HBG HB
                    go_wp2_with fail
                    exact ⟨⟨c + 1, X, Y, by omega, by omega, by omega, by go_num, by go_num, rfl, HV1, H8, HB8⟩, by simp [intOf]; omega⟩
              · have hcK : ¬ (c : Int) < (K : Int) + 2 := by omega
                obtain rfl : c = N := by omega
                go_wp2_with fail
                refine ⟨⟨r + 1, X, Y, by omega, by omega, by omega, by go_num, rfl, rfl, ?_, HS, HB⟩, by simp [intOf]; omega⟩
                obtain ⟨e1, e2⟩ := HV.out
                rw [← HM.out] at e1 e2
                exact Lib.hid ⟨e1, e2⟩
          · have hrK : ¬ (r : Int) < (K : Int) + 2 := by omega
            obtain rfl : r = N := by omega
            have hxq : x = q := by
              have e1 := HV.out.1
              rw [← HM.out] at e1
              rw [← e1]
              exact HT.out
            have HY : Hid (cntL S = y) := by
              have e1 := HV.out.2
              rw [← HM.out] at e1
              exact Lib.hid e1
            subst hxq
            have HLK := Lib.hid (Links_t HS.out)
            rw [HY.out] at HLK
            clear HV HS HT
            go_wp2_with fail
            refine HLK.out.mono ?_
            rintro e w9 ⟨v, vc, rfl, hb9⟩
            have HB9 := Lib.hid (HB.out.trans hb9)
            clear hb9 HLK HB
            go_wp2_with fail
            go_ret
            exact ⟨by simp, HB9.out⟩
    · obtain ⟨S, hS1, hS2, hS3⟩ := H
      have HS := Lib.hid hS3
      have HT := Lib.hid hS2
      have HM := Lib.hid hS1
      clear hS1 hS2 hS3 HACS
      go_wp2_with fail
      go_loopw [120, 12, 13] (fun i s m wr => ∃ r x y : Nat, r ≤ N ∧ x ≤ 300 ∧ y ≤ x ∧ i = .int .i64 r ∧ s = .int .i64 x ∧ m = .int .i64 y ∧ Hid (sumTo (rowL S) r = x ∧ sumTo (rowH S) r = y) ∧ Hid (NB W.heap.size wr n S) ∧ Hid (Below W.heap.size W wr)) (fun i _ _ _ => N - (intOf i).toNat)
      case atStart => exact ⟨0, 0, 0, by omega, by omega, by omega, rfl, rfl, rfl, ⟨rfl, rfl⟩, HS, HB⟩
      case round =>
        clear HS HB
        obtain ⟨r, x, y, hr, hx, hy, rfl, rfl, rfl, HV, HS, HB⟩ := hrel
        by_cases hrN : r < N
        · have hrK : (r : Int) < (K : Int) + 2 := by omega
          go_wp2_with fail
          go_loopw [124, 12, 13] (fun i s m wr => ∃ c x y : Nat, c ≤ N ∧ x ≤ 300 ∧ y ≤ x ∧ i = .int .i64 c ∧ s = .int .i64 x ∧ m = .int .i64 y ∧ Hid (sumTo (rowL S) r + sumTo (lenAt S r) c = x ∧ sumTo (rowH S) r + sumTo (hasAt S r) c = y) ∧ Hid (NB W.heap.size wr n S) ∧ Hid (Below W.heap.size W wr)) (fun i _ _ _ => N - (intOf i).toNat)
          case atStart => exact ⟨0, x, y, by omega, by omega, by omega, rfl, rfl, rfl, HV, HS, HB⟩
          case round =>
            clear HV HS HB hx hy
            obtain ⟨c, X, Y, hc, hx, hy, rfl, rfl, rfl, HV, HS, HB⟩ := hrel
            by_cases hcN : c < N
            · have hcK : (c : Int) < (K : Int) + 2 := by omega
              have hle : X + lenAt S r c ≤ 300 := by
                have e1 := sumTo_mono (f := lenAt S r) (i := c + 1) (n := S.N) (by rw [HM.out]; omega)
                have e2 := sumTo_mono (f := rowL S) (i := r + 1) (n := S.N) (by rw [HM.out]; omega)
                have e3 : sumTo (rowL S) r + rowL S r ≤ tot S := e2
                have e4 : sumTo (lenAt S r) c + lenAt S r c ≤ rowL S r := e1
                have e5 := HT.out
                have e6 := HV.out.1
                omega
              have HBG := Lib.hid (Bag_t HS.out r c (by rw [HM.out]; exact hrN) (by rw [HM.out]; exact hcN))
              have HV1 : Hid (sumTo (rowL S) r + sumTo (lenAt S r) (c + 1) = X + lenAt S r c ∧ sumTo (rowH S) r + sumTo (hasAt S r) (c + 1) = Y + hasAt S r c) := by
                obtain ⟨e1, e2⟩ := HV.out
                exact Lib.hid ⟨by show _ + (sumTo _ c + _) = _; omega, by show _ + (sumTo _ c + _) = _; omega⟩
              have HH : Hid (hasAt S r c = if 0 < lenAt S r c then 1 else 0) := Lib.hid rfl
              have HZ : Hid (r = c → lenAt S r c = 0) := Lib.hid (fun e => by
                unfold lenAt
                rw [if_neg (fun h => h.2.2.2.2 (by show (r : Int) = c; omega))])
              generalize lenAt S r c = z at *
              generalize hasAt S r c = t at *
              clear HV HS
              by_cases hab : r = c
              · rw [if_pos hab] at HBG
                have hz := HZ.out hab
                subst hz
                have ht := HH.out
                rw [if_neg (by omega)] at ht
                subst ht
                subst hab
                clear HZ HH
                go_wp2_with fail
                refine HBG.out.mono ?_
                rintro e w8 ⟨v, vc, rfl, h8, hb8⟩
                have H8 := Lib.hid h8
                have HB8 := Lib.hid (HB.out.trans hb8)
                clear h8 hb8 HBG HB
                go_wp2_with fail
                exact ⟨⟨r + 1, X, Y, by omega, by omega, by omega, by go_num, by go_num, rfl, HV1, H8, HB8⟩, by simp [intOf]; omega⟩
              · rw [if_neg hab] at HBG
                have hab' : ¬ (r : Int) = c := by omega
                have hne : ((r : Int) == (c : Int)) = false := by simp [hab']
                have hne2 : ((r : Int) != (c : Int)) = true := by simp [hab']
                clear HZ
                by_cases hz : 0 < z
                · have ht := HH.out
                  rw [if_pos hz] at ht
                  subst ht
                  clear HH
                  go_wp2_with fail
                  refine HBG.out.mono ?_
                  rintro e w8 ⟨v, vc, rfl, h8, hb8⟩
                  have H8 := Lib.hid h8
                  have HB8 := Lib.hid (HB.out.trans hb8)
                  clear h8 hb8 HBG HB
                  go_wp2_with fail
                  exact ⟨⟨c + 1, X + z, Y + 1, by omega, by omega, by omega, by go_num, by go_num, by go_num, HV1, H8, HB8⟩, by simp [intOf]; omega⟩
                · have ht := HH.out
                  rw [if_neg hz] at ht
                  subst ht
                  obtain rfl : z = 0 := by omega
                  clear HH hz
                  go_wp2_with fail
                  refine HBG.out.mono ?_
                  rintro e w8 ⟨v, vc, rfl, h8, hb8⟩
                  have H8 := Lib.hid h8
                  have HB8 := Lib.hid (HB.out.trans hb8)
                  clear h8 hb8 HBG HB
                  go_wp2_with fail
                  exact ⟨⟨c + 1, X, Y, by omega, by omega, by omega, by go_num, by go_num, rfl, HV1, H8, HB8⟩, by simp [intOf]; omega⟩
            · have hcK : ¬ (c : Int) < (K : Int) + 2 := by omega
              obtain rfl : c = N := by omega
              go_wp2_with fail
              refine ⟨⟨r + 1, X, Y, by omega, by omega, by omega, by go_num, rfl, rfl, ?_, HS, HB⟩, by simp [intOf]; omega⟩
              obtain ⟨e1, e2⟩ := HV.out
              rw [← HM.out] at e1 e2
              exact Lib.hid ⟨e1, e2⟩
        · have hrK : ¬ (r : Int) < (K : Int) + 2 := by omega
          obtain rfl : r = N := by omega
          have hxq : x = q := by
            have e1 := HV.out.1
            rw [← HM.out] at e1
            rw [← e1]
            exact HT.out
          have HY : Hid (cntL S = y) := by
            have e1 := HV.out.2
            rw [← HM.out] at e1
            exact Lib.hid e1
          subst hxq
          have HLK := Lib.hid (Links_t HS.out)
          rw [HY.out] at HLK
          clear HV HS HT
          go_wp2_with fail
          refine HLK.out.mono ?_
          rintro e w9 ⟨v, vc, rfl, hb9⟩
          have HB9 := Lib.hid (HB.out.trans hb9)
          clear hb9 HLK HB
          go_wp2_with fail
          go_ret
          exact ⟨by simp, HB9.out⟩
end Go.Proofs.Ytfhlfklgngpklaa
