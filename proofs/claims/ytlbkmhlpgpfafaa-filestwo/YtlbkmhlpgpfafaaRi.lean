/-
  The reference's disk: contract of Crash.
-/
import Derived.Test.YtlbkmhlpgpfafaaRh
namespace Go.Proofs.Ytlbkmhlpgpfafaa
open Go.RowKit Go.Maps Go.Joins
theorem one4 (a b c : ByteArray) (k : Bool) : ∀ u ∈ [Value.string a, .string b, .string c, .bool k], u.oneCell' = true := by
  intro u hu
  simp at hu
  rcases hu with rfl | rfl | rfl | rfl <;> rfl
theorem news2 (w : World) (o : Obj) (cs : Array Value) : ((w.alloc o).alloc (.cells cs 60)).heap[w.heap.size + 1]? = some (.cells cs 60 (0, 0)) := by
  rw [show w.heap.size + 1 = (w.alloc o).heap.size by simp]
  exact heap_top _ _
theorem tear_cells {F : PF} {x : Int} {sn T : ByteArray} (hn : sB F.nm = sn) (ht : sB (tearN F x) = T) : cellsF [tearF F x] = [.string sn, .string T, .string T, .bool true] := by
  simp [cellsF, cF, tearF, hn, ht]
theorem tear_neg {F : PF} {x : Int} {ss : ByteArray} (hs : sB F.safe = ss) (h : x < 0) : sB (tearN F x) = ss := by
  unfold tearN
  rw [if_pos h, hs]
theorem tear_zero {F : PF} {x : Int} {sh : ByteArray} {k : Nat} (hs : sB F.has = sh) (h : ¬ x < 0) (hp : (F.kept && F.safe.isPrefixOf F.has) = false) (hk : x.toNat % (sh.size + 1) = k) : sB (tearN F x) = sh.extract 0 k := by
  subst hk hs
  unfold tearN
  rw [if_neg h, hp, sB_take, sB_size]
  simp
theorem w64n (k : Nat) (h : k ≤ 600000) : wrap64 (k : Int) = k := by
  unfold wrap64
  omega
theorem ext0 (s : ByteArray) : s.extract 0 0 = ByteArray.empty := by
  apply ByteArray.ext
  simp
theorem tear_pre {F : PF} {x : Int} {sh ss : ByteArray} {k : Nat} (hs : sB F.has = sh) (hss : sB F.safe = ss) (h : ¬ x < 0) (hp : (F.kept && F.safe.isPrefixOf F.has) = true) (hk : x.toNat % (sh.size - ss.size + 1) = k) : sB (tearN F x) = sh.extract 0 (ss.size + k) := by
  subst hk hs hss
  unfold tearN
  rw [if_neg h, hp, sB_take, sB_size, sB_size]
  simp
theorem own_snoc {w : World} {B : Nat} {v : Value} {Q : List PF} {F : PF} {xs : List Value} (h : w.ownsRow B 60 4 v (Q.length + 1) (cellsF Q ++ xs)) (e : cellsF [F] = xs) : w.ownsRow B 60 4 v (Q ++ [F]).length (cellsF (Q ++ [F])) := by
  rw [cellsF_app, e, List.length_append]
  exact h
section
variable {w w' : World} {r : Nat} {v : Value} {S : PS} {D : Nat → Prop}
set_option maxRecDepth 100000 in
set_option maxHeartbeats 12800000 in
theorem RCrash_any (h : RK w r S D) (hs : SOK S) (a : Option Addr) (xs : List Int) (cap : Nat) (hx : xs.length ≤ 140737488351232) (hi : IntD w D a xs) (h64 : ∀ x ∈ xs, -9223372036854775808 ≤ x ∧ x ≤ 9223372036854775807) :
    Calls Try.prog 33 #[.pointer (some ⟨r, 0, none⟩), .slice a xs.length cap] w fun e w' => e = .returned (.int .i64 (crE xs)) ∧ RTo w w' r (crS S xs) D := by
  have HD := Lib.hid h.self
  obtain ⟨v, h, rfl⟩ := h
  obtain ⟨i0, hi0, hz0, hz1, hz2⟩ := info_parts info60
  by_cases hlong : 16384 < xs.length
  · rw [show crE xs = 2 by simp [crE, hlong], show crS S xs = S by simp [crS, hlong]]
    have hlong' : (16384 : Int) < xs.length := by omega
    clear h hi h64
    generalize xs.length = N at *
    go_enter Try.func33, Try.ntmps33
    go_wp2_with fail
    go_ret
    exact ⟨rfl, HD.out⟩
  · rw [show crE xs = 0 by simp [crE, hlong], show crS S xs = ⟨crL S.fs xs, false, -1⟩ by simp [crS, hlong]]
    have hlong' : ¬ (16384 : Int) < xs.length := by omega
    obtain ⟨⟨c0, c1, c2⟩, f0, f1, f2⟩ := cells3 h.hd
    obtain ⟨va, vc, hv⟩ := h.shape
    subst hv
    have hrl := lt_of_block h.hd
    have e1 := setR h.hd (i := 2) (.bool false)
    have e2 := setR e1 (i := 1) (.int .i64 (-1))
    have HP : Hid (RP ((w.setCell ⟨r, 2, none⟩ (.bool false)).setCell ⟨r, 1, none⟩ (.int .i64 (-1))) r (.slice va S.fs.length vc) ⟨S.fs, false, -1⟩) := h.head (by rw [e2]; simp) (fun x hx => by rw [setO _ _ hx, setO _ _ hx]) rfl
    have HFr : Hid (Fr (Dv r (.slice va S.fs.length vc)) w ((w.setCell ⟨r, 2, none⟩ (.bool false)).setCell ⟨r, 1, none⟩ (.int .i64 (-1)))) := ((Fr.refl _ w).setCell ⟨r, 2, none⟩ _ (Or.inl (Or.inl rfl))).setCell ⟨r, 1, none⟩ _ (Or.inl (Or.inl rfl))
    have HI : Hid (IntD ((w.setCell ⟨r, 2, none⟩ (.bool false)).setCell ⟨r, 1, none⟩ (.int .i64 (-1))) (Dv r (.slice va S.fs.length vc)) a xs) := fun h0 => by
      obtain ⟨b, o, ea, hb, hd, hc⟩ := hi h0
      have hbr : b ≠ r := fun e => hd (Or.inl e)
      refine ⟨b, o, ea, by simpa using hb, hd, fun i hi => ?_⟩
      rw [World.cell?_of_block (w := w) (by rw [setO _ _ hbr, setO _ _ hbr])]
      exact hc i hi
    have HS := Lib.hid hs
    have HL := Lib.hid h64
    have hl64 := hs.len
    obtain ⟨N, HN⟩ := named S.fs.length
    obtain ⟨X, HX⟩ := named xs.length
    rw [HX.out] at hlong' ⊢
    rw [HN.out] at c0 hl64
    have hw0 : ((w.setCell ⟨r, 2, none⟩ (.bool false)).setCell ⟨r, 1, none⟩ (.int .i64 (-1))).heap.size = w.heap.size := by simp
    have g0 : ((w.setCell ⟨r, 2, none⟩ (.bool false)).setCell ⟨r, 1, none⟩ (.int .i64 (-1))).cell? ⟨r, 0, none⟩ = some (.slice va N vc) := by
      have := (cells3 HP.out.hd).1.1
      rw [HN.out] at this
      exact this
    have k0 : ((w.setCell ⟨r, 2, none⟩ (.bool false)).setCell ⟨r, 1, none⟩ (.int .i64 (-1))).frozen? ⟨r, 0, none⟩ = false := (cells3 HP.out.hd).2.1
    have hrl0 : r < ((w.setCell ⟨r, 2, none⟩ (.bool false)).setCell ⟨r, 1, none⟩ (.int .i64 (-1))).heap.size := by rw [hw0]; exact hrl
    clear h hi h64 hs hlong hx e1 e2
    go_enter Try.func33, Try.ntmps33
    go_wp2_with fail
    clear c0 c1 c2 f0 f1 f2 hrl hw0
    generalize (w.setCell ⟨r, 2, none⟩ (.bool false)).setCell ⟨r, 1, none⟩ (.int .i64 (-1)) = W0 at *
    go_loopw [5, 6, 7] (fun ni vo i wr => ∃ (j c : Nat) (Q : List PF), j ≤ N ∧ c ≤ j ∧ i = .int .i64 j ∧ ni = .int .i64 c ∧ Hid (CrQ S.fs xs j c Q) ∧ Hid (wr.ownsRow W0.heap.size 60 4 vo Q.length (cellsF Q)) ∧ Hid (Below W0.heap.size W0 wr)) (fun _ _ i _ => N - (intOf i).toNat)
    case atStart => exact ⟨0, 0, [], Nat.zero_le _, Nat.le_refl _, rfl, rfl, ⟨rfl, Nat.le_refl _, Nat.le_refl _⟩, ⟨rfl, Or.inl ⟨rfl, rfl⟩⟩, Below.refl _ _⟩
    case round =>
      obtain ⟨j, c, Q, hj, hcj, rfl, rfl, HQ, HO, HB⟩ := hrel
      obtain ⟨oa, oc, hvo⟩ := own_slice HO.out
      subst hvo
      have d0 := (HB.out.cell (p := ⟨r, 0, none⟩) hrl0).trans g0
      have t0 : wr.frozen? ⟨r, 0, none⟩ = false := (World.frozen?_of_block (w := W0) (HB.out.block r hrl0)).trans k0
      by_cases hlt : j < N
      · have hjS : j < S.fs.length := by rw [HN.out]; exact hlt
        obtain ⟨F, hFj⟩ : ∃ F, S.fs[j] = F := ⟨_, rfl⟩
        obtain ⟨g, vc', hv, hg, _⟩ := HP.out.form (by show 0 < S.fs.length; omega)
        injection hv with hv1 _ hv3
        subst hv1 hv3
        obtain ⟨⟨p0, p1, p2, p3⟩, pf⟩ := (HP.out.on HB.out).fileF rfl j hjS F hFj
        have HFL : Hid (F.has.length ≤ 262144 ∧ F.safe.length ≤ 262144 ∧ (F.kept = false → F.safe = [])) := ⟨HS.out.has F (hFj ▸ List.getElem_mem hjS), HS.out.safe F (hFj ▸ List.getElem_mem hjS), HS.out.kept F (hFj ▸ List.getElem_mem hjS)⟩
        have HJ : Hid (∃ hj : j < S.fs.length, S.fs[j] = F) := ⟨hjS, hFj⟩
        clear hFj hjS hg pf
        have HSF := Lib.hid (safe_cmp F)
        have HPF := Lib.hid (pre_cmp F)
        obtain ⟨sn, HSN⟩ := named (sB F.nm)
        obtain ⟨sh, HSH⟩ := named (sB F.has)
        obtain ⟨ss, HSS⟩ := named (sB F.safe)
        rw [HSN.out] at p0
        rw [HSH.out] at p1
        rw [HSS.out] at p2
        rw [HSH.out, HSS.out] at HSF HPF
        have HSZ : Hid (sh.size = F.has.length ∧ ss.size = F.safe.length) := ⟨by rw [← HSH.out, sB_size], by rw [← HSS.out, sB_size]⟩
        have hsh : sh.size ≤ 262144 := by rw [HSZ.out.1]; exact HFL.out.1
        have hss : ss.size ≤ 262144 := by rw [HSZ.out.2]; exact HFL.out.2.1
        have hql : Q.length ≤ j := HQ.out.2.1
        cases hkp : F.kept with
        | true =>
          rw [hkp] at p3
          by_cases hsafe : F.has = F.safe
          · have hsc := HSF.out
            rw [decide_eq_true hsafe] at hsc
            have HQ' := Lib.hid (HQ.out.safe HJ.out.1 HJ.out.2 (by unfold isSafe; rw [hkp, decide_eq_true hsafe]; rfl))
            have HCE : Hid (cellsF [F] = [.string sn, .string sh, .string ss, .bool true]) := by
              show _ = _
              simp only [cellsF, cF, HSN.out, HSH.out, HSS.out, hkp, List.append_nil]
            go_wp2_with (at_builtin; refine wpList_append_own _ rfl (.tmp 45) (.tmp 47) 53 rfl W0.heap.size 60 i0 _ 4 56 Try.underlying53 hi0 hz0 hz1 hz2 rfl (by decide) (.slice oa Q.length oc) Q.length (cellsF Q) rfl ((HO.out.alloc _).alloc _) ⟨wr.heap.size + 1, 0, none⟩ 1 1 [.string sn, .string sh, .string ss, .bool true] rfl rfl (World.news_of_block (news2 _ _ _)) (one4 _ _ _ _) (by unfold maxLen; omega) (by omega) (by have := HB.out.size; simp; omega) ?_; intro v2 w2 hown2 hgr2 hnil2; clear hnil2; have HB2 : Hid (Below W0.heap.size W0 w2) := ((HB.out.alloc HB.out.size _).alloc (by have := HB.out.size; simp; omega) _).grown hgr2 (by have := HB.out.size; simp; omega) (fun k hk => (HO.out.lt k hk).1); have HO2 : Hid (w2.ownsRow W0.heap.size 60 4 v2 (Q.length + 1) (cellsF Q ++ [.string sn, .string sh, .string ss, .bool true])) := hown2; clear hown2 hgr2)
            exact ⟨⟨j + 1, c, Q ++ [F], by omega, by omega, by go_num, rfl, HQ'.out, own_snoc HO2.out HCE.out, HB2⟩, by simp [intOf]; omega⟩
          · have hsc := HSF.out
            rw [decide_eq_false hsafe] at hsc
            have HNS : Hid (isSafe F = false) := by show _ = _; unfold isSafe; rw [hkp, decide_eq_false hsafe]; rfl
            by_cases hcX : c < X
            · have hcx : c < xs.length := by rw [HX.out]; exact hcX
              obtain ⟨b, o, ea, hb, hbD, hbc⟩ := HI.out (by omega)
              subst ea
              have hcX' : (c : Int) < X := by omega
              have hb1 : Hid (Below W0.heap.size W0 (wr.alloc (.cells #[.string sn, .string sh, .string ss, .bool true] 60))) := HB.out.alloc HB.out.size _
              have z0 := (hb1.out.cell (p := ⟨b, o + c, none⟩) hb).trans (hbc c hcx)
              have HH := Lib.hid (hd_in hcx)
              have hbx := HL.out _ (List.getElem_mem hcx)
              obtain ⟨x, HXX⟩ := named (xs[c]'hcx)
              rw [HXX.out] at z0 HH hbx
              clear hbc hbD hb
              by_cases hx0 : x < 0
              · by_cases hle : ss.size ≤ sh.size
                · have hle' : (ss.size : Int) ≤ sh.size := by omega
                  cases hpp : F.safe.isPrefixOf F.has with
                  | true =>
                    have hpe := HPF.out
                    rw [hpp] at hpe
                    have HQ' := Lib.hid (HQ.out.torn HJ.out.1 HJ.out.2 HNS.out HH.out (fun e => by have := e.2; rw [hkp] at this; cases this))
                    have q1 : (wr.alloc (.cells #[.string sn, .string sh, .string ss, .bool true] 60)).cell? ⟨wr.heap.size, 1, none⟩ = some (.string sh) := by simp
                    have q2 : (wr.alloc (.cells #[.string sn, .string sh, .string ss, .bool true] 60)).cell? ⟨wr.heap.size, 2, none⟩ = some (.string ss) := by simp
                    have q3 : (wr.alloc (.cells #[.string sn, .string sh, .string ss, .bool true] 60)).cell? ⟨wr.heap.size, 3, none⟩ = some (.bool true) := by simp
                    have r1 : (wr.alloc (.cells #[.string sn, .string sh, .string ss, .bool true] 60)).frozen? ⟨wr.heap.size, 1, none⟩ = false := by simp
                    have HCE := Lib.hid (tear_cells (F := F) HSN.out (tear_neg HSS.out hx0))
                    have HOD : Hid (World.ownsRow (((wr.alloc (.cells #[.string sn, .string ss, .string ss, .bool true] 60)).alloc (.cells #[.string sn, .string ss, .string ss, .bool true] 60)).drew) W0.heap.size 60 4 (.slice oa Q.length oc) Q.length (cellsF Q)) := own_same ((HO.out.alloc (.cells #[.string sn, .string ss, .string ss, .bool true] 60)).alloc (.cells #[.string sn, .string ss, .string ss, .bool true] 60)) (fun _ _ => rfl)
                    have HBD : Hid (Below W0.heap.size W0 (((wr.alloc (.cells #[.string sn, .string ss, .string ss, .bool true] 60)).alloc (.cells #[.string sn, .string ss, .string ss, .bool true] 60)).drew)) := by
                      have b1 := (HB.out.alloc HB.out.size (.cells #[.string sn, .string ss, .string ss, .bool true] 60)).alloc (by have := HB.out.size; simp; omega) (.cells #[.string sn, .string ss, .string ss, .bool true] 60)
                      exact ⟨b1.os, b1.tape, b1.output, b1.size, b1.block⟩
                    have HNW : Hid (∀ y u, [Value.string sn, .string ss, .string ss, .bool true][y]? = some u → (((wr.alloc (.cells #[.string sn, .string ss, .string ss, .bool true] 60)).alloc (.cells #[.string sn, .string ss, .string ss, .bool true] 60)).drew).cell? ((⟨wr.heap.size + 1, 0, none⟩ : Addr).add y) = some u) := World.news_of_block (w := ((wr.alloc (.cells #[.string sn, .string ss, .string ss, .bool true] 60)).alloc (.cells #[.string sn, .string ss, .string ss, .bool true] 60)).drew) (news2 _ _ _)
                    go_wp2_with fail
                    go_region
                    go_wp2_with (at_builtin; refine wpList_append_own _ rfl (.tmp 114) (.tmp 116) 53 rfl W0.heap.size 60 i0 _ 4 56 Try.underlying53 hi0 hz0 hz1 hz2 rfl (by decide) (.slice oa Q.length oc) Q.length (cellsF Q) rfl HOD.out ⟨wr.heap.size + 1, 0, none⟩ 1 1 [.string sn, .string ss, .string ss, .bool true] rfl rfl HNW.out (one4 _ _ _ _) (by unfold maxLen; omega) (by omega) HBD.out.size ?_; intro v2 w2 hown2 hgr2 hnil2; clear hnil2; have HB2 : Hid (Below W0.heap.size W0 w2) := HBD.out.grown hgr2 HBD.out.size (fun k hk => (HO.out.lt k hk).1); have HO2 : Hid (w2.ownsRow W0.heap.size 60 4 v2 (Q.length + 1) (cellsF Q ++ [.string sn, .string ss, .string ss, .bool true])) := hown2; clear hown2 hgr2)
                    exact ⟨⟨j + 1, c + 1, Q ++ [tearF F _], by omega, by omega, by go_num, by go_num, HQ'.out, own_snoc HO2.out HCE.out, HB2⟩, by simp [intOf]; omega⟩
                  | false =>
                    have hpe := HPF.out
                    rw [hpp] at hpe
                    have HQ' := Lib.hid (HQ.out.torn HJ.out.1 HJ.out.2 HNS.out HH.out (fun e => by have := e.2; rw [hkp] at this; cases this))
                    have q1 : (wr.alloc (.cells #[.string sn, .string sh, .string ss, .bool true] 60)).cell? ⟨wr.heap.size, 1, none⟩ = some (.string sh) := by simp
                    have q2 : (wr.alloc (.cells #[.string sn, .string sh, .string ss, .bool true] 60)).cell? ⟨wr.heap.size, 2, none⟩ = some (.string ss) := by simp
                    have q3 : (wr.alloc (.cells #[.string sn, .string sh, .string ss, .bool true] 60)).cell? ⟨wr.heap.size, 3, none⟩ = some (.bool true) := by simp
                    have r1 : (wr.alloc (.cells #[.string sn, .string sh, .string ss, .bool true] 60)).frozen? ⟨wr.heap.size, 1, none⟩ = false := by simp
                    have HCE := Lib.hid (tear_cells (F := F) HSN.out (tear_neg HSS.out hx0))
                    have HOD : Hid (World.ownsRow (((wr.alloc (.cells #[.string sn, .string ss, .string ss, .bool true] 60)).alloc (.cells #[.string sn, .string ss, .string ss, .bool true] 60)).drew) W0.heap.size 60 4 (.slice oa Q.length oc) Q.length (cellsF Q)) := own_same ((HO.out.alloc (.cells #[.string sn, .string ss, .string ss, .bool true] 60)).alloc (.cells #[.string sn, .string ss, .string ss, .bool true] 60)) (fun _ _ => rfl)
                    have HBD : Hid (Below W0.heap.size W0 (((wr.alloc (.cells #[.string sn, .string ss, .string ss, .bool true] 60)).alloc (.cells #[.string sn, .string ss, .string ss, .bool true] 60)).drew)) := by
                      have b1 := (HB.out.alloc HB.out.size (.cells #[.string sn, .string ss, .string ss, .bool true] 60)).alloc (by have := HB.out.size; simp; omega) (.cells #[.string sn, .string ss, .string ss, .bool true] 60)
                      exact ⟨b1.os, b1.tape, b1.output, b1.size, b1.block⟩
                    have HNW : Hid (∀ y u, [Value.string sn, .string ss, .string ss, .bool true][y]? = some u → (((wr.alloc (.cells #[.string sn, .string ss, .string ss, .bool true] 60)).alloc (.cells #[.string sn, .string ss, .string ss, .bool true] 60)).drew).cell? ((⟨wr.heap.size + 1, 0, none⟩ : Addr).add y) = some u) := World.news_of_block (w := ((wr.alloc (.cells #[.string sn, .string ss, .string ss, .bool true] 60)).alloc (.cells #[.string sn, .string ss, .string ss, .bool true] 60)).drew) (news2 _ _ _)
                    go_wp2_with fail
                    go_region
                    go_wp2_with (at_builtin; refine wpList_append_own _ rfl (.tmp 114) (.tmp 116) 53 rfl W0.heap.size 60 i0 _ 4 56 Try.underlying53 hi0 hz0 hz1 hz2 rfl (by decide) (.slice oa Q.length oc) Q.length (cellsF Q) rfl HOD.out ⟨wr.heap.size + 1, 0, none⟩ 1 1 [.string sn, .string ss, .string ss, .bool true] rfl rfl HNW.out (one4 _ _ _ _) (by unfold maxLen; omega) (by omega) HBD.out.size ?_; intro v2 w2 hown2 hgr2 hnil2; clear hnil2; have HB2 : Hid (Below W0.heap.size W0 w2) := HBD.out.grown hgr2 HBD.out.size (fun k hk => (HO.out.lt k hk).1); have HO2 : Hid (w2.ownsRow W0.heap.size 60 4 v2 (Q.length + 1) (cellsF Q ++ [.string sn, .string ss, .string ss, .bool true])) := hown2; clear hown2 hgr2)
                    exact ⟨⟨j + 1, c + 1, Q ++ [tearF F _], by omega, by omega, by go_num, by go_num, HQ'.out, own_snoc HO2.out HCE.out, HB2⟩, by simp [intOf]; omega⟩
                · have hle' : ¬ (ss.size : Int) ≤ sh.size := by omega
                  have hpp : F.safe.isPrefixOf F.has = false := pre_len F (by rw [← HSZ.out.1, ← HSZ.out.2]; exact hle)
                  have HQ' := Lib.hid (HQ.out.torn HJ.out.1 HJ.out.2 HNS.out HH.out (fun e => by have := e.2; rw [hkp] at this; cases this))
                  have q1 : (wr.alloc (.cells #[.string sn, .string sh, .string ss, .bool true] 60)).cell? ⟨wr.heap.size, 1, none⟩ = some (.string sh) := by simp
                  have q2 : (wr.alloc (.cells #[.string sn, .string sh, .string ss, .bool true] 60)).cell? ⟨wr.heap.size, 2, none⟩ = some (.string ss) := by simp
                  have q3 : (wr.alloc (.cells #[.string sn, .string sh, .string ss, .bool true] 60)).cell? ⟨wr.heap.size, 3, none⟩ = some (.bool true) := by simp
                  have r1 : (wr.alloc (.cells #[.string sn, .string sh, .string ss, .bool true] 60)).frozen? ⟨wr.heap.size, 1, none⟩ = false := by simp
                  have HCE := Lib.hid (tear_cells (F := F) HSN.out (tear_neg HSS.out hx0))
                  have HOD : Hid (World.ownsRow (((wr.alloc (.cells #[.string sn, .string ss, .string ss, .bool true] 60)).alloc (.cells #[.string sn, .string ss, .string ss, .bool true] 60)).drew) W0.heap.size 60 4 (.slice oa Q.length oc) Q.length (cellsF Q)) := own_same ((HO.out.alloc (.cells #[.string sn, .string ss, .string ss, .bool true] 60)).alloc (.cells #[.string sn, .string ss, .string ss, .bool true] 60)) (fun _ _ => rfl)
                  have HBD : Hid (Below W0.heap.size W0 (((wr.alloc (.cells #[.string sn, .string ss, .string ss, .bool true] 60)).alloc (.cells #[.string sn, .string ss, .string ss, .bool true] 60)).drew)) := by
                    have b1 := (HB.out.alloc HB.out.size (.cells #[.string sn, .string ss, .string ss, .bool true] 60)).alloc (by have := HB.out.size; simp; omega) (.cells #[.string sn, .string ss, .string ss, .bool true] 60)
                    exact ⟨b1.os, b1.tape, b1.output, b1.size, b1.block⟩
                  have HNW : Hid (∀ y u, [Value.string sn, .string ss, .string ss, .bool true][y]? = some u → (((wr.alloc (.cells #[.string sn, .string ss, .string ss, .bool true] 60)).alloc (.cells #[.string sn, .string ss, .string ss, .bool true] 60)).drew).cell? ((⟨wr.heap.size + 1, 0, none⟩ : Addr).add y) = some u) := World.news_of_block (w := ((wr.alloc (.cells #[.string sn, .string ss, .string ss, .bool true] 60)).alloc (.cells #[.string sn, .string ss, .string ss, .bool true] 60)).drew) (news2 _ _ _)
                  go_wp2_with fail
                  go_region
                  go_wp2_with (at_builtin; refine wpList_append_own _ rfl (.tmp 114) (.tmp 116) 53 rfl W0.heap.size 60 i0 _ 4 56 Try.underlying53 hi0 hz0 hz1 hz2 rfl (by decide) (.slice oa Q.length oc) Q.length (cellsF Q) rfl HOD.out ⟨wr.heap.size + 1, 0, none⟩ 1 1 [.string sn, .string ss, .string ss, .bool true] rfl rfl HNW.out (one4 _ _ _ _) (by unfold maxLen; omega) (by omega) HBD.out.size ?_; intro v2 w2 hown2 hgr2 hnil2; clear hnil2; have HB2 : Hid (Below W0.heap.size W0 w2) := HBD.out.grown hgr2 HBD.out.size (fun k hk => (HO.out.lt k hk).1); have HO2 : Hid (w2.ownsRow W0.heap.size 60 4 v2 (Q.length + 1) (cellsF Q ++ [.string sn, .string ss, .string ss, .bool true])) := hown2; clear hown2 hgr2)
                  exact ⟨⟨j + 1, c + 1, Q ++ [tearF F _], by omega, by omega, by go_num, by go_num, HQ'.out, own_snoc HO2.out HCE.out, HB2⟩, by simp [intOf]; omega⟩
              · by_cases hle : ss.size ≤ sh.size
                · have hle' : (ss.size : Int) ≤ sh.size := by omega
                  cases hpp : F.safe.isPrefixOf F.has with
                  | true =>
                    have hpe := HPF.out
                    rw [hpp] at hpe
                    have HQ' := Lib.hid (HQ.out.torn HJ.out.1 HJ.out.2 HNS.out HH.out (fun e => by have := e.2; rw [hkp] at this; cases this))
                    obtain ⟨d, HDD⟩ := named (sh.size - ss.size)
                    have hd2 : (sh.size : Int) - ss.size = d := by rw [← HDD.out]; omega
                    have hdm : d ≤ 262144 := by rw [← HDD.out]; omega
                    have hd1 : wrap64 ((sh.size : Int) - ss.size) = d := by rw [hd2]; exact w64n d (by omega)
                    obtain ⟨k, HK⟩ := named (x.toNat % (sh.size - ss.size + 1))
                    have hk : k ≤ d := by
                      have := Nat.mod_lt x.toNat (show 0 < sh.size - ss.size + 1 by omega)
                      rw [HK.out, HDD.out] at this
                      omega
                    have hxk : x % ((d : Int) + 1) = k := by
                      rw [← HK.out, ← HDD.out, Int.natCast_emod]
                      congr 1
                      omega
                    obtain ⟨m, HMM⟩ := named (ss.size + k)
                    have hm : m ≤ sh.size := by rw [← HMM.out]; have := HDD.out; omega
                    have hwz : (ss.size : Int) + k = m := by rw [← HMM.out]; omega
                    have hmb : m ≤ 600000 := by omega
                    have hkb : k ≤ 600000 := by omega
                    have hwr : wrap64 (x % ((d : Int) + 1)) = k := by rw [hxk]; exact w64n k hkb
                    have hwp : wrap64 ((ss.size : Int) + x % ((d : Int) + 1)) = m := by rw [hxk, hwz]; exact w64n m hmb
                    have hwq : wrap64 ((ss.size : Int) + k) = m := by rw [hwz]; exact w64n m hmb
                    have hwm : wrap64 (m : Int) = m := w64n m hmb
                    have q1 : (wr.alloc (.cells #[.string sn, .string sh, .string ss, .bool true] 60)).cell? ⟨wr.heap.size, 1, none⟩ = some (.string sh) := by simp
                    have q2 : (wr.alloc (.cells #[.string sn, .string sh, .string ss, .bool true] 60)).cell? ⟨wr.heap.size, 2, none⟩ = some (.string ss) := by simp
                    have q3 : (wr.alloc (.cells #[.string sn, .string sh, .string ss, .bool true] 60)).cell? ⟨wr.heap.size, 3, none⟩ = some (.bool true) := by simp
                    have r1 : (wr.alloc (.cells #[.string sn, .string sh, .string ss, .bool true] 60)).frozen? ⟨wr.heap.size, 1, none⟩ = false := by simp
                    have HCE := Lib.hid (tear_cells (F := F) HSN.out (HMM.out ▸ tear_pre HSH.out HSS.out hx0 (by rw [hkp, hpp]; rfl) HK.out))
                    have HOD : Hid (World.ownsRow (((wr.alloc (.cells #[.string sn, .string (sh.extract 0 m), .string (sh.extract 0 m), .bool true] 60)).alloc (.cells #[.string sn, .string (sh.extract 0 m), .string (sh.extract 0 m), .bool true] 60)).drew.drew) W0.heap.size 60 4 (.slice oa Q.length oc) Q.length (cellsF Q)) := own_same ((HO.out.alloc (.cells #[.string sn, .string (sh.extract 0 m), .string (sh.extract 0 m), .bool true] 60)).alloc (.cells #[.string sn, .string (sh.extract 0 m), .string (sh.extract 0 m), .bool true] 60)) (fun _ _ => rfl)
                    have HBD : Hid (Below W0.heap.size W0 (((wr.alloc (.cells #[.string sn, .string (sh.extract 0 m), .string (sh.extract 0 m), .bool true] 60)).alloc (.cells #[.string sn, .string (sh.extract 0 m), .string (sh.extract 0 m), .bool true] 60)).drew.drew)) := by
                      have b1 := (HB.out.alloc HB.out.size (.cells #[.string sn, .string (sh.extract 0 m), .string (sh.extract 0 m), .bool true] 60)).alloc (by have := HB.out.size; simp; omega) (.cells #[.string sn, .string (sh.extract 0 m), .string (sh.extract 0 m), .bool true] 60)
                      exact ⟨b1.os, b1.tape, b1.output, b1.size, b1.block⟩
                    have HNW : Hid (∀ y u, [Value.string sn, .string (sh.extract 0 m), .string (sh.extract 0 m), .bool true][y]? = some u → (((wr.alloc (.cells #[.string sn, .string (sh.extract 0 m), .string (sh.extract 0 m), .bool true] 60)).alloc (.cells #[.string sn, .string (sh.extract 0 m), .string (sh.extract 0 m), .bool true] 60)).drew.drew).cell? ((⟨wr.heap.size + 1, 0, none⟩ : Addr).add y) = some u) := World.news_of_block (w := ((wr.alloc (.cells #[.string sn, .string (sh.extract 0 m), .string (sh.extract 0 m), .bool true] 60)).alloc (.cells #[.string sn, .string (sh.extract 0 m), .string (sh.extract 0 m), .bool true] 60)).drew.drew) (news2 _ _ _)
                    go_wp2_with fail
                    go_region
                    go_wp2_with fail
                    go_region
                    go_wp2_with (at_builtin; refine wpList_append_own _ rfl (.tmp 114) (.tmp 116) 53 rfl W0.heap.size 60 i0 _ 4 56 Try.underlying53 hi0 hz0 hz1 hz2 rfl (by decide) (.slice oa Q.length oc) Q.length (cellsF Q) rfl HOD.out ⟨wr.heap.size + 1, 0, none⟩ 1 1 [.string sn, .string (sh.extract 0 m), .string (sh.extract 0 m), .bool true] rfl rfl HNW.out (one4 _ _ _ _) (by unfold maxLen; omega) (by omega) HBD.out.size ?_; intro v2 w2 hown2 hgr2 hnil2; clear hnil2; have HB2 : Hid (Below W0.heap.size W0 w2) := HBD.out.grown hgr2 HBD.out.size (fun k hk => (HO.out.lt k hk).1); have HO2 : Hid (w2.ownsRow W0.heap.size 60 4 v2 (Q.length + 1) (cellsF Q ++ [.string sn, .string (sh.extract 0 m), .string (sh.extract 0 m), .bool true])) := hown2; clear hown2 hgr2)
                    exact ⟨⟨j + 1, c + 1, Q ++ [tearF F _], by omega, by omega, by go_num, by go_num, HQ'.out, own_snoc HO2.out HCE.out, HB2⟩, by simp [intOf]; omega⟩
                  | false =>
                    have hpe := HPF.out
                    rw [hpp] at hpe
                    have HQ' := Lib.hid (HQ.out.torn HJ.out.1 HJ.out.2 HNS.out HH.out (fun e => by have := e.2; rw [hkp] at this; cases this))
                    obtain ⟨k, HK⟩ := named (x.toNat % (sh.size + 1))
                    have hk : k ≤ sh.size := by
                      have := Nat.mod_lt x.toNat (show 0 < sh.size + 1 by omega)
                      rw [HK.out] at this
                      omega
                    have hxk : x % ((sh.size : Int) + 1) = k := by
                      rw [← HK.out, Int.natCast_emod]
                      congr 1
                      omega
                    have hwr : wrap64 (x % ((sh.size : Int) + 1)) = k := by rw [hxk]; exact w64n k (by omega)
                    have q1 : (wr.alloc (.cells #[.string sn, .string sh, .string ss, .bool true] 60)).cell? ⟨wr.heap.size, 1, none⟩ = some (.string sh) := by simp
                    have q2 : (wr.alloc (.cells #[.string sn, .string sh, .string ss, .bool true] 60)).cell? ⟨wr.heap.size, 2, none⟩ = some (.string ss) := by simp
                    have q3 : (wr.alloc (.cells #[.string sn, .string sh, .string ss, .bool true] 60)).cell? ⟨wr.heap.size, 3, none⟩ = some (.bool true) := by simp
                    have r1 : (wr.alloc (.cells #[.string sn, .string sh, .string ss, .bool true] 60)).frozen? ⟨wr.heap.size, 1, none⟩ = false := by simp
                    have HCE := Lib.hid (tear_cells (F := F) HSN.out (tear_zero HSH.out hx0 (by rw [hkp, hpp]; rfl) HK.out))
                    have HOD : Hid (World.ownsRow (((wr.alloc (.cells #[.string sn, .string (sh.extract 0 k), .string (sh.extract 0 k), .bool true] 60)).alloc (.cells #[.string sn, .string (sh.extract 0 k), .string (sh.extract 0 k), .bool true] 60)).drew.drew) W0.heap.size 60 4 (.slice oa Q.length oc) Q.length (cellsF Q)) := own_same ((HO.out.alloc (.cells #[.string sn, .string (sh.extract 0 k), .string (sh.extract 0 k), .bool true] 60)).alloc (.cells #[.string sn, .string (sh.extract 0 k), .string (sh.extract 0 k), .bool true] 60)) (fun _ _ => rfl)
                    have HBD : Hid (Below W0.heap.size W0 (((wr.alloc (.cells #[.string sn, .string (sh.extract 0 k), .string (sh.extract 0 k), .bool true] 60)).alloc (.cells #[.string sn, .string (sh.extract 0 k), .string (sh.extract 0 k), .bool true] 60)).drew.drew)) := by
                      have b1 := (HB.out.alloc HB.out.size (.cells #[.string sn, .string (sh.extract 0 k), .string (sh.extract 0 k), .bool true] 60)).alloc (by have := HB.out.size; simp; omega) (.cells #[.string sn, .string (sh.extract 0 k), .string (sh.extract 0 k), .bool true] 60)
                      exact ⟨b1.os, b1.tape, b1.output, b1.size, b1.block⟩
                    have HNW : Hid (∀ y u, [Value.string sn, .string (sh.extract 0 k), .string (sh.extract 0 k), .bool true][y]? = some u → (((wr.alloc (.cells #[.string sn, .string (sh.extract 0 k), .string (sh.extract 0 k), .bool true] 60)).alloc (.cells #[.string sn, .string (sh.extract 0 k), .string (sh.extract 0 k), .bool true] 60)).drew.drew).cell? ((⟨wr.heap.size + 1, 0, none⟩ : Addr).add y) = some u) := World.news_of_block (w := ((wr.alloc (.cells #[.string sn, .string (sh.extract 0 k), .string (sh.extract 0 k), .bool true] 60)).alloc (.cells #[.string sn, .string (sh.extract 0 k), .string (sh.extract 0 k), .bool true] 60)).drew.drew) (news2 _ _ _)
                    go_wp2_with fail
                    go_region
                    go_wp2_with fail
                    go_region
                    go_wp2_with (at_builtin; refine wpList_append_own _ rfl (.tmp 114) (.tmp 116) 53 rfl W0.heap.size 60 i0 _ 4 56 Try.underlying53 hi0 hz0 hz1 hz2 rfl (by decide) (.slice oa Q.length oc) Q.length (cellsF Q) rfl HOD.out ⟨wr.heap.size + 1, 0, none⟩ 1 1 [.string sn, .string (sh.extract 0 k), .string (sh.extract 0 k), .bool true] rfl rfl HNW.out (one4 _ _ _ _) (by unfold maxLen; omega) (by omega) HBD.out.size ?_; intro v2 w2 hown2 hgr2 hnil2; clear hnil2; have HB2 : Hid (Below W0.heap.size W0 w2) := HBD.out.grown hgr2 HBD.out.size (fun k hk => (HO.out.lt k hk).1); have HO2 : Hid (w2.ownsRow W0.heap.size 60 4 v2 (Q.length + 1) (cellsF Q ++ [.string sn, .string (sh.extract 0 k), .string (sh.extract 0 k), .bool true])) := hown2; clear hown2 hgr2)
                    exact ⟨⟨j + 1, c + 1, Q ++ [tearF F _], by omega, by omega, by go_num, by go_num, HQ'.out, own_snoc HO2.out HCE.out, HB2⟩, by simp [intOf]; omega⟩
                · have hle' : ¬ (ss.size : Int) ≤ sh.size := by omega
                  have hpp : F.safe.isPrefixOf F.has = false := pre_len F (by rw [← HSZ.out.1, ← HSZ.out.2]; exact hle)
                  have HQ' := Lib.hid (HQ.out.torn HJ.out.1 HJ.out.2 HNS.out HH.out (fun e => by have := e.2; rw [hkp] at this; cases this))
                  obtain ⟨k, HK⟩ := named (x.toNat % (sh.size + 1))
                  have hk : k ≤ sh.size := by
                    have := Nat.mod_lt x.toNat (show 0 < sh.size + 1 by omega)
                    rw [HK.out] at this
                    omega
                  have hxk : x % ((sh.size : Int) + 1) = k := by
                    rw [← HK.out, Int.natCast_emod]
                    congr 1
                    omega
                  have hwr : wrap64 (x % ((sh.size : Int) + 1)) = k := by rw [hxk]; exact w64n k (by omega)
                  have q1 : (wr.alloc (.cells #[.string sn, .string sh, .string ss, .bool true] 60)).cell? ⟨wr.heap.size, 1, none⟩ = some (.string sh) := by simp
                  have q2 : (wr.alloc (.cells #[.string sn, .string sh, .string ss, .bool true] 60)).cell? ⟨wr.heap.size, 2, none⟩ = some (.string ss) := by simp
                  have q3 : (wr.alloc (.cells #[.string sn, .string sh, .string ss, .bool true] 60)).cell? ⟨wr.heap.size, 3, none⟩ = some (.bool true) := by simp
                  have r1 : (wr.alloc (.cells #[.string sn, .string sh, .string ss, .bool true] 60)).frozen? ⟨wr.heap.size, 1, none⟩ = false := by simp
                  have HCE := Lib.hid (tear_cells (F := F) HSN.out (tear_zero HSH.out hx0 (by rw [hkp, hpp]; rfl) HK.out))
                  have HOD : Hid (World.ownsRow (((wr.alloc (.cells #[.string sn, .string (sh.extract 0 k), .string (sh.extract 0 k), .bool true] 60)).alloc (.cells #[.string sn, .string (sh.extract 0 k), .string (sh.extract 0 k), .bool true] 60)).drew.drew) W0.heap.size 60 4 (.slice oa Q.length oc) Q.length (cellsF Q)) := own_same ((HO.out.alloc (.cells #[.string sn, .string (sh.extract 0 k), .string (sh.extract 0 k), .bool true] 60)).alloc (.cells #[.string sn, .string (sh.extract 0 k), .string (sh.extract 0 k), .bool true] 60)) (fun _ _ => rfl)
                  have HBD : Hid (Below W0.heap.size W0 (((wr.alloc (.cells #[.string sn, .string (sh.extract 0 k), .string (sh.extract 0 k), .bool true] 60)).alloc (.cells #[.string sn, .string (sh.extract 0 k), .string (sh.extract 0 k), .bool true] 60)).drew.drew)) := by
                    have b1 := (HB.out.alloc HB.out.size (.cells #[.string sn, .string (sh.extract 0 k), .string (sh.extract 0 k), .bool true] 60)).alloc (by have := HB.out.size; simp; omega) (.cells #[.string sn, .string (sh.extract 0 k), .string (sh.extract 0 k), .bool true] 60)
                    exact ⟨b1.os, b1.tape, b1.output, b1.size, b1.block⟩
                  have HNW : Hid (∀ y u, [Value.string sn, .string (sh.extract 0 k), .string (sh.extract 0 k), .bool true][y]? = some u → (((wr.alloc (.cells #[.string sn, .string (sh.extract 0 k), .string (sh.extract 0 k), .bool true] 60)).alloc (.cells #[.string sn, .string (sh.extract 0 k), .string (sh.extract 0 k), .bool true] 60)).drew.drew).cell? ((⟨wr.heap.size + 1, 0, none⟩ : Addr).add y) = some u) := World.news_of_block (w := ((wr.alloc (.cells #[.string sn, .string (sh.extract 0 k), .string (sh.extract 0 k), .bool true] 60)).alloc (.cells #[.string sn, .string (sh.extract 0 k), .string (sh.extract 0 k), .bool true] 60)).drew.drew) (news2 _ _ _)
                  go_wp2_with fail
                  go_region
                  go_wp2_with fail
                  go_region
                  go_wp2_with (at_builtin; refine wpList_append_own _ rfl (.tmp 114) (.tmp 116) 53 rfl W0.heap.size 60 i0 _ 4 56 Try.underlying53 hi0 hz0 hz1 hz2 rfl (by decide) (.slice oa Q.length oc) Q.length (cellsF Q) rfl HOD.out ⟨wr.heap.size + 1, 0, none⟩ 1 1 [.string sn, .string (sh.extract 0 k), .string (sh.extract 0 k), .bool true] rfl rfl HNW.out (one4 _ _ _ _) (by unfold maxLen; omega) (by omega) HBD.out.size ?_; intro v2 w2 hown2 hgr2 hnil2; clear hnil2; have HB2 : Hid (Below W0.heap.size W0 w2) := HBD.out.grown hgr2 HBD.out.size (fun k hk => (HO.out.lt k hk).1); have HO2 : Hid (w2.ownsRow W0.heap.size 60 4 v2 (Q.length + 1) (cellsF Q ++ [.string sn, .string (sh.extract 0 k), .string (sh.extract 0 k), .bool true])) := hown2; clear hown2 hgr2)
                  exact ⟨⟨j + 1, c + 1, Q ++ [tearF F _], by omega, by omega, by go_num, by go_num, HQ'.out, own_snoc HO2.out HCE.out, HB2⟩, by simp [intOf]; omega⟩
            · have HH := Lib.hid (hd_out (xs := xs) (c := c) (by rw [HX.out]; omega))
              have hcX' : ¬ (c : Int) < X := by omega
              have hx0 : ¬ (0 : Int) < 0 := by omega
              by_cases hle : ss.size ≤ sh.size
              · have hle' : (ss.size : Int) ≤ sh.size := by omega
                cases hpp : F.safe.isPrefixOf F.has with
                | true =>
                  have hpe := HPF.out
                  rw [hpp] at hpe
                  have HQ' := Lib.hid (HQ.out.torn HJ.out.1 HJ.out.2 HNS.out HH.out (fun e => by have := e.2; rw [hkp] at this; cases this))
                  have q1 : (wr.alloc (.cells #[.string sn, .string sh, .string ss, .bool true] 60)).cell? ⟨wr.heap.size, 1, none⟩ = some (.string sh) := by simp
                  have q2 : (wr.alloc (.cells #[.string sn, .string sh, .string ss, .bool true] 60)).cell? ⟨wr.heap.size, 2, none⟩ = some (.string ss) := by simp
                  have q3 : (wr.alloc (.cells #[.string sn, .string sh, .string ss, .bool true] 60)).cell? ⟨wr.heap.size, 3, none⟩ = some (.bool true) := by simp
                  have r1 : (wr.alloc (.cells #[.string sn, .string sh, .string ss, .bool true] 60)).frozen? ⟨wr.heap.size, 1, none⟩ = false := by simp
                  have HCE := Lib.hid (tear_cells (F := F) HSN.out (tear_pre (k := 0) HSH.out HSS.out hx0 (by rw [hkp, hpp]; rfl) (by simp)))
                  have HOD : Hid (World.ownsRow (((wr.alloc (.cells #[.string sn, .string (sh.extract 0 ss.size), .string (sh.extract 0 ss.size), .bool true] 60)).alloc (.cells #[.string sn, .string (sh.extract 0 ss.size), .string (sh.extract 0 ss.size), .bool true] 60)).drew.drew) W0.heap.size 60 4 (.slice oa Q.length oc) Q.length (cellsF Q)) := own_same ((HO.out.alloc (.cells #[.string sn, .string (sh.extract 0 ss.size), .string (sh.extract 0 ss.size), .bool true] 60)).alloc (.cells #[.string sn, .string (sh.extract 0 ss.size), .string (sh.extract 0 ss.size), .bool true] 60)) (fun _ _ => rfl)
                  have HBD : Hid (Below W0.heap.size W0 (((wr.alloc (.cells #[.string sn, .string (sh.extract 0 ss.size), .string (sh.extract 0 ss.size), .bool true] 60)).alloc (.cells #[.string sn, .string (sh.extract 0 ss.size), .string (sh.extract 0 ss.size), .bool true] 60)).drew.drew)) := by
                    have b1 := (HB.out.alloc HB.out.size (.cells #[.string sn, .string (sh.extract 0 ss.size), .string (sh.extract 0 ss.size), .bool true] 60)).alloc (by have := HB.out.size; simp; omega) (.cells #[.string sn, .string (sh.extract 0 ss.size), .string (sh.extract 0 ss.size), .bool true] 60)
                    exact ⟨b1.os, b1.tape, b1.output, b1.size, b1.block⟩
                  have HNW : Hid (∀ y u, [Value.string sn, .string (sh.extract 0 ss.size), .string (sh.extract 0 ss.size), .bool true][y]? = some u → (((wr.alloc (.cells #[.string sn, .string (sh.extract 0 ss.size), .string (sh.extract 0 ss.size), .bool true] 60)).alloc (.cells #[.string sn, .string (sh.extract 0 ss.size), .string (sh.extract 0 ss.size), .bool true] 60)).drew.drew).cell? ((⟨wr.heap.size + 1, 0, none⟩ : Addr).add y) = some u) := World.news_of_block (w := ((wr.alloc (.cells #[.string sn, .string (sh.extract 0 ss.size), .string (sh.extract 0 ss.size), .bool true] 60)).alloc (.cells #[.string sn, .string (sh.extract 0 ss.size), .string (sh.extract 0 ss.size), .bool true] 60)).drew.drew) (news2 _ _ _)
                  go_wp2_with fail
                  go_region
                  go_wp2_with fail
                  go_region
                  go_wp2_with (at_builtin; refine wpList_append_own _ rfl (.tmp 114) (.tmp 116) 53 rfl W0.heap.size 60 i0 _ 4 56 Try.underlying53 hi0 hz0 hz1 hz2 rfl (by decide) (.slice oa Q.length oc) Q.length (cellsF Q) rfl HOD.out ⟨wr.heap.size + 1, 0, none⟩ 1 1 [.string sn, .string (sh.extract 0 ss.size), .string (sh.extract 0 ss.size), .bool true] rfl rfl HNW.out (one4 _ _ _ _) (by unfold maxLen; omega) (by omega) HBD.out.size ?_; intro v2 w2 hown2 hgr2 hnil2; clear hnil2; have HB2 : Hid (Below W0.heap.size W0 w2) := HBD.out.grown hgr2 HBD.out.size (fun k hk => (HO.out.lt k hk).1); have HO2 : Hid (w2.ownsRow W0.heap.size 60 4 v2 (Q.length + 1) (cellsF Q ++ [.string sn, .string (sh.extract 0 ss.size), .string (sh.extract 0 ss.size), .bool true])) := hown2; clear hown2 hgr2)
                  exact ⟨⟨j + 1, c + 1, Q ++ [tearF F _], by omega, by omega, by go_num, by go_num, HQ'.out, own_snoc HO2.out HCE.out, HB2⟩, by simp [intOf]; omega⟩
                | false =>
                  have hpe := HPF.out
                  rw [hpp] at hpe
                  have HQ' := Lib.hid (HQ.out.torn HJ.out.1 HJ.out.2 HNS.out HH.out (fun e => by have := e.2; rw [hkp] at this; cases this))
                  have q1 : (wr.alloc (.cells #[.string sn, .string sh, .string ss, .bool true] 60)).cell? ⟨wr.heap.size, 1, none⟩ = some (.string sh) := by simp
                  have q2 : (wr.alloc (.cells #[.string sn, .string sh, .string ss, .bool true] 60)).cell? ⟨wr.heap.size, 2, none⟩ = some (.string ss) := by simp
                  have q3 : (wr.alloc (.cells #[.string sn, .string sh, .string ss, .bool true] 60)).cell? ⟨wr.heap.size, 3, none⟩ = some (.bool true) := by simp
                  have r1 : (wr.alloc (.cells #[.string sn, .string sh, .string ss, .bool true] 60)).frozen? ⟨wr.heap.size, 1, none⟩ = false := by simp
                  have HCE := Lib.hid (tear_cells (F := F) HSN.out ((tear_zero (k := 0) HSH.out hx0 (by rw [hkp, hpp]; rfl) (by simp)).trans (ext0 sh)))
                  have HOD : Hid (World.ownsRow (((wr.alloc (.cells #[.string sn, .string ByteArray.empty, .string ByteArray.empty, .bool true] 60)).alloc (.cells #[.string sn, .string ByteArray.empty, .string ByteArray.empty, .bool true] 60)).drew.drew) W0.heap.size 60 4 (.slice oa Q.length oc) Q.length (cellsF Q)) := own_same ((HO.out.alloc (.cells #[.string sn, .string ByteArray.empty, .string ByteArray.empty, .bool true] 60)).alloc (.cells #[.string sn, .string ByteArray.empty, .string ByteArray.empty, .bool true] 60)) (fun _ _ => rfl)
                  have HBD : Hid (Below W0.heap.size W0 (((wr.alloc (.cells #[.string sn, .string ByteArray.empty, .string ByteArray.empty, .bool true] 60)).alloc (.cells #[.string sn, .string ByteArray.empty, .string ByteArray.empty, .bool true] 60)).drew.drew)) := by
                    have b1 := (HB.out.alloc HB.out.size (.cells #[.string sn, .string ByteArray.empty, .string ByteArray.empty, .bool true] 60)).alloc (by have := HB.out.size; simp; omega) (.cells #[.string sn, .string ByteArray.empty, .string ByteArray.empty, .bool true] 60)
                    exact ⟨b1.os, b1.tape, b1.output, b1.size, b1.block⟩
                  have HNW : Hid (∀ y u, [Value.string sn, .string ByteArray.empty, .string ByteArray.empty, .bool true][y]? = some u → (((wr.alloc (.cells #[.string sn, .string ByteArray.empty, .string ByteArray.empty, .bool true] 60)).alloc (.cells #[.string sn, .string ByteArray.empty, .string ByteArray.empty, .bool true] 60)).drew.drew).cell? ((⟨wr.heap.size + 1, 0, none⟩ : Addr).add y) = some u) := World.news_of_block (w := ((wr.alloc (.cells #[.string sn, .string ByteArray.empty, .string ByteArray.empty, .bool true] 60)).alloc (.cells #[.string sn, .string ByteArray.empty, .string ByteArray.empty, .bool true] 60)).drew.drew) (news2 _ _ _)
                  go_wp2_with fail
                  go_region
                  go_wp2_with fail
                  go_region
                  go_wp2_with (at_builtin; refine wpList_append_own _ rfl (.tmp 114) (.tmp 116) 53 rfl W0.heap.size 60 i0 _ 4 56 Try.underlying53 hi0 hz0 hz1 hz2 rfl (by decide) (.slice oa Q.length oc) Q.length (cellsF Q) rfl HOD.out ⟨wr.heap.size + 1, 0, none⟩ 1 1 [.string sn, .string ByteArray.empty, .string ByteArray.empty, .bool true] rfl rfl HNW.out (one4 _ _ _ _) (by unfold maxLen; omega) (by omega) HBD.out.size ?_; intro v2 w2 hown2 hgr2 hnil2; clear hnil2; have HB2 : Hid (Below W0.heap.size W0 w2) := HBD.out.grown hgr2 HBD.out.size (fun k hk => (HO.out.lt k hk).1); have HO2 : Hid (w2.ownsRow W0.heap.size 60 4 v2 (Q.length + 1) (cellsF Q ++ [.string sn, .string ByteArray.empty, .string ByteArray.empty, .bool true])) := hown2; clear hown2 hgr2)
                  exact ⟨⟨j + 1, c + 1, Q ++ [tearF F _], by omega, by omega, by go_num, by go_num, HQ'.out, own_snoc HO2.out HCE.out, HB2⟩, by simp [intOf]; omega⟩
              · have hle' : ¬ (ss.size : Int) ≤ sh.size := by omega
                have hpp : F.safe.isPrefixOf F.has = false := pre_len F (by rw [← HSZ.out.1, ← HSZ.out.2]; exact hle)
                have HQ' := Lib.hid (HQ.out.torn HJ.out.1 HJ.out.2 HNS.out HH.out (fun e => by have := e.2; rw [hkp] at this; cases this))
                have q1 : (wr.alloc (.cells #[.string sn, .string sh, .string ss, .bool true] 60)).cell? ⟨wr.heap.size, 1, none⟩ = some (.string sh) := by simp
                have q2 : (wr.alloc (.cells #[.string sn, .string sh, .string ss, .bool true] 60)).cell? ⟨wr.heap.size, 2, none⟩ = some (.string ss) := by simp
                have q3 : (wr.alloc (.cells #[.string sn, .string sh, .string ss, .bool true] 60)).cell? ⟨wr.heap.size, 3, none⟩ = some (.bool true) := by simp
                have r1 : (wr.alloc (.cells #[.string sn, .string sh, .string ss, .bool true] 60)).frozen? ⟨wr.heap.size, 1, none⟩ = false := by simp
                have HCE := Lib.hid (tear_cells (F := F) HSN.out ((tear_zero (k := 0) HSH.out hx0 (by rw [hkp, hpp]; rfl) (by simp)).trans (ext0 sh)))
                have HOD : Hid (World.ownsRow (((wr.alloc (.cells #[.string sn, .string ByteArray.empty, .string ByteArray.empty, .bool true] 60)).alloc (.cells #[.string sn, .string ByteArray.empty, .string ByteArray.empty, .bool true] 60)).drew.drew) W0.heap.size 60 4 (.slice oa Q.length oc) Q.length (cellsF Q)) := own_same ((HO.out.alloc (.cells #[.string sn, .string ByteArray.empty, .string ByteArray.empty, .bool true] 60)).alloc (.cells #[.string sn, .string ByteArray.empty, .string ByteArray.empty, .bool true] 60)) (fun _ _ => rfl)
                have HBD : Hid (Below W0.heap.size W0 (((wr.alloc (.cells #[.string sn, .string ByteArray.empty, .string ByteArray.empty, .bool true] 60)).alloc (.cells #[.string sn, .string ByteArray.empty, .string ByteArray.empty, .bool true] 60)).drew.drew)) := by
                  have b1 := (HB.out.alloc HB.out.size (.cells #[.string sn, .string ByteArray.empty, .string ByteArray.empty, .bool true] 60)).alloc (by have := HB.out.size; simp; omega) (.cells #[.string sn, .string ByteArray.empty, .string ByteArray.empty, .bool true] 60)
                  exact ⟨b1.os, b1.tape, b1.output, b1.size, b1.block⟩
                have HNW : Hid (∀ y u, [Value.string sn, .string ByteArray.empty, .string ByteArray.empty, .bool true][y]? = some u → (((wr.alloc (.cells #[.string sn, .string ByteArray.empty, .string ByteArray.empty, .bool true] 60)).alloc (.cells #[.string sn, .string ByteArray.empty, .string ByteArray.empty, .bool true] 60)).drew.drew).cell? ((⟨wr.heap.size + 1, 0, none⟩ : Addr).add y) = some u) := World.news_of_block (w := ((wr.alloc (.cells #[.string sn, .string ByteArray.empty, .string ByteArray.empty, .bool true] 60)).alloc (.cells #[.string sn, .string ByteArray.empty, .string ByteArray.empty, .bool true] 60)).drew.drew) (news2 _ _ _)
                go_wp2_with fail
                go_region
                go_wp2_with fail
                go_region
                go_wp2_with (at_builtin; refine wpList_append_own _ rfl (.tmp 114) (.tmp 116) 53 rfl W0.heap.size 60 i0 _ 4 56 Try.underlying53 hi0 hz0 hz1 hz2 rfl (by decide) (.slice oa Q.length oc) Q.length (cellsF Q) rfl HOD.out ⟨wr.heap.size + 1, 0, none⟩ 1 1 [.string sn, .string ByteArray.empty, .string ByteArray.empty, .bool true] rfl rfl HNW.out (one4 _ _ _ _) (by unfold maxLen; omega) (by omega) HBD.out.size ?_; intro v2 w2 hown2 hgr2 hnil2; clear hnil2; have HB2 : Hid (Below W0.heap.size W0 w2) := HBD.out.grown hgr2 HBD.out.size (fun k hk => (HO.out.lt k hk).1); have HO2 : Hid (w2.ownsRow W0.heap.size 60 4 v2 (Q.length + 1) (cellsF Q ++ [.string sn, .string ByteArray.empty, .string ByteArray.empty, .bool true])) := hown2; clear hown2 hgr2)
                exact ⟨⟨j + 1, c + 1, Q ++ [tearF F _], by omega, by omega, by go_num, by go_num, HQ'.out, own_snoc HO2.out HCE.out, HB2⟩, by simp [intOf]; omega⟩
        | false =>
          rw [hkp] at p3
          have HNS : Hid (isSafe F = false) := by show _ = _; unfold isSafe; rw [hkp]; rfl
          by_cases hcX : c < X
          · have hcx : c < xs.length := by rw [HX.out]; exact hcX
            obtain ⟨b, o, ea, hb, hbD, hbc⟩ := HI.out (by omega)
            subst ea
            have hcX' : (c : Int) < X := by omega
            have hb1 : Hid (Below W0.heap.size W0 (wr.alloc (.cells #[.string sn, .string sh, .string ss, .bool false] 60))) := HB.out.alloc HB.out.size _
            have z0 := (hb1.out.cell (p := ⟨b, o + c, none⟩) hb).trans (hbc c hcx)
            have HH := Lib.hid (hd_in hcx)
            have hbx := HL.out _ (List.getElem_mem hcx)
            obtain ⟨x, HXX⟩ := named (xs[c]'hcx)
            rw [HXX.out] at z0 HH hbx
            clear hbc hbD hb
            by_cases hx0 : x < 0
            · have HQ' := Lib.hid (HQ.out.gone HJ.out.1 HJ.out.2 HNS.out HH.out hx0 hkp)
              have ho1 := Lib.hid (HO.out.alloc (.cells #[.string sn, .string sh, .string ss, .bool false] 60))
              go_wp2_with fail
              exact ⟨⟨j + 1, c + 1, Q, by omega, by omega, by go_num, by go_num, HQ'.out, ho1, hb1⟩, by simp [intOf]; omega⟩
            · have HQ' := Lib.hid (HQ.out.torn HJ.out.1 HJ.out.2 HNS.out HH.out (fun e => hx0 e.1))
              obtain ⟨k, HK⟩ := named (x.toNat % (sh.size + 1))
              have hk : k ≤ sh.size := by
                have := Nat.mod_lt x.toNat (show 0 < sh.size + 1 by omega)
                rw [HK.out] at this
                omega
              have hxk : x % ((sh.size : Int) + 1) = k := by
                rw [← HK.out, Int.natCast_emod]
                congr 1
                omega
              have hwr : wrap64 (x % ((sh.size : Int) + 1)) = k := by rw [hxk]; exact w64n k (by omega)
              have q1 : (wr.alloc (.cells #[.string sn, .string sh, .string ss, .bool false] 60)).cell? ⟨wr.heap.size, 1, none⟩ = some (.string sh) := by simp
              have q2 : (wr.alloc (.cells #[.string sn, .string sh, .string ss, .bool false] 60)).cell? ⟨wr.heap.size, 2, none⟩ = some (.string ss) := by simp
              have q3 : (wr.alloc (.cells #[.string sn, .string sh, .string ss, .bool false] 60)).cell? ⟨wr.heap.size, 3, none⟩ = some (.bool false) := by simp
              have r1 : (wr.alloc (.cells #[.string sn, .string sh, .string ss, .bool false] 60)).frozen? ⟨wr.heap.size, 1, none⟩ = false := by simp
              have HCE := Lib.hid (tear_cells (F := F) HSN.out (tear_zero HSH.out hx0 (by rw [hkp]; rfl) HK.out))
              have HOD : Hid (World.ownsRow (((wr.alloc (.cells #[.string sn, .string (sh.extract 0 k), .string (sh.extract 0 k), .bool true] 60)).alloc (.cells #[.string sn, .string (sh.extract 0 k), .string (sh.extract 0 k), .bool true] 60)).drew.drew) W0.heap.size 60 4 (.slice oa Q.length oc) Q.length (cellsF Q)) := own_same ((HO.out.alloc (.cells #[.string sn, .string (sh.extract 0 k), .string (sh.extract 0 k), .bool true] 60)).alloc (.cells #[.string sn, .string (sh.extract 0 k), .string (sh.extract 0 k), .bool true] 60)) (fun _ _ => rfl)
              have HBD : Hid (Below W0.heap.size W0 (((wr.alloc (.cells #[.string sn, .string (sh.extract 0 k), .string (sh.extract 0 k), .bool true] 60)).alloc (.cells #[.string sn, .string (sh.extract 0 k), .string (sh.extract 0 k), .bool true] 60)).drew.drew)) := by
                have b1 := (HB.out.alloc HB.out.size (.cells #[.string sn, .string (sh.extract 0 k), .string (sh.extract 0 k), .bool true] 60)).alloc (by have := HB.out.size; simp; omega) (.cells #[.string sn, .string (sh.extract 0 k), .string (sh.extract 0 k), .bool true] 60)
                exact ⟨b1.os, b1.tape, b1.output, b1.size, b1.block⟩
              have HNW : Hid (∀ y u, [Value.string sn, .string (sh.extract 0 k), .string (sh.extract 0 k), .bool true][y]? = some u → (((wr.alloc (.cells #[.string sn, .string (sh.extract 0 k), .string (sh.extract 0 k), .bool true] 60)).alloc (.cells #[.string sn, .string (sh.extract 0 k), .string (sh.extract 0 k), .bool true] 60)).drew.drew).cell? ((⟨wr.heap.size + 1, 0, none⟩ : Addr).add y) = some u) := World.news_of_block (w := ((wr.alloc (.cells #[.string sn, .string (sh.extract 0 k), .string (sh.extract 0 k), .bool true] 60)).alloc (.cells #[.string sn, .string (sh.extract 0 k), .string (sh.extract 0 k), .bool true] 60)).drew.drew) (news2 _ _ _)
              go_wp2_with fail
              go_region
              go_wp2_with fail
              go_region
              go_wp2_with (at_builtin; refine wpList_append_own _ rfl (.tmp 114) (.tmp 116) 53 rfl W0.heap.size 60 i0 _ 4 56 Try.underlying53 hi0 hz0 hz1 hz2 rfl (by decide) (.slice oa Q.length oc) Q.length (cellsF Q) rfl HOD.out ⟨wr.heap.size + 1, 0, none⟩ 1 1 [.string sn, .string (sh.extract 0 k), .string (sh.extract 0 k), .bool true] rfl rfl HNW.out (one4 _ _ _ _) (by unfold maxLen; omega) (by omega) HBD.out.size ?_; intro v2 w2 hown2 hgr2 hnil2; clear hnil2; have HB2 : Hid (Below W0.heap.size W0 w2) := HBD.out.grown hgr2 HBD.out.size (fun k hk => (HO.out.lt k hk).1); have HO2 : Hid (w2.ownsRow W0.heap.size 60 4 v2 (Q.length + 1) (cellsF Q ++ [.string sn, .string (sh.extract 0 k), .string (sh.extract 0 k), .bool true])) := hown2; clear hown2 hgr2)
              exact ⟨⟨j + 1, c + 1, Q ++ [tearF F _], by omega, by omega, by go_num, by go_num, HQ'.out, own_snoc HO2.out HCE.out, HB2⟩, by simp [intOf]; omega⟩
          · have HH := Lib.hid (hd_out (xs := xs) (c := c) (by rw [HX.out]; omega))
            have hcX' : ¬ (c : Int) < X := by omega
            have hx0 : ¬ (0 : Int) < 0 := by omega
            have HQ' := Lib.hid (HQ.out.torn HJ.out.1 HJ.out.2 HNS.out HH.out (fun e => hx0 e.1))
            have q1 : (wr.alloc (.cells #[.string sn, .string sh, .string ss, .bool false] 60)).cell? ⟨wr.heap.size, 1, none⟩ = some (.string sh) := by simp
            have q2 : (wr.alloc (.cells #[.string sn, .string sh, .string ss, .bool false] 60)).cell? ⟨wr.heap.size, 2, none⟩ = some (.string ss) := by simp
            have q3 : (wr.alloc (.cells #[.string sn, .string sh, .string ss, .bool false] 60)).cell? ⟨wr.heap.size, 3, none⟩ = some (.bool false) := by simp
            have r1 : (wr.alloc (.cells #[.string sn, .string sh, .string ss, .bool false] 60)).frozen? ⟨wr.heap.size, 1, none⟩ = false := by simp
            have HCE := Lib.hid (tear_cells (F := F) HSN.out ((tear_zero (k := 0) HSH.out hx0 (by rw [hkp]; rfl) (by simp)).trans (ext0 sh)))
            have HOD : Hid (World.ownsRow (((wr.alloc (.cells #[.string sn, .string ByteArray.empty, .string ByteArray.empty, .bool true] 60)).alloc (.cells #[.string sn, .string ByteArray.empty, .string ByteArray.empty, .bool true] 60)).drew.drew) W0.heap.size 60 4 (.slice oa Q.length oc) Q.length (cellsF Q)) := own_same ((HO.out.alloc (.cells #[.string sn, .string ByteArray.empty, .string ByteArray.empty, .bool true] 60)).alloc (.cells #[.string sn, .string ByteArray.empty, .string ByteArray.empty, .bool true] 60)) (fun _ _ => rfl)
            have HBD : Hid (Below W0.heap.size W0 (((wr.alloc (.cells #[.string sn, .string ByteArray.empty, .string ByteArray.empty, .bool true] 60)).alloc (.cells #[.string sn, .string ByteArray.empty, .string ByteArray.empty, .bool true] 60)).drew.drew)) := by
              have b1 := (HB.out.alloc HB.out.size (.cells #[.string sn, .string ByteArray.empty, .string ByteArray.empty, .bool true] 60)).alloc (by have := HB.out.size; simp; omega) (.cells #[.string sn, .string ByteArray.empty, .string ByteArray.empty, .bool true] 60)
              exact ⟨b1.os, b1.tape, b1.output, b1.size, b1.block⟩
            have HNW : Hid (∀ y u, [Value.string sn, .string ByteArray.empty, .string ByteArray.empty, .bool true][y]? = some u → (((wr.alloc (.cells #[.string sn, .string ByteArray.empty, .string ByteArray.empty, .bool true] 60)).alloc (.cells #[.string sn, .string ByteArray.empty, .string ByteArray.empty, .bool true] 60)).drew.drew).cell? ((⟨wr.heap.size + 1, 0, none⟩ : Addr).add y) = some u) := World.news_of_block (w := ((wr.alloc (.cells #[.string sn, .string ByteArray.empty, .string ByteArray.empty, .bool true] 60)).alloc (.cells #[.string sn, .string ByteArray.empty, .string ByteArray.empty, .bool true] 60)).drew.drew) (news2 _ _ _)
            go_wp2_with fail
            go_region
            go_wp2_with fail
            go_region
            go_wp2_with (at_builtin; refine wpList_append_own _ rfl (.tmp 114) (.tmp 116) 53 rfl W0.heap.size 60 i0 _ 4 56 Try.underlying53 hi0 hz0 hz1 hz2 rfl (by decide) (.slice oa Q.length oc) Q.length (cellsF Q) rfl HOD.out ⟨wr.heap.size + 1, 0, none⟩ 1 1 [.string sn, .string ByteArray.empty, .string ByteArray.empty, .bool true] rfl rfl HNW.out (one4 _ _ _ _) (by unfold maxLen; omega) (by omega) HBD.out.size ?_; intro v2 w2 hown2 hgr2 hnil2; clear hnil2; have HB2 : Hid (Below W0.heap.size W0 w2) := HBD.out.grown hgr2 HBD.out.size (fun k hk => (HO.out.lt k hk).1); have HO2 : Hid (w2.ownsRow W0.heap.size 60 4 v2 (Q.length + 1) (cellsF Q ++ [.string sn, .string ByteArray.empty, .string ByteArray.empty, .bool true])) := hown2; clear hown2 hgr2)
            exact ⟨⟨j + 1, c + 1, Q ++ [tearF F _], by omega, by omega, by go_num, by go_num, HQ'.out, own_snoc HO2.out HCE.out, HB2⟩, by simp [intOf]; omega⟩
      · go_wp2_with fail
        go_ret
        have ej : S.fs.drop j = [] := List.drop_of_length_le (by have := HN.out; omega)
        have hq := HQ.out.1
        rw [ej, crL, List.append_nil] at hq
        refine ⟨rfl, RTo.after ?_ (fun _ hk => Or.inl hk) HFr.out⟩
        exact HP.out.newv (S' := ⟨crL S.fs xs, false, -1⟩) HB.out (by show World.ownsRow _ _ _ _ _ (crL S.fs xs).length (cellsF (crL S.fs xs)); rw [hq]; exact HO.out) rfl rfl
end
end Go.Proofs.Ytlbkmhlpgpfafaa
