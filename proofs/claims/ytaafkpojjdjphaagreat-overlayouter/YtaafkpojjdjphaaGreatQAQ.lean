import Derived.Test.YtaafkpojjdjphaaGreatQAP
open Go.Lib (hid)
namespace Go.Proofs.YtaafkpojjdjphaaGreat
open Go.RowKit
set_option maxRecDepth 100000 in
set_option maxHeartbeats 3200000 in
theorem families_any (ya : Option Addr) (Y : List Int) (yc : Nat) (xa : Option Addr) (X : List Int) (xc : Nat) (w : World) (htY : tdy Y 0 = true) (htX : tdy X 0 = true) (hXY : X.length = Y.length) (hn : 0 < Y.length) (h8 : Y.length ≤ 1024) (hiY : Ints w ya Y) (hiX : Ints w xa X) :
  Calls Tryz.prog 160 #[.slice ya Y.length yc, .slice xa X.length xc] w fun e w' => ∃ g rv, e = .returned (.slice (some ⟨g, 0, none⟩) (szL Y).length (szL Y).length) ∧ TR 25 3 1 w' w.heap.size g (szL Y).length rv (fun q => (chL X Y (q : Nat)).length) (fun q => cellsI (ints (chL X Y (q : Nat)))) ∧ Below w.heap.size w w' := by
 have HMC := hid (manyCells_any ya Y yc w htY hn h8 hiY)
 have HRL : Hid (∀ u, u < Y.length → ∃ y : Nat, Y.getD u 0 = y ∧ y < (szL Y).length) := fun u hu => right_lt htY hu
 have hc8 := szL_length Y
 obtain ⟨cn, HCN⟩ := named (szL Y).length
 rw [HCN.out] at HMC HRL hc8
 rw [HCN.out]
 obtain ⟨i25, hi25, hz25, hs25, hby25⟩ := info_parts info25
 obtain ⟨i3, hi3, hz3, hs3, hby3⟩ := info_parts info3
 have hmk : ∀ w, (Instr.makeSlice 26 (.int .i64 cn) (.int .i64 cn)).run Tryz.prog w = .ok (.slice (some ⟨w.heap.size, 0, none⟩) cn cn) (w.alloc (.cells ((List.range cn).map (fun _ => Value.slice none 0 0)).toArray 25)) := fun w => by
  have := run_make (P := Tryz.prog) w 26 25 i25 (.slice none 0 0) Tryz.underlying26 hi25 hz25 .i64 .i64 cn cn (by omega) (by omega) (by rw [hby25]; omega) (by omega)
  rw [hs25] at this
  rw [this, Int.toNat_natCast, made_sl]
 have HT0 := hid (TR.new (ty := 25) (e := 3) (sz := 1) (by decide) w cn)
 have HB0 : Hid (Below w.heap.size w (w.alloc (.cells ((List.range cn).map (fun _ => Value.slice none 0 0)).toArray 25))) := (Below.refl _ _).alloc (Nat.le_refl _) _
 obtain ⟨iy, oy, hiy⟩ := hiY.get
 obtain ⟨rfl, hyl, hyat⟩ := hiy hn
 obtain ⟨ix, ox, hix⟩ := hiX.get
 obtain ⟨rfl, hxl, hxat⟩ := hix (by omega)
 have HYA := hid hyat
 have HXA := hid hxat
 clear hiY hiX hiy hix hyat hxat
 obtain ⟨L, HL⟩ := named (lsL X 0 [])
 have HCH : Hid (∀ q : Int, chL X Y q = chT Y L q L.length) := fun q => by show chL X Y q = _; rw [← HL.out]; rfl
 generalize hp : w.heap.size = p at *
 go_enter Tryz.func160, Tryz.ntmps160
 go_wp2_with fail
 refine HMC.out.mono ?_
 rintro e w1 ⟨rfl, rfl⟩
 go_wp2_with fail
 generalize w1.alloc (.cells ((List.range cn).map (fun _ => Value.slice none 0 0)).toArray 25) = w2 at *
 clear hmk HMC
 go_loopw [6, 14] (fun mt i wr => ∃ (k : Nat) (S : List Nat) (rv : Nat → Value), k ≤ X.length ∧ i = .int .i64 k ∧ mt = .int .i64 S.length ∧ Hid (LsP X k S) ∧ Hid (TR 25 3 1 wr p p cn rv (fun q => (chT Y L (q : Nat) S.length).length) (fun q => cellsI (ints (chT Y L (q : Nat) S.length)))) ∧ Hid (Below p w1 wr)) (fun _ i _ => X.length - (intOf i).toNat)
 case atStart => exact ⟨0, [], fun _ => .slice none 0 0, Nat.zero_le _, rfl, rfl, fam_zero X, HT0.out, HB0⟩
 case round =>
  clear HT0 HB0
  obtain ⟨k, S, rv, hk, rfl, rfl, HLS, HT, HBR⟩ := hrel
  by_cases hlk : k < X.length
  ·have hlk' : (k : Int) < X.length := by omega
   have y0 := (HBR.out.cell (p := ⟨ix, ox + k, none⟩) (by show ix < _; omega)).trans (HXA.out k hlk)
   by_cases hx : X.getD k 0 = S.length
   ·rw [hx] at y0
    have hld := fam_lead htX hlk HLS.out hx
    rw [HL.out] at hld
    have HLD := hid hld.1
    have hSl := hld.2
    have HLN := hid (fam_new htX hlk HLS.out hx)
    obtain ⟨q, hq, hqc⟩ := HRL.out k (by omega)
    have y1 := (HBR.out.cell (p := ⟨iy, oy + k, none⟩) (by show iy < _; omega)).trans (HYA.out k (by omega))
    rw [hq] at y1
    have HQ : Hid (Y.getD (L.getD S.length 0) 0 = q) := by show _ = _; rw [HLD.out, hq]
    have hSX : S.length ≤ X.length := by
     have h1 := fam_end htX (ls_right htX)
     have h2 := szL_length X
     rw [← ls_len htX, HL.out] at h2
     omega
    obtain ⟨m, HM⟩ := named S.length
    have HLN2 : Hid ((S ++ [k]).length = m + 1) := by show _ = _; rw [List.length_append, HM.out]; rfl
    rw [HM.out] at y0 HT HQ hSX
    rw [HM.out]
    clear hld hSl hx
    have hqi : (q : Int) < cn := by omega
    have hmm : ((m : Int) == (m : Int)) = true := by simp
    have d0 := HT.out.tb.cell hqc
    have hgl := HT.out.tb.lt
    have HKG := hid (HT.out.kg hqc)
    have hln : (chT Y L (q : Nat) m).length ≤ 1024 := by
     have : (chT Y L (q : Nat) m).length ≤ m := by
      unfold chT
      refine Nat.le_trans (List.length_filter_le _ _) ?_
      rw [List.length_range]
      exact Nat.le_refl _
     omega
    obtain ⟨rq, HRV⟩ := named (rv q)
    rw [HRV.out] at d0 HKG
    have hb1 : Below wr.heap.size wr ((wr.drew).alloc (.cells #[.int .i64 (m : Nat)] 3)) := (show Below wr.heap.size wr wr.drew from ⟨rfl, rfl, rfl, Nat.le_refl _, fun _ _ => rfl⟩).alloc (Nat.le_refl _) _
    have HB1 := hid hb1
    have HO1 := hid (own_on (HT.out.ro q hqc) hb1)
    have HNW : Hid (∀ (j : Nat) (z : Value), [Value.int .i64 (m : Nat)][j]? = some z → ((wr.drew).alloc (.cells #[.int .i64 (m : Nat)] 3)).cell? ((⟨wr.heap.size, 0, none⟩ : Addr).add j) = some z) := World.news_of_block (cs := #[.int .i64 (m : Nat)]) (t := 3) (fr := (0, 0)) (heap_top wr.drew _)
    have HSZ : Hid (((wr.drew).alloc (.cells #[.int .i64 (m : Nat)] 3)).heap.size = wr.heap.size + 1) := World.size_alloc _ _
    have hpw : p ≤ wr.heap.size := by have := HBR.out.size; omega
    have HBZ : Hid (p ≤ ((wr.drew).alloc (.cells #[.int .i64 (m : Nat)] 3)).heap.size) := by show _ ≤ _; rw [HSZ.out]; omega
    have HD0 : Hid (((wr.drew).alloc (.cells #[.int .i64 (m : Nat)] 3)).cell? ⟨p, q, none⟩ = some rq) := (hb1.cell (p := ⟨p, q, none⟩) hgl).trans d0
    have HTA : Hid (TbV ((wr.drew).alloc (.cells #[.int .i64 (m : Nat)] 3)) p cn 25 rv) := HT.out.tb.same (hb1.block p hgl)
    rw [HRV.out] at HO1
    obtain ⟨ln, HLEN⟩ := named (chT Y L (q : Nat) m).length
    rw [HLEN.out] at HO1 hln
    obtain ⟨CS, HCS⟩ := named (cellsI (ints (chT Y L (q : Nat) m)))
    rw [HCS.out] at HO1
    have HGL : Hid (p < ((wr.drew).alloc (.cells #[.int .i64 (m : Nat)] 3)).heap.size) := Nat.lt_of_lt_of_le hgl hb1.size
    have z1 : (wr.alloc (.cells #[.int .i64 (m : Nat)] 3)).cell? ⟨iy, oy + k, none⟩ = some (.int .i64 q) := (((Below.refl wr.heap.size wr).alloc (Nat.le_refl _) (.cells #[.int .i64 (m : Nat)] 3)).cell (p := ⟨iy, oy + k, none⟩) (by show iy < _; omega)).trans y1
    have z2 : (wr.alloc (.cells #[.int .i64 (m : Nat)] 3)).cell? ⟨p, q, none⟩ = some rq := (((Below.refl wr.heap.size wr).alloc (Nat.le_refl _) (.cells #[.int .i64 (m : Nat)] 3)).cell (p := ⟨p, q, none⟩) hgl).trans d0
    have HIY : Hid (((wr.drew).alloc (.cells #[.int .i64 (m : Nat)] 3)).cell? ⟨iy, oy + k, none⟩ = some (.int .i64 q)) := z1
    have HIL : Hid (iy < ((wr.drew).alloc (.cells #[.int .i64 (m : Nat)] 3)).heap.size) := by show iy < _; rw [HSZ.out]; omega
    have HIN : Hid (some iy ≠ rq.ownBlock) := fun e => by have := own_lt HO1.out e.symm; omega
    clear hb1
    go_wp2_with fail
    go_region_law (refine step_append_lies _ rfl (.tmp 33) (.tmp 35) 25 rfl p 3 i3 _ 1 8 Tryz.underlying25 hi3 hz3 hs3 hby3 rfl (by decide) rq ln CS (by simp [Act.eval]) HO1.out ⟨wr.heap.size, 0, none⟩ 1 1 [.int .i64 (m : Nat)] (by simp [Act.eval]) rfl HNW.out (by intro u hu; simp at hu; rcases hu with rfl; rfl) (by decide) (by unfold maxLen; omega) (by omega) HBZ.out (wr.heap.size + 1) HSZ.out ?_; intro gg cap' w7 hown7 hgrow7 hat7 hlt7; have f0 := (hgrow7.cell_far ⟨p, q, none⟩ HGL.out (fun e => HKG.out e.symm)).trans HD0.out; have f1 := TbV.free (TbV.same HTA.out (hgrow7.block p HGL.out (fun e => HKG.out e.symm))) q; have f2 := (hgrow7.cell_far ⟨iy, oy + k, none⟩ HIL.out HIN.out).trans HIY.out; have HG7 := hid hgrow7; have HW7 := hid hown7; have HA7 := hid hat7; clear hown7 hgrow7 hat7 hlt7)
    all_goals
     rw [← HRV.out] at HG7 HA7
     have hfin := HT.out.put hqc HB1.out HG7.out HW7.out (HA7.out.imp id (fun h => by omega))
     have HFB := hid (HBR.out.trans (HT.out.below hfin.2 hpw))
     have HFT := hid hfin.1
     clear hfin
     go_wp2_with fail
     refine ⟨⟨k + 1, S ++ [k], updV rv q (.slice (some ⟨gg, 0, none⟩) (ln + 1) cap'), by omega, by simp, ?_, HLN, ?_, HFB⟩, by simp [intOf]; omega⟩
     ·rw [HLN2.out]; simp
     ·show TR _ _ _ _ _ _ _ _ _ _
      rw [HLN2.out]
      refine HFT.out.congr (fun v hv => ?_) (fun v hv => ?_)
      ·by_cases e : v = q
       ·subst e
        rw [if_pos rfl, chT_t HQ.out, List.length_append, HLEN.out]
        rfl
       ·rw [if_neg e, chT_f (by rw [HQ.out]; omega)]
      ·by_cases e : v = q
       ·subst e
        rw [if_pos rfl, chT_t HQ.out, ← HCS.out]
        simp [cellsI, ints]
       ·rw [if_neg e, chT_f (by rw [HQ.out]; omega)]
   ·have HLN := hid (fam_old htX hlk HLS.out hx)
    obtain ⟨x, HX⟩ := named (X.getD k 0)
    rw [HX.out] at y0 hx
    have hxe : (x == (S.length : Int)) = false := by simp; exact hx
    clear hx
    go_wp2_with fail
    exact ⟨⟨k + 1, S, rv, by omega, by simp, rfl, HLN, HT, HBR⟩, by simp [intOf]; omega⟩
  ·have hlk' : ¬ (k : Int) < X.length := by omega
   obtain rfl : k = X.length := by omega
   have hSe := fam_end htX HLS.out
   rw [HL.out] at hSe
   rw [hSe] at HT
   have HFIN : Hid (TR 25 3 1 wr p p cn rv (fun q => (chL X Y (q : Nat)).length) (fun q => cellsI (ints (chL X Y (q : Nat))))) := HT.out.congr (fun v _ => by rw [HCH.out]) (fun v _ => by rw [HCH.out])
   clear hSe
   go_wp2_with fail
   go_ret
   first | exact ⟨p, rv, rfl, HFIN.out, HBR.out⟩ | exact ⟨p, rfl, ⟨rv, HFIN.out⟩, HBR.out⟩
end Go.Proofs.YtaafkpojjdjphaaGreat
