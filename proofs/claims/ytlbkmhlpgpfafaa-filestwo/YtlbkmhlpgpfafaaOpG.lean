/-
  Contract of (*Disk).Crash: the walk.
-/
import Derived.Test.YtlbkmhlpgpfafaaOpF
namespace Go.Proofs.Ytlbkmhlpgpfafaa
open Go.RowKit Go.Maps Go.Joins
section
variable {w : World} {d : Nat} {ow : Nat → Option Nat} {S : PS}
theorem Cr.file {W : World} {P : List PF} {xs : List Int} {j : Nat} {ow' : Nat → Option Nat} {ds : List PF} {ys : List Int} {a : Option Addr} (h : Cr w d ow W P xs j ow' ds ys a) (hj : j < P.length) :
    ∃ mb L f, DP W d ow' mb L false 0 ⟨ds ++ P[j] :: P.drop (j + 1), false, -1⟩ ∧ f ∈ L ∧ f.pf = P[j] ∧ fndK fk (P[j]).nm L = some f := by
  obtain ⟨mb, L, hd⟩ := h.dp
  rw [List.drop_eq_getElem_cons hj] at hd
  have hm : P[j] ∈ L.map Fl.pf := by
    rw [← hd.fs]
    exact List.mem_append.2 (Or.inr (List.mem_cons.2 (Or.inl rfl)))
  obtain ⟨f, hf, e⟩ := List.mem_map.1 hm
  refine ⟨mb, L, f, hd, hf, e, ?_⟩
  have := fndK_mem hd.dm.srt hf
  rw [← e]
  exact this
section
variable {W W5 : World} {P : List PF} {xs : List Int} {j : Nat} {ow' : Nat → Option Nat} {ds : List PF} {ys : List Int} {a a' : Option Addr} {mb : Option Nat} {L : List Fl}
theorem Cr.safe (h : Cr w d ow W P xs j ow' ds ys a) (hj : j < P.length) (hb : Below W.heap.size W W5) (hd : DP W d ow' mb L false 0 ⟨ds ++ P[j] :: P.drop (j + 1), false, -1⟩) (hs : isSafe P[j] = true) : Cr w d ow W5 P xs (j + 1) ow' (ds ++ [P[j]]) ys a := by
  refine h.step hj ⟨mb, L, ?_⟩ ?_ (fun _ _ => rfl) (Fr.of hb) h.ints
  · have := hd.on hb
    rw [List.append_assoc]
    exact this
  · rw [List.append_assoc]
    simp [crL, hs]
theorem Cr.torn (h : Cr w d ow W P xs j ow' ds ys a) (hj : j < P.length) (hb : Below W.heap.size W W5) (hd : DP W d ow' mb L false 0 ⟨ds ++ P[j] :: P.drop (j + 1), false, -1⟩) {f : Fl} (hf : f ∈ L) (hfp : f.pf = P[j]) (x : Int) (hs : isSafe P[j] = false) (hx : ys.headD 0 = x) (hn : ¬ (x < 0 ∧ (P[j]).kept = false))
    {W6 : World} {hv' : Value} {g' : Nat} (hc : FC W6 f.blk hv' hv' g' (some g') (tearF f.pf x)) (hg : W5.heap.size ≤ g') (fr : Fr (fun k => k = f.blk) W5 W6) (hi : Ints W ow' a' ys.tail) :
    ∃ ow'', Cr w d ow W6 P xs (j + 1) ow'' (ds ++ [tearF P[j] x]) ys.tail a' ∧ (∀ k, k < W5.heap.size → ow'' k = ow' k) ∧ Fr (Ow ow') W W6 := by
  obtain ⟨ow'', h6, ho, hf6⟩ := (hd.on hb).tear hf x hc hg fr
  have hfr := (Fr.of (D := Ow ow') hb).then hf6
  refine ⟨ow'', h.step hj ⟨mb, setK fk f.pf.nm (fun y => ⟨tearF y.pf x, y.blk⟩) L, ?_⟩ ?_ (fun k hk => ho k (Nat.lt_of_lt_of_le hk hb.size)) hfr hi, ho, hfr⟩
  · have e : setK PF.nm f.pf.nm (fun p => tearF p x) (ds ++ P[j] :: P.drop (j + 1)) = ds ++ [tearF P[j] x] ++ P.drop (j + 1) := by
      rw [hfp, mid_set _ hd.sfs, List.append_assoc]
      rfl
    have h7 := h6
    rw [show ({ (⟨ds ++ P[j] :: P.drop (j + 1), false, -1⟩ : PS) with fs := setK PF.nm f.pf.nm (fun p => tearF p x) (ds ++ P[j] :: P.drop (j + 1)) } : PS) = ⟨ds ++ [tearF P[j] x] ++ P.drop (j + 1), false, -1⟩ by rw [e]] at h7
    exact h7
  · rw [List.append_assoc]
    congr 1
    rw [crL, hs, hx, if_neg (by decide), if_neg hn]
    rfl
theorem Cr.gone (h : Cr w d ow W P xs j ow' ds ys a) (hj : j < P.length) (hb : Below W.heap.size W W5) {m : Nat} (hd : DP W d ow' (some m) L false 0 ⟨ds ++ P[j] :: P.drop (j + 1), false, -1⟩) (hs : isSafe P[j] = false) (hn : ys.headD 0 < 0 ∧ (P[j]).kept = false)
    {W6 : World} (hm : MapAt W6 m (delK fk (P[j]).nm L)) (ht : W5.mapTurned W6 m) (hi : Ints W ow' a' ys.tail) :
    Cr w d ow W6 P xs (j + 1) ow' ds ys.tail a' ∧ Fr (Ow ow') W W6 := by
  obtain ⟨h6, hf6⟩ := (hd.on hb).del hm ht
  have hfr := (Fr.of (D := Ow ow') hb).then hf6
  refine ⟨h.step hj ⟨some m, delK fk (P[j]).nm L, ?_⟩ ?_ (fun _ _ => rfl) hfr hi, hfr⟩
  · have e : delK PF.nm (P[j]).nm (ds ++ P[j] :: P.drop (j + 1)) = ds ++ P.drop (j + 1) := mid_del hd.sfs
    have h7 := h6
    rw [show ({ (⟨ds ++ P[j] :: P.drop (j + 1), false, -1⟩ : PS) with fs := delK PF.nm (P[j]).nm (ds ++ P[j] :: P.drop (j + 1)) } : PS) = ⟨ds ++ P.drop (j + 1), false, -1⟩ by rw [e]] at h7
    exact h7
  · congr 1
    rw [crL, hs, if_neg (by decide), if_pos hn]
end
set_option maxRecDepth 100000 in
set_option maxHeartbeats 6400000 in
theorem Crash_any (h : DK w d ow S) (a : Option Addr) (xs : List Int) (cap : Nat) (hx : xs.length ≤ 140737488351232) (hc : cap ≤ 9223372036854775807) (hxc : xs.length ≤ cap) (hi : Ints w ow a xs) :
    Calls Try.prog 20 #[.pointer (some ⟨d, 0, none⟩), .slice a xs.length cap] w fun e w' => e = .returned (.int .i64 (crE xs)) ∧ To w w' d ow (crS S xs) := by
  obtain ⟨mb, L, fu, n, h⟩ := h.dp
  obtain ⟨⟨c0, c1, c2, c3⟩, f0, f1, f2, f3⟩ := cells4 h.dm.hd
  by_cases hlong : 16384 < xs.length
  · rw [show crE xs = 2 by simp [crE, hlong], show crS S xs = S by simp [crS, hlong]]
    have hlong' : (16384 : Int) < xs.length := by omega
    have HD := Lib.hid h.dk.self
    clear h hi
    generalize xs.length = N at *
    go_enter Try.func20, Try.ntmps20
    go_wp2_with fail
    go_ret
    exact ⟨rfl, HD.out⟩
  · rw [show crE xs = 0 by simp [crE, hlong], show crS S xs = ⟨crL S.fs xs, false, -1⟩ by simp [crS, hlong]]
    have hlong' : ¬ (16384 : Int) < xs.length := by omega
    have e1 := setD h.dm.hd (i := 1) (.bool false)
    have e2 := setD e1 (i := 2) (.bool false)
    have e3 := setD e2 (i := 3) (.int .i64 0)
    have eo : ∀ x, x ≠ d → (((w.setCell ⟨d, 1, none⟩ (.bool false)).setCell ⟨d, 2, none⟩ (.bool false)).setCell ⟨d, 3, none⟩ (.int .i64 0)).heap[x]? = w.heap[x]? := fun x hx => by rw [setO _ _ hx, setO _ _ hx, setO _ _ hx]
    have hP : DP (((w.setCell ⟨d, 1, none⟩ (.bool false)).setCell ⟨d, 2, none⟩ (.bool false)).setCell ⟨d, 3, none⟩ (.int .i64 0)) d ow mb L false 0 ⟨S.fs, false, -1⟩ :=
      ⟨h.dm.head (by rw [e3]; simp) eo (by simp) (by omega) (by omega), fun f hf => (h.fa f hf).head h.dm hf eo, h.fs, rfl⟩
    have hOd : Ow ow d := by unfold Ow; rw [h.dm.od]; simp
    have hFr : Fr (Ow ow) w (((w.setCell ⟨d, 1, none⟩ (.bool false)).setCell ⟨d, 2, none⟩ (.bool false)).setCell ⟨d, 3, none⟩ (.int .i64 0)) := (((Fr.refl (Ow ow) w).setCell ⟨d, 1, none⟩ (.bool false) (Or.inl hOd)).setCell ⟨d, 2, none⟩ (.bool false) (Or.inl hOd)).setCell ⟨d, 3, none⟩ (.int .i64 0) (Or.inl hOd)
    have HNM := Lib.hid (names_any hP.dm)
    have HZ : Hid ((((w.setCell ⟨d, 1, none⟩ (.bool false)).setCell ⟨d, 2, none⟩ (.bool false)).setCell ⟨d, 3, none⟩ (.int .i64 0)).heap.size = w.heap.size) := by show _ = _; simp
    have HP := Lib.hid hP
    have HF := Lib.hid hFr
    have HI := Lib.hid hi
    have HS := Lib.hid h.fs
    have HOUT := Lib.hid h.dm.out
    have HX := Lib.hid (And.intro hxc hc)
    obtain ⟨X, HXL⟩ := named xs.length
    rw [HXL.out] at hlong' ⊢
    clear h hi hP hFr e1 e2 e3 eo hlong hx hxc hc
    go_enter Try.func20, Try.ntmps20
    go_wp2_with fail
    refine HNM.out.mono ?_
    rintro e w4 ⟨v, rfl, hr, hb⟩
    rw [HZ.out] at hr hb
    generalize ((w.setCell ⟨d, 1, none⟩ (.bool false)).setCell ⟨d, 2, none⟩ (.bool false)).setCell ⟨d, 3, none⟩ (.int .i64 0) = W3 at *
    have hP4 := HP.out.on (by rw [HZ.out]; exact hb)
    have hF4 := HF.out.then (Fr.of (by rw [HZ.out]; exact hb))
    obtain ⟨P, HPP⟩ := named S.fs
    have HNS : Hid (L.map fk = P.map PF.nm) := by
      show _ = _
      rw [← HPP.out, HS.out, List.map_map]
      rfl
    have HLN : Hid (L.length = P.length) := by
      show _ = _
      rw [← HPP.out, HS.out, List.length_map]
    rw [HPP.out] at hP4
    rw [HLN.out, HNS.out] at hr
    have hP64 : P.length ≤ 64 := by rw [← HLN.out]; exact HP.out.dm.len
    have HMY : Hid (∀ j (hj : j < P.length), (P[j]).nm.length ≤ 64) := by
      intro j hj
      have hm : P[j] ∈ L.map Fl.pf := by
        rw [← HS.out, HPP.out]
        exact List.getElem_mem hj
      obtain ⟨f, hf, e⟩ := List.mem_map.1 hm
      rw [← e]
      exact mayN_len (HP.out.dm.may f hf)
    obtain ⟨N, HN⟩ := named P.length
    rw [HN.out] at hr hP64
    obtain ⟨av, c, hv⟩ : ∃ av c, v = .slice av N c := by
      rcases hr.2 with ⟨rfl, hh⟩ | ⟨g, c, cur, rfl, _⟩
      · exact ⟨none, 0, by rw [hh]⟩
      · exact ⟨_, c, rfl⟩
    subst hv
    have HG : Hid (∀ g, (Value.slice av N c).ownBlock = some g → ow g = none ∧ w.heap.size ≤ g) := by
      intro g hg
      have := hr.lt g hg
      exact ⟨HOUT.out g this.1, this.1⟩
    have HR := Lib.hid hr
    have HCR : Hid (Cr w d ow w4 P xs 0 ow [] xs a) := ⟨⟨mb, L, hP4⟩, rfl, fun _ _ => rfl, hF4, HI.out.fr hF4 (fun _ _ => rfl)⟩
    clear hr hb hP4 hF4 HNM HF HP HZ HI W3 c0 c1 c2 c3 f0 f1 f2 f3
    go_wp2_with fail
    go_loopw [1, 24] (fun dv i wr => ∃ (j : Nat) (ow' : Nat → Option Nat) (ds : List PF) (ys : List Int) (a' : Option Addr) (M c' : Nat), j ≤ N ∧ i = .int .i64 j ∧ dv = .slice a' M c' ∧ M ≤ 16384 ∧ M ≤ c' ∧ c' ≤ 9223372036854775807 ∧ Hid (ys.length = M) ∧ Hid (Cr w d ow wr P xs j ow' ds ys a') ∧ Hid (wr.ownsRow w.heap.size 9 1 (.slice av N c) N (namesC (P.map PF.nm))) ∧ Hid (∀ g, (Value.slice av N c).ownBlock = some g → ow' g = none)) (fun _ i _ => N - (intOf i).toNat)
    case atStart => exact ⟨0, ow, [], xs, a, X, cap, Nat.zero_le _, rfl, rfl, by omega, by have := HX.out.1; rw [HXL.out] at this; exact this, HX.out.2, HXL, HCR, HR, fun g hg => (HG.out g hg).1⟩
    case round =>
      clear HCR HR
      obtain ⟨j, ow', ds, ys, a', M, c', hj, rfl, rfl, hM, hMc, hc', HYM, HCR, HR, HGO⟩ := hrel
      by_cases hlt : j < N
      · obtain ⟨g, c2, hv⟩ := ownsRow_form HR.out (show 0 < N by omega)
        injection hv with hv1 _ hv3
        subst hv1 hv3
        have hjP : j < P.length := by rw [HN.out]; exact hlt
        have q0 : wr.cell? ⟨g, j, none⟩ = some (.string ⟨(P[j]).nm.toArray⟩) := by
          have h0 := (HR.out.cellAt j (by omega)).trans (namesC_at (P.map PF.nm) j (by rw [List.length_map]; exact hjP))
          rw [List.getElem_map] at h0
          exact h0
        obtain ⟨mb1, L1, f, hd1, hf1, hfp, hfk0⟩ := HCR.out.file hjP
        obtain ⟨m1, rfl, hm1⟩ := hd1.someM hf1
        have HM1 := Lib.hid hm1
        clear hm1
        have HD1 := Lib.hid hd1
        have HFP := Lib.hid hfp
        obtain ⟨hv, sv, gh, gs, hfc0, hgh, hgs⟩ := (hd1.fa f hf1).fc
        obtain ⟨p, HPJ⟩ : ∃ p, Hid (P[j]'hjP = p) := ⟨_, rfl⟩
        have hpl : p.nm.length ≤ 64 := by rw [← HPJ.out]; exact HMY.out j hjP
        have hfk : fndK fk p.nm L1 = some f := by rw [← HPJ.out]; exact hfk0
        have hfc : FC wr f.blk hv sv gh gs p := by rw [← HPJ.out, ← hfp]; exact hfc0
        have q1 : wr.cell? ⟨g, j, none⟩ = some (.string ⟨p.nm.toArray⟩) := by rw [← HPJ.out]; exact q0
        clear hfk0 hfc0 q0
        have q0 := q1
        clear q1
        have hsz : (⟨p.nm.toArray⟩ : ByteArray).size ≤ 64 := by simpa [ByteArray.size] using hpl
        obtain ⟨⟨c0, c1, c2, c3⟩, f0, f1, f2, f3⟩ := cells4 (show wr.heap[d]? = some (.cells #[.map (some m1), .bool false, .bool false, .int .i64 0] 52 (0, 0)) from hd1.dm.hd)
        have HLK := hd1.dm.map.look1 (s := ⟨p.nm.toArray⟩) (by unfold maxLen; omega)
        rw [show (⟨p.nm.toArray⟩ : ByteArray).data.toList = p.nm from by simp, hfk, show ptrOf (some f) = .pointer (some ⟨f.blk, 0, none⟩) from rfl] at HLK
        have HIS := Lib.hid (isSafe_any hfc)
        have HFC := Lib.hid hfc
        have HSN : Hid ((⟨p.nm.toArray⟩ : ByteArray).data.toList = p.nm) := by show _ = _; simp
        generalize (⟨p.nm.toArray⟩ : ByteArray) = s at *
        have hgl : g < wr.heap.size := (HR.out.lt g rfl).2
        have HGN := HGO.out g rfl
        have HKEEP : Hid (∀ W', Fr (Ow ow') wr W' → W'.ownsRow w.heap.size 9 1 (.slice (some ⟨g, 0, none⟩) N c) N (namesC (P.map PF.nm))) := fun W' f' => own_same HR.out (fun k hk => f'.block k (HR.out.lt k hk).2 (fun e => e (HGO.out k hk)))
        clear hd1 hfp hfk hpl hfc
        go_wp2_with fail
        refine HIS.out.mono ?_
        rintro e w5 ⟨rfl, hb5⟩
        have HB5 := Lib.hid hb5
        have HFC5 := Lib.hid (HFC.out.on hb5)
        have HD5 := Lib.hid (HD1.out.on hb5)
        clear hb5
        cases hsf : isSafe p with
        | true =>
          have HSF : Hid (isSafe (P[j]'hjP) = true) := by show _ = _; rw [HPJ.out]; exact hsf
          go_wp2_with fail
          exact ⟨⟨j + 1, ow', ds ++ [P[j]'hjP], ys, a', M, c', by omega, by go_num, rfl, hM, hMc, hc', HYM, HCR.out.safe hjP HB5.out HD1.out HSF.out, HKEEP.out w5 (Fr.of HB5.out), HGO⟩, by simp [intOf]; omega⟩
        | false =>
          have HSF : Hid (isSafe (P[j]'hjP) = false) := by show _ = _; rw [HPJ.out]; exact hsf
          clear c0 c1 c2 c3 f0 f1 f2 f3 q0
          have hfc5 := HFC5.out
          obtain ⟨⟨d0, d1, d2⟩, r0, r1, r2⟩ := cells3 hfc5.hd
          obtain ⟨⟨c0, c1, c2, c3⟩, f0, f1, f2, f3⟩ := cells4 (show w5.heap[d]? = some (.cells #[.map (some m1), .bool false, .bool false, .int .i64 0] 52 (0, 0)) from HD5.out.dm.hd)
          clear hfc5
          rcases ys with _ | ⟨y, yt⟩
          · have hM0 : M = 0 := HYM.out.symm
            subst hM0
            have HTE := Lib.hid (tear_any HFC5.out 0 (Or.inl (by omega)))
            go_wp2_with fail
            refine HTE.out.mono ?_
            rintro e w6 ⟨rfl, ⟨hv', g', hc6, hg6⟩, fr6⟩
            rw [← HPJ.out, ← HFP.out] at hc6
            obtain ⟨ow'', h6, ho6, hf6⟩ := HCR.out.torn hjP HB5.out HD1.out hf1 HFP.out 0 HSF.out rfl (fun e => absurd e.1 (by omega)) hc6 hg6 fr6 (a' := a') HCR.out.ints
            have H6 := Lib.hid h6
            have HO6 := Lib.hid ho6
            have HF6 := Lib.hid hf6
            clear h6 ho6 hf6 hc6 hg6 fr6
            go_wp2_with fail
            exact ⟨⟨j + 1, ow'', _, _, a', 0, c', by omega, by go_num, rfl, hM, hMc, hc', HYM, H6.out, HKEEP.out w6 HF6.out, fun k hk => (HO6.out k (Nat.lt_of_lt_of_le (HR.out.lt k hk).2 HB5.out.size)).trans (HGO.out k hk)⟩, by simp [intOf]; omega⟩
          · obtain ⟨b, o, ea, hbl, hbo, hbc⟩ := HCR.out.ints (by simp)
            subst ea
            have hM1 : M = yt.length + 1 := HYM.out.symm
            have hy0 : w5.cell? ⟨b, o, none⟩ = some (.int .i64 y) := by
              rw [World.cell?_of_block (w := wr) (HB5.out.block b hbl)]
              exact hbc 0 (by simp)
            have HBC := Lib.hid (And.intro hbl (And.intro hbo hbc))
            obtain ⟨K, HK⟩ := named yt.length
            rw [HK.out] at hM1
            subst hM1
            clear hbc
            by_cases hc1 : c' = 1
            · subst hc1
              have hK0 : K = 0 := by omega
              subst hK0
              go_wp2_with fail
              go_quiet (fail)
              have HINT : Hid (Ints wr ow' (some ⟨b, o, none⟩) yt) := by
                intro h0
                obtain ⟨k1, k2, k3⟩ := HBC.out
                have := HK.out
                omega
              have HB6 : Hid (Below wr.heap.size wr (w5.drewN nq)) := below_drewN HB5.out nq
              have HYM' : Hid (yt.length = 0) := HK.out
              by_cases hy : y < 0
              · cases hk : p.kept with
                | false =>
                  rw [hk] at d2
                  have HHK : Hid ((y :: yt).headD 0 < 0 ∧ (P[j]'hjP).kept = false) := ⟨hy, by rw [HPJ.out]; exact hk⟩
                  have HM6 : Hid (MapAt (w5.drewN nq) m1 L1) := (HM1.out.same (HB6.out.block m1 HM1.out.lt))
                  go_wp2_with (at_delete; refine wpList_del rfl (.tmp 56) (.tmp 57) rfl m1 L1 s HM6.out (by unfold maxLen; omega) rfl rfl ?_; intro w6 hm6 ht6)
                  have HGD := Lib.hid (HCR.out.gone (a' := (some ⟨b, o, none⟩)) hjP HB6.out HD1.out HSF.out HHK.out (by rw [HPJ.out, ← HSN.out]; exact hm6) ht6 HINT.out)
                  exact ⟨⟨j + 1, ow', _, yt, (some ⟨b, o, none⟩), 0, 0, by omega, by go_num, rfl, by omega, by omega, by omega, HYM', HGD.out.1, HKEEP.out w6 HGD.out.2, HGO⟩, by simp [intOf]; omega⟩
                | true =>
                  rw [hk] at d2
                  have HTE := Lib.hid (tear_any (HFC5.out.drewN nq) y (Or.inr hk))
                  have HNK : Hid (¬ (y < 0 ∧ (P[j]'hjP).kept = false)) := fun e => by have := e.2; rw [HPJ.out, hk] at this; cases this
                  go_wp2_with fail
                  refine HTE.out.mono ?_
                  rintro e w6 ⟨rfl, ⟨hv', g', hc6, hg6⟩, fr6⟩
                  have hc7 : FC w6 f.blk hv' hv' g' (some g') (tearF f.pf y) := by rw [HFP.out, HPJ.out]; exact hc6
                  obtain ⟨ow'', h6, ho6, hf6⟩ := HCR.out.torn hjP HB6.out HD1.out hf1 HFP.out y HSF.out rfl HNK.out hc7 hg6 fr6 (a' := (some ⟨b, o, none⟩)) HINT.out
                  have H6 := Lib.hid h6
                  have HO6 := Lib.hid ho6
                  have HF6 := Lib.hid hf6
                  clear h6 ho6 hf6 hc6 hc7 hg6 fr6
                  go_wp2_with fail
                  exact ⟨⟨j + 1, ow'', _, yt, (some ⟨b, o, none⟩), 0, 0, by omega, by go_num, rfl, by omega, by omega, by omega, HYM', H6.out, HKEEP.out w6 HF6.out, fun k hk => (HO6.out k (Nat.lt_of_lt_of_le (HR.out.lt k hk).2 HB6.out.size)).trans (HGO.out k hk)⟩, by simp [intOf]; omega⟩
              · have HTE := Lib.hid (tear_any (HFC5.out.drewN nq) y (Or.inl (by omega)))
                have HNK : Hid (¬ (y < 0 ∧ (P[j]'hjP).kept = false)) := fun e => hy e.1
                go_wp2_with fail
                refine HTE.out.mono ?_
                rintro e w6 ⟨rfl, ⟨hv', g', hc6, hg6⟩, fr6⟩
                have hc7 : FC w6 f.blk hv' hv' g' (some g') (tearF f.pf y) := by rw [HFP.out, HPJ.out]; exact hc6
                obtain ⟨ow'', h6, ho6, hf6⟩ := HCR.out.torn hjP HB6.out HD1.out hf1 HFP.out y HSF.out rfl HNK.out hc7 hg6 fr6 (a' := (some ⟨b, o, none⟩)) HINT.out
                have H6 := Lib.hid h6
                have HO6 := Lib.hid ho6
                have HF6 := Lib.hid hf6
                clear h6 ho6 hf6 hc6 hc7 hg6 fr6
                go_wp2_with fail
                exact ⟨⟨j + 1, ow'', _, yt, (some ⟨b, o, none⟩), 0, 0, by omega, by go_num, rfl, by omega, by omega, by omega, HYM', H6.out, HKEEP.out w6 HF6.out, fun k hk => (HO6.out k (Nat.lt_of_lt_of_le (HR.out.lt k hk).2 HB6.out.size)).trans (HGO.out k hk)⟩, by simp [intOf]; omega⟩
            · go_wp2_with fail
              go_quiet (fail)
              have HINT : Hid (Ints wr ow' (some ⟨b, o + 1, none⟩) yt) := by
                intro h0
                obtain ⟨k1, k2, k3⟩ := HBC.out
                have := HK.out
                refine ⟨b, o + 1, rfl, k1, k2, fun i hi => ?_⟩
                have := k3 (i + 1) (by simp; omega)
                rw [show o + (i + 1) = o + 1 + i by omega] at this
                exact this
              have HB6 : Hid (Below wr.heap.size wr (w5.drewN nq)) := below_drewN HB5.out nq
              have HYM' : Hid (yt.length = K) := HK.out
              by_cases hy : y < 0
              · cases hk : p.kept with
                | false =>
                  rw [hk] at d2
                  have HHK : Hid ((y :: yt).headD 0 < 0 ∧ (P[j]'hjP).kept = false) := ⟨hy, by rw [HPJ.out]; exact hk⟩
                  have HM6 : Hid (MapAt (w5.drewN nq) m1 L1) := (HM1.out.same (HB6.out.block m1 HM1.out.lt))
                  go_wp2_with (at_delete; refine wpList_del rfl (.tmp 56) (.tmp 57) rfl m1 L1 s HM6.out (by unfold maxLen; omega) rfl rfl ?_; intro w6 hm6 ht6)
                  have HGD := Lib.hid (HCR.out.gone (a' := (some ⟨b, o + 1, none⟩)) hjP HB6.out HD1.out HSF.out HHK.out (by rw [HPJ.out, ← HSN.out]; exact hm6) ht6 HINT.out)
                  exact ⟨⟨j + 1, ow', _, yt, (some ⟨b, o + 1, none⟩), K, (c' - 1), by omega, by go_num, rfl, by omega, by omega, by omega, HYM', HGD.out.1, HKEEP.out w6 HGD.out.2, HGO⟩, by simp [intOf]; omega⟩
                | true =>
                  rw [hk] at d2
                  have HTE := Lib.hid (tear_any (HFC5.out.drewN nq) y (Or.inr hk))
                  have HNK : Hid (¬ (y < 0 ∧ (P[j]'hjP).kept = false)) := fun e => by have := e.2; rw [HPJ.out, hk] at this; cases this
                  go_wp2_with fail
                  refine HTE.out.mono ?_
                  rintro e w6 ⟨rfl, ⟨hv', g', hc6, hg6⟩, fr6⟩
                  have hc7 : FC w6 f.blk hv' hv' g' (some g') (tearF f.pf y) := by rw [HFP.out, HPJ.out]; exact hc6
                  obtain ⟨ow'', h6, ho6, hf6⟩ := HCR.out.torn hjP HB6.out HD1.out hf1 HFP.out y HSF.out rfl HNK.out hc7 hg6 fr6 (a' := (some ⟨b, o + 1, none⟩)) HINT.out
                  have H6 := Lib.hid h6
                  have HO6 := Lib.hid ho6
                  have HF6 := Lib.hid hf6
                  clear h6 ho6 hf6 hc6 hc7 hg6 fr6
                  go_wp2_with fail
                  exact ⟨⟨j + 1, ow'', _, yt, (some ⟨b, o + 1, none⟩), K, (c' - 1), by omega, by go_num, rfl, by omega, by omega, by omega, HYM', H6.out, HKEEP.out w6 HF6.out, fun k hk => (HO6.out k (Nat.lt_of_lt_of_le (HR.out.lt k hk).2 HB6.out.size)).trans (HGO.out k hk)⟩, by simp [intOf]; omega⟩
              · have HTE := Lib.hid (tear_any (HFC5.out.drewN nq) y (Or.inl (by omega)))
                have HNK : Hid (¬ (y < 0 ∧ (P[j]'hjP).kept = false)) := fun e => hy e.1
                go_wp2_with fail
                refine HTE.out.mono ?_
                rintro e w6 ⟨rfl, ⟨hv', g', hc6, hg6⟩, fr6⟩
                have hc7 : FC w6 f.blk hv' hv' g' (some g') (tearF f.pf y) := by rw [HFP.out, HPJ.out]; exact hc6
                obtain ⟨ow'', h6, ho6, hf6⟩ := HCR.out.torn hjP HB6.out HD1.out hf1 HFP.out y HSF.out rfl HNK.out hc7 hg6 fr6 (a' := (some ⟨b, o + 1, none⟩)) HINT.out
                have H6 := Lib.hid h6
                have HO6 := Lib.hid ho6
                have HF6 := Lib.hid hf6
                clear h6 ho6 hf6 hc6 hc7 hg6 fr6
                go_wp2_with fail
                exact ⟨⟨j + 1, ow'', _, yt, (some ⟨b, o + 1, none⟩), K, (c' - 1), by omega, by go_num, rfl, by omega, by omega, by omega, HYM', H6.out, HKEEP.out w6 HF6.out, fun k hk => (HO6.out k (Nat.lt_of_lt_of_le (HR.out.lt k hk).2 HB6.out.size)).trans (HGO.out k hk)⟩, by simp [intOf]; omega⟩
      · go_wp2_with fail
        go_ret
        have h9 := HCR.out
        have ej : P.drop j = [] := List.drop_of_length_le (by have := HN.out; omega)
        obtain ⟨mb9, L9, hd9⟩ := h9.dp
        rw [ej, List.append_nil] at hd9
        refine ⟨rfl, ow', ?_, h9.ho, h9.fr⟩
        have e9 : crL P xs = ds := by rw [h9.cr, ej]; simp [crL]
        rw [HPP.out, e9]
        exact hd9.dk
end
end Go.Proofs.Ytlbkmhlpgpfafaa
