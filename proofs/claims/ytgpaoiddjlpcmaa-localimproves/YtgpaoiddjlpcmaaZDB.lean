/-
  The reference's Better and Improve.
-/
import Derived.Test.YtgpaoiddjlpcmaaZAZ
import Derived.Test.YtgpaoiddjlpcmaaZAJ
namespace Go.Proofs.Ytgpaoiddjlpcmaa
open Go.RowKit
theorem RImp.one {P : List Pr} {B k m m' : Nat} {L E E' : List Nat} (h : RImp P B k L E m) : RImp P B k L E' m' → E = E' ∧ m = m' := by
  induction h generalizing E' m' with
  | zero =>
    intro h2
    cases h2 with
    | zero => exact ⟨rfl, rfl⟩
    | stop _ => exact ⟨rfl, rfl⟩
  | stop h =>
    intro h2
    cases h2 with
    | zero => exact ⟨rfl, rfl⟩
    | stop _ => exact ⟨rfl, rfl⟩
    | step h3 _ => exact absurd h3.1 (h _ _)
  | step h _ ih =>
    intro h2
    cases h2 with
    | stop h3 => exact absurd h.1 (h3 _ _)
    | step h3 r3 =>
      obtain ⟨rfl, rfl⟩ := h.one h3
      obtain ⟨rfl, rfl⟩ := ih r3
      exact ⟨rfl, rfl⟩
/-- The reference's tidying of a row of our own. -/
theorem rtidyN_any (av : Option Addr) (cap : Nat) (L : List Nat) (w : World) (hn : L.length ≤ 1024) (ho : Ints w av (ints L)) :
    Calls Try.prog 49 #[.slice av L.length cap] w fun e w' => e = .returned (.slice (some ⟨w.heap.size, 0, none⟩) L.length L.length) ∧ OwI w' w.heap.size L.length (ints (tdL L)) ∧ Below w.heap.size w w' := by
  refine (T3.rtidyI_any av L.length cap (ints L) (ldI (ints L)) w hn (ldI_RT _) (ints_len L) (fun u v _ _ => ldI_iff) ho).mono ?_
  rintro e w' ⟨rfl, ho, hb⟩
  refine ⟨rfl, ?_, hb⟩
  have q : w'.ownsRow w.heap.size 3 1 (.slice (some ⟨w.heap.size, 0, none⟩) L.length L.length) L.length (cellsI (ints (tdL L))) := ho
  unfold OwI
  rw [ints_len, tdL_len]
  exact own_base q (Nat.zero_le _)
set_option maxRecDepth 100000 in
set_option maxHeartbeats 1600000 in
theorem better_any (ad : Addr) (a : Option Addr) (l : List A) (cap : Nat) (L : List Nat) (bc B M0 : Nat) (w : World) (hn : L.length ≤ 1024) (hn0 : 0 < L.length) (hl : l.length ≤ 8192) (hM0 : M0 ≤ 16384) (htd : tdy (ints L) 0 = true) (hpo : ∀ x, x ∈ l → (0 ≤ x.f ∧ x.f < (L.length : Int)) ∧ 0 ≤ x.t ∧ x.t < (L.length : Int)) (hr : Arcs w a l) (hi : Ints w (some ad) (ints L)) :
    Calls Try.prog 37 #[.agg #[.int .i64 L.length, .slice a l.length cap], .slice (some ad) L.length bc, .int .i64 B, .int .i64 M0] w fun e w' => ∃ (v : Option Addr) (c m : Nat) (out : List Nat), e = .returned (.tuple #[.slice v out.length c, .int .i64 (m : Int)]) ∧ w'.ownsRow w.heap.size 3 1 (.slice v out.length c) out.length (cellsI (ints out)) ∧ Hid (RImp (prl l) B M0 L out m) ∧ Below w.heap.size w w' := by
  obtain ⟨i3, hi3, hz3, hs3, hby3⟩ := info_parts info3
  have hb0 : Below w.heap.size w (w.alloc (.cells #[.int .i64 L.length, .slice a l.length cap] 24)) := (Below.refl _ _).alloc (Nat.le_refl _) _
  have hg := heap_top w (.cells #[.int .i64 L.length, .slice a l.length cap] 24)
  have HB0 := Lib.hid hb0
  have HAR := Lib.hid hr
  have HNW := Lib.hid (ints_newsC (hi.on hb0) (.cells #[] 3))
  have HOW : Hid (((w.alloc (.cells #[.int .i64 L.length, .slice a l.length cap] 24)).alloc (.cells #[] 3)).ownsRow (w.alloc (.cells #[.int .i64 L.length, .slice a l.length cap] 24)).heap.size 3 1 (.slice (some ⟨(w.alloc (.cells #[.int .i64 L.length, .slice a l.length cap] 24)).heap.size, 0, none⟩) 0 0) 0 []) := World.ownsRow_lit (base := (w.alloc (.cells #[.int .i64 L.length, .slice a l.length cap] 24)).heap.size) (e := 3) (size := 1) _ #[] 0 (Nat.le_refl _) (by decide) rfl
  have HCL : Hid ((cellsI (ints L)).length = L.length * 1) := by show _ = _; rw [cellsI_len, ints_len]; omega
  have HPO := Lib.hid hpo
  have HTD := Lib.hid htd
  obtain ⟨⟨c0, c1⟩, _⟩ := two_cells hg
  clear hb0 hr hi hpo htd
  generalize hp : w.heap.size = p at *
  go_enter Try.func37, Try.ntmps37
  generalize hW : w.alloc (.cells #[.int .i64 L.length, .slice a l.length cap] 24) = W at *
  have hpW : p < W.heap.size := lt_of_block hg
  have HBW : Hid (Below W.heap.size W (W.alloc (.cells #[] 3))) := al_below _ _
  go_wp2_with (at_builtin; refine wpList_append_own _ rfl (.tmp 16) (.tmp 17) 25 rfl W.heap.size 3 i3 (.int .i64 0) 1 8 Try.underlying25 hi3 hz3 hs3 hby3 rfl (by decide) (.slice (some ⟨W.heap.size, 0, none⟩) 0 0) 0 [] rfl HOW.out ad L.length bc (cellsI (ints L)) rfl HCL.out HNW.out (one_I _) (by unfold maxLen; omega) (by omega) (by simp) ?_; intro v6 w6 hown6 hgrow6 hnil6; obtain ⟨g6, c6, hv6, _, _, _, _⟩ := own_shape hown6 (fun e => by have := (hnil6.1 e).2; omega); rw [hv6] at hown6 ⊢; clear hnil6 hv6; rw [List.nil_append, Nat.zero_add] at hown6; simp only [Nat.zero_add]; have HO6 := Lib.hid (own_base hown6 (Nat.le_of_lt hpW)); have HPG6 : Hid (p < g6) := Nat.lt_of_lt_of_le hpW (World.ownsRow.lt hown6 g6 rfl).1; have HB6 : Hid (Below p w w6) := ((HB0.out.trans (HBW.out.mono (Nat.le_of_lt hpW))).grown hgrow6 (by have := HBW.out.size; omega) (fun k hk => by have hk2 : W.heap.size = k := Option.some.inj hk; omega)); have hg6 := (hgrow6.block p (by have := HBW.out.size; omega) (fun e => by have e2 : p = W.heap.size := Option.some.inj e; omega)).trans ((HBW.out.block p hpW).trans hg); clear hown6 hgrow6)
  have HG6 := Lib.hid hg6
  have HRI : Hid (∀ (E : List Nat) (m : Nat), RImp (prl l) B (M0 - 0) L E m → RImp (prl l) B M0 L E (m + 0)) := fun E m h => h
  have hP : PIn (prl l) L.length := fun p hp => prl_lt HPO.out hp
  have HPI := Lib.hid hP
  obtain ⟨n, HLN⟩ := named L.length
  rw [HLN.out] at hn hn0 HPO hg6 HG6 HPI
  have HTD0 := HTD
  have hWL : Hid (L.length = n) := HLN
  clear hP hg HOW HNW hi3 hz3 hs3 hby3 c0 c1 hg6
  clear i3
  go_loopw [10, 11] (fun s10 s11 wr => ∃ (t g c : Nat) (T : List Nat), t ≤ M0 ∧ s11 = .int .i64 (t : Int) ∧ s10 = .slice (some ⟨g, 0, none⟩) T.length c ∧ Hid (T.length = n) ∧ Hid (tdy (ints T) 0 = true) ∧ Hid (wr.ownsRow p 3 1 (.slice (some ⟨g, 0, none⟩) T.length c) T.length (cellsI (ints T))) ∧ Hid (wr.heap[p]? = some (.cells #[.int .i64 (n : Int), .slice a l.length cap] 24)) ∧ Hid (p < g) ∧ Hid (Below p w wr) ∧ Hid (∀ (E : List Nat) (m : Nat), RImp (prl l) B (M0 - t) T E m → RImp (prl l) B M0 L E (m + t))) (fun _ s11 _ => M0 - (intOf s11).toNat)
  case atStart => exact ⟨0, g6, c6, L, Nat.zero_le _, rfl, by first | rfl | simp, HLN, HTD, HO6, HG6, HPG6, HB6, HRI⟩
  case round =>
    obtain ⟨t, g, c, T, ht, rfl, rfl, HTL, HTT, HOT, HGP, HPG, HBT, HRT⟩ := hrel
    have hTl : T.length ≤ 1024 := by rw [HTL.out]; exact hn
    have hgl := (World.ownsRow.lt HOT.out g rfl).2
    obtain ⟨⟨c0, c1⟩, _⟩ := two_cells HGP.out
    by_cases hlt : t < M0
    · have hlt' : (t : Int) < M0 := by omega
      have hN1 := rnext_any a l cap (some ⟨g, 0, none⟩) T c B wr hTl (by rw [HTL.out]; exact hn0) hl HTT.out (by rw [HTL.out]; exact HPO.out) (HAR.out.on (by rw [hp]; exact HBT.out)) (own_ints HOT.out rfl)
      have HN1 : Hid (Calls Try.prog 33 #[.agg #[.int .i64 n, .slice a l.length cap], .slice (some ⟨g, 0, none⟩) T.length c, .int .i64 B] wr fun e w' => ∃ (x y : Nat) (m : Int), e = .returned (.tuple #[.int .i64 (x : Int), .int .i64 (y : Int), .int .i64 m, .bool (decide (0 < m))]) ∧ Hid (NxM (prl l) T B x y (decide (0 < m))) ∧ Below wr.heap.size wr w') := by
        have e : ((T.length : Nat) : Int) = (n : Int) := by rw [HTL.out]
        rw [e] at hN1
        exact hN1
      clear hN1
      go_wp2_with fail
      refine HN1.out.mono ?_
      rintro e w2 ⟨x, y, m, rfl, HNM, hb2⟩
      have HB2 := Lib.hid (below_t HBT.out hp hb2)
      have HO2 := Lib.hid (own_on HOT.out hb2)
      have HG2 := Lib.hid ((hb2.block p (lt_of_block HGP.out)).trans HGP.out)
      clear hb2 HN1 c0 c1
      rcases HNM.out with ⟨hs, f, hnx, hfy⟩ | ⟨hs, rfl, rfl, hno⟩
      · have hxT : x < T.length := hnx.1.1
        have hxT' : (x : Int) < T.length := by omega
        have d1 := World.ownsRow.cellAt HO2.out x (by omega)
        rw [cellsI_getD (ints T) x (by rw [ints_len]; exact hxT)] at d1
        have f1 := World.ownsRow.frozenAt HO2.out x
        have HO3 := Lib.hid (own_setI HO2.out x y)
        have hset : (T.set x y).length = T.length := List.length_set ..
        have HB3 : Hid (Below p w (w2.setCell ⟨g, x, none⟩ (.int .i64 (y : Int)))) := HB2.out.setCell (Nat.le_of_lt HPG.out) _
        have HG3 : Hid ((w2.setCell ⟨g, x, none⟩ (.int .i64 (y : Int))).heap[p]? = some (.cells #[.int .i64 (n : Int), .slice a l.length cap] 24)) := (Below.heap_setCell _ _ _ _ (Nat.ne_of_lt HPG.out)).trans HG2.out
        have HTD3 := Lib.hid (rtidyN_any (some ⟨g, 0, none⟩) c (T.set x y) (w2.setCell ⟨g, x, none⟩ (.int .i64 (y : Int))) (by rw [hset]; exact hTl) (own_ints HO3.out rfl))
        rw [hset] at HTD3
        have HRT2 : Hid (∀ (E : List Nat) (q : Nat), RImp (prl l) B (M0 - (t + 1)) (tdL (T.set x y)) E q → RImp (prl l) B M0 L E (q + (t + 1))) := fun E q h => by
          have e1 : M0 - t = (M0 - (t + 1)) + 1 := by omega
          have e2 := HRT.out E (q + 1) (by
            rw [e1]
            refine RImp.step hnx ?_
            rw [hfy]
            exact h)
          rw [show q + (t + 1) = q + 1 + t by omega]
          exact e2
        have HTL2 : Hid ((tdL (T.set x y)).length = n) := by show (tdL (T.set x y)).length = n; rw [tdL_len, hset]; exact HTL.out
        have HTT2 := Lib.hid (tdL_right (T.set x y))
        have HSE := Lib.hid hset
        rw [hs]
        generalize (ints T).getD x 0 = old at d1
        clear hnx hfy HNM hset
        go_wp2_with fail
        refine HTD3.out.mono ?_
        rintro e w4 ⟨rfl, ho4, hb4⟩
        have HB4 := Lib.hid (below_t HB3.out hp hb4)
        have HG4 := Lib.hid ((hb4.block p (lt_of_block HG3.out)).trans HG3.out)
        have hq4 : p < (w2.setCell ⟨g, x, none⟩ (.int .i64 (y : Int))).heap.size := lt_of_block HG3.out
        have HO4 : Hid (w4.ownsRow p 3 1 (.slice (some ⟨(w2.setCell ⟨g, x, none⟩ (.int .i64 (y : Int))).heap.size, 0, none⟩) (tdL (T.set x y)).length T.length) (tdL (T.set x y)).length (cellsI (ints (tdL (T.set x y))))) := by
          show w4.ownsRow p 3 1 _ _ _
          have q := ho4
          unfold OwI at q
          rw [ints_len] at q
          rcases q.2 with h' | ⟨g', c', cur, h1, h2, h3, h4⟩
          · cases h'.1
          · refine ⟨q.1, .inr ⟨g', c', cur, h1, ?_, h3, h4⟩⟩
            injection h1 with h1
            injection h1 with h1
            injection h1 with h1
            omega
        have HPG4 := Lib.hid hq4
        have HEL : Hid ((tdL (T.set x y)).length = T.length) := by show (tdL (T.set x y)).length = T.length; rw [tdL_len, HSE.out]
        clear ho4 hb4 d1 f1 hq4
        go_wp2_with fail
        exact ⟨⟨t + 1, _, _, tdL (T.set x y), hlt, by simp, by rw [HEL.out]; simp, HTL2, HTT2, HO4, HG4, HPG4, HB4, HRT2⟩, by simp [intOf]; omega⟩
      · have HIP : Hid (RImp (prl l) B M0 L T t) := by
          have q := HRT.out T 0 (RImp.stop hno)
          rw [Nat.zero_add] at q
          exact q
        rw [hs]
        clear HNM
        go_wp2_with fail
        refine bodyPost_ret (v := .tuple #[.slice (some ⟨g, 0, none⟩) T.length c, .int .i64 (t : Int)]) (by simp [results, Try.results37, go_sem]) rfl ?_
        exact ⟨_, c, t, T, rfl, HO2.out, HIP, HB2.out⟩
    · have hlt' : ¬ (t : Int) < M0 := by omega
      obtain rfl : t = M0 := by omega
      have HIP : Hid (RImp (prl l) B t L T t) := by
        have q := HRT.out T 0 (by rw [Nat.sub_self]; exact RImp.zero)
        rw [Nat.zero_add] at q
        exact q
      go_wp2_with fail
      refine bodyPost_ret (v := .tuple #[.slice (some ⟨g, 0, none⟩) T.length c, .int .i64 (t : Int)]) (by simp [results, Try.results37, go_sem]) rfl ?_
      exact ⟨_, c, t, T, rfl, HOT.out, HIP, HBT.out⟩
/-- What the reference's Improve comes to. -/
def RmR (l : List A) (xs : List Int) (bd mo : Int) (out : List Nat) (m : Nat) : Prop := ∃ (L : List Nat) (B : Nat), xs = ints L ∧ bd = (B : Int) ∧ tdy (ints L) 0 = true ∧ RImp (prl l) B mo.toNat L out m
set_option maxRecDepth 100000 in
set_option maxHeartbeats 1600000 in
theorem rimprove_any (N : Int) (a : Option Addr) (l : List A) (cap : Nat) (b : Option Addr) (xs : List Int) (bc : Nat) (bd mo : Int) (w : World) (hl : l.length ≤ 9223372036854775807) (hx : xs.length ≤ 9223372036854775807) (hr : Arcs w a l) (hi : Ints w b xs) :
    Calls Try.prog 19 #[.agg #[.int .i64 N, .slice a l.length cap], .slice b xs.length bc, .int .i64 bd, .int .i64 mo] w fun e w' => ∃ (v : Option Addr) (c m : Nat) (out : List Nat), e = .returned (.tuple #[.slice v out.length c, .int .i64 (m : Int), .int .i64 (imE N l xs bd mo)]) ∧ w'.ownsRow w.heap.size 3 1 (.slice v out.length c) out.length (cellsI (ints out)) ∧ Below w.heap.size w w' ∧ Hid (imE N l xs bd mo = 0 → RmR l xs bd mo out m) ∧ Hid (imE N l xs bd mo ≠ 0 → out = [] ∧ m = 0) := by
  have hb0 : Below w.heap.size w (w.alloc (.cells #[.int .i64 N, .slice a l.length cap] 24)) := (Below.refl _ _).alloc (Nat.le_refl _) _
  have hg := heap_top w (.cells #[.int .i64 N, .slice a l.length cap] 24)
  have HB0 := Lib.hid hb0
  have HAR := Lib.hid hr
  have HAX := Lib.hid hi
  have HCK := Lib.hid (wrong_any N a l cap b xs bc bd (w.alloc (.cells #[.int .i64 N, .slice a l.length cap] 24)) hl hx (hr.on hb0) (hi.on hb0))
  obtain ⟨V, HV⟩ := named (luE N l xs bd)
  obtain ⟨I, HI⟩ := named (imE N l xs bd mo)
  rw [HV.out] at HCK
  rw [HI.out]
  obtain ⟨⟨c0, c1⟩, _⟩ := two_cells hg
  clear hb0 hr hi
  generalize hp : w.heap.size = p at *
  go_enter Try.func19, Try.ntmps19
  go_wp2_with fail
  generalize hW : w.alloc (.cells #[.int .i64 N, .slice a l.length cap] 24) = W at *
  clear hW
  refine HCK.out.mono ?_
  rintro e w1 ⟨rfl, hb1⟩
  have HB1 := Lib.hid (below_t HB0.out hp hb1)
  have hg1 := (hb1.block p (lt_of_block hg)).trans hg
  clear hb1 HCK c0 c1 hg
  obtain ⟨⟨c0, c1⟩, _⟩ := two_cells hg1
  by_cases hE : V ≠ 0
  · have e1 : (V != 0) = true := by simpa using hE
    have HIV : Hid (I = V) := by show I = V; rw [← HI.out]; unfold imE; rw [HV.out, if_pos hE]
    go_wp2_with fail
    refine bodyPost_ret (v := .tuple #[.slice none 0 0, .int .i64 0, .int .i64 V]) (by simp [results, Try.results19, go_sem]) rfl ?_
    exact ⟨none, 0, 0, [], by rw [HIV.out]; rfl, World.ownsRow_nil _ _ _ _, HB1.out, fun h => absurd (HIV.out.symm.trans h) hE, fun _ => ⟨rfl, rfl⟩⟩
  have hE0 : V = 0 := by simpa using hE
  have e1 : (V != 0) = false := by simpa using hE0
  have HE0 := Lib.hid hE0
  have HI2 : Hid ((if mo < 0 ∨ 16384 < mo then 1 else 0) = I) := by
    show _ = I
    rw [← HI.out]
    unfold imE
    rw [HV.out, hE0, if_neg (show ¬ ((0 : Int) ≠ 0) by simp)]
  clear hE hE0
  by_cases h1 : mo < 0
  · have HVV : Hid (I = 1) := by show I = 1; rw [← HI2.out, if_pos (.inl h1)]
    go_wp2_with fail
    refine bodyPost_ret (v := .tuple #[.slice none 0 0, .int .i64 0, .int .i64 1]) (by simp [results, Try.results19, go_sem]) rfl ?_
    exact ⟨none, 0, 0, [], by rw [HVV.out]; rfl, World.ownsRow_nil _ _ _ _, HB1.out, fun h => absurd (HVV.out.symm.trans h) (by decide), fun _ => ⟨rfl, rfl⟩⟩
  by_cases h2 : 16384 < mo
  · have HVV : Hid (I = 1) := by show I = 1; rw [← HI2.out, if_pos (.inr h2)]
    go_wp2_with fail
    refine bodyPost_ret (v := .tuple #[.slice none 0 0, .int .i64 0, .int .i64 1]) (by simp [results, Try.results19, go_sem]) rfl ?_
    exact ⟨none, 0, 0, [], by rw [HVV.out]; rfl, World.ownsRow_nil _ _ _ _, HB1.out, fun h => absurd (HVV.out.symm.trans h) (by decide), fun _ => ⟨rfl, rfl⟩⟩
  have HVV : Hid (I = 0) := by show I = 0; rw [← HI2.out, if_neg (by omega)]
  have hcn : cntE N l xs = 0 := by
    have q := HV.out.trans HE0.out
    unfold luE at q
    by_cases d : cntE N l xs ≠ 0
    · rw [if_pos d] at q; exact absurd q d
    · simpa using d
  obtain ⟨L, hxL, hNL, hc0, htd, hn0, hn1, hll, hpo⟩ := cnt_right hcn
  subst hxL
  subst hNL
  have hbd : 1 ≤ bd := by
    have q := HV.out.trans HE0.out
    unfold luE at q
    rw [if_neg (by simp [hcn])] at q
    by_cases d : bd < 1 ∨ 1024 < bd
    · rw [if_pos d] at q; cases q
    · omega
  obtain ⟨B, hB⟩ : ∃ B : Nat, bd = (B : Int) := ⟨bd.toNat, by omega⟩
  subst hB
  obtain ⟨M0, hM⟩ : ∃ M0 : Nat, mo = (M0 : Int) := ⟨mo.toNat, by omega⟩
  subst hM
  have hM0 : M0 ≤ 16384 := by omega
  obtain ⟨ix, ox, hix⟩ := HAX.out.get
  obtain ⟨rfl, _, _⟩ := hix (by rw [ints_len]; exact hn0)
  have hB2 := better_any ⟨ix, ox, none⟩ a l cap L bc B M0 w1 hn1 hn0 hll hM0 htd hpo (HAR.out.on (by rw [hp]; exact HB1.out)) (HAX.out.on (by rw [hp]; exact HB1.out))
  rw [← ints_len L] at hB2
  have hil : (ints L).length = L.length := ints_len L
  have HB2 : Hid (Calls Try.prog 37 #[.agg #[.int .i64 L.length, .slice a l.length cap], .slice (some ⟨ix, ox, none⟩) (ints L).length bc, .int .i64 B, .int .i64 M0] w1 fun e w' => ∃ (v : Option Addr) (c m : Nat) (out : List Nat), e = .returned (.tuple #[.slice v out.length c, .int .i64 (m : Int)]) ∧ w'.ownsRow w1.heap.size 3 1 (.slice v out.length c) out.length (cellsI (ints out)) ∧ Hid (RImp (prl l) B M0 L out m) ∧ Below w1.heap.size w1 w') := by
    rw [hil] at hB2
    show Calls Try.prog 37 #[.agg #[.int .i64 L.length, .slice a l.length cap], .slice (some ⟨ix, ox, none⟩) (ints L).length bc, .int .i64 B, .int .i64 M0] w1 _
    rw [hil]
    exact hB2
  have HTD := Lib.hid htd
  have hz1 : p ≤ w1.heap.size := Nat.le_of_lt (lt_of_block hg1)
  clear hB2 hil hix hcn hc0 htd hpo hbd
  go_wp2_with fail
  refine HB2.out.mono ?_
  rintro e w2 ⟨v, c, m, out, rfl, hown, HRI, hb2⟩
  have HO := Lib.hid (own_base hown hz1)
  have HBB := Lib.hid (below_t HB1.out hp hb2)
  clear hown hb2 HB2
  go_wp2_with fail
  refine bodyPost_ret (v := .tuple #[.slice v out.length c, .int .i64 (m : Int), .int .i64 0]) (by simp [results, Try.results19, go_sem]) rfl ?_
  exact ⟨v, c, m, out, by rw [HVV.out], HO.out, HBB.out, fun _ => ⟨L, B, rfl, rfl, HTD.out, by rw [Int.toNat_natCast]; exact HRI.out⟩, fun h => absurd HVV.out h⟩
end Go.Proofs.Ytgpaoiddjlpcmaa
