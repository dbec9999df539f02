/-
  The contracts of flyoverref09.Together and Join. Labels put together and tidied each time: the mathematics.
-/
import Derived.Test.YtchfccbneedejaaZCB
import Derived.Test.YtchfccbneedejaaZDB
import Derived.Test.YtchfccbneedejaaZDA
import Derived.Test.YtchfccbneedejaaZAQ
import Derived.Test.YtchfccbneedejaaZAN
import Derived.Deep.LoopGhost
namespace Go.Proofs.Ytchfccbneedejaa
open Go.RowKit
/-- So many steps, tidied each time. -/
inductive RJN (P : List Pr) (B : Nat) : Nat → List Nat → List Nat → Prop
  | stop {T : List Nat} (h : ∀ a b, ¬ Fit P T B a b) : RJN P B 0 T T
  | step {k : Nat} {T E : List Nat} {a b : Nat} (h : Bst P T B a b) (r : RJN P B k (tdL (mrg T a b)) E) : RJN P B (k + 1) T E
theorem ldI_pat {L T : List Nat} (hl : T.length = L.length) (he : ∀ u v, u < L.length → v < L.length → (L.getD u 0 = L.getD v 0 ↔ T.getD u 0 = T.getD v 0)) {v : Nat} (hv : v < L.length) : ldI (ints L) v = ldI (ints T) v := by
  have a1 := ldI_le (ints L) v
  have a2 := ldI_le (ints T) v
  have b1 := ldI_at (ints L) v
  have b2 := ldI_at (ints T) v
  rw [ints_at (by omega), ints_at hv] at b1
  rw [ints_at (by omega), ints_at (by omega)] at b2
  rcases Nat.lt_trichotomy (ldI (ints L) v) (ldI (ints T) v) with h | h | h
  · have := ldI_min h
    rw [ints_at (by omega), ints_at (by omega)] at this
    exact absurd (congrArg (fun x : Nat => (x : Int)) ((he (ldI (ints L) v) v (by omega) hv).1 (by omega))) this
  · exact h
  · have := ldI_min h
    rw [ints_at (by omega), ints_at hv] at this
    exact absurd (congrArg (fun x : Nat => (x : Int)) ((he (ldI (ints T) v) v (by omega) hv).2 (by omega))) this
theorem cnt_cong {R R' : Nat → Nat} : ∀ k, (∀ w, w < k → R w = R' w) → T3.cnt R k = T3.cnt R' k
  | 0, _ => rfl
  | k + 1, h => by
    rw [T3.cnt, T3.cnt, h k (by omega), cnt_cong k (fun w hw => h w (by omega))]
theorem tdL_pat {L T : List Nat} (hl : T.length = L.length) (he : ∀ u v, u < L.length → v < L.length → (L.getD u 0 = L.getD v 0 ↔ T.getD u 0 = T.getD v 0)) : tdL T = tdL L := by
  unfold tdL T3.labs
  rw [hl]
  refine List.map_congr_left (fun v hv => ?_)
  have hv := List.mem_range.1 hv
  unfold T3.lab
  rw [← ldI_pat hl he hv]
  refine cnt_cong _ (fun w hw => (ldI_pat hl he ?_).symm)
  have := ldI_le (ints L) v
  omega
theorem like_tdL {L : List Nat} (h : Ordl L) : Like L (tdL L) := by
  have hlt : ∀ u v, u < L.length → v < L.length → L.getD u 0 < L.getD v 0 → (tdL L).getD u 0 < (tdL L).getD v 0 := fun u v hu hv he => by
    rw [tdL_getD hu, tdL_getD hv]
    have a2 := ldI_le (ints L) v
    have b2 := ldI_at (ints L) v
    rw [ints_at (by omega), ints_at hv] at b2
    obtain ⟨t, ht, e⟩ := h u (ldI (ints L) v) hu (by omega) (by omega)
    have h1 : ldI (ints L) u ≤ t := Nat.le_of_not_lt (fun hlt => by
      have := ldI_min hlt
      rw [ints_at (by omega), ints_at hu] at this
      exact this (by rw [e]))
    unfold T3.lab
    exact T3.cnt_root ((ldI_RT (ints L)).rr u) (by omega)
  refine ⟨tdL_len L, fun u v hu hv => ⟨hlt u v hu hv, fun h2 => ?_⟩⟩
  rcases Nat.lt_trichotomy (L.getD u 0) (L.getD v 0) with e | e | e
  · exact e
  · have := (tdL_eq hu hv).2 e
    omega
  · have := hlt v u hv hu e
    omega
theorem ordl_right {L : List Nat} (hT : tdy (ints L) 0 = true) : Ordl L := fun u v hu hv he => by
  have hs := tdL_self hT
  have e1 := tdL_getD hu
  have e2 := tdL_getD hv
  rw [hs] at e1 e2
  refine ⟨ldI (ints L) u, ?_, ?_⟩
  · rw [e1, e2] at he
    unfold T3.lab at he
    have := ldI_le (ints L) v
    refine Nat.lt_of_lt_of_le (Nat.lt_of_not_le (fun hle => ?_)) this
    have := T3.cnt_mono (ldI (ints L)) hle
    omega
  · have h1 := ldI_at (ints L) u
    have h2 := ldI_le (ints L) u
    rw [ints_at (by omega), ints_at hu] at h1
    omega
/-- Steps that are tidied in the end come to what is tidied each time. -/
theorem Jn.rj {P : List Pr} {B : Nat} {L E : List Nat} (h : Jn P B L E) : Ordl L → PIn P L.length → ∃ k, RJN P B k (tdL L) (tdL E) := by
  induction h with
  | @stop L h =>
    intro ho hP
    have hk := like_tdL ho
    refine ⟨0, .stop (fun a b hf => ?_)⟩
    have hP2 : PIn P (tdL L).length := by rw [tdL_len]; exact hP
    obtain ⟨u, v, hu, hv, rfl, rfl⟩ := hf.ends hP2
    exact h _ _ (hk.symm.fit hP2 hu hv hf)
  | @step L E a b h1 _ ih =>
    intro ho hP
    have hk := like_tdL ho
    obtain ⟨u, v, hu, hv, rfl, rfl⟩ := h1.1.ends hP
    obtain ⟨k, hr⟩ := ih (ho.mrgE h1.1.1 ⟨u, hu, rfl⟩) (by rw [mrg_len]; exact hP)
    refine ⟨k + 1, .step (hk.bst hP hu hv h1) ?_⟩
    have hm := hk.mrgE hu hv
    rw [tdL_pat hm.len (fun s t hs ht => hm.eq hs ht)]
    exact hr
theorem rj_of {P : List Pr} {B : Nat} {L F : List Nat} (hT : tdy (ints L) 0 = true) (hP : PIn P L.length) (h : Jn P B L F) : ∃ k, RJN P B k L (tdL F) := by
  have := h.rj (ordl_right hT) hP
  rw [tdL_self hT] at this
  exact this
end Go.Proofs.Ytchfccbneedejaa
namespace Go.Proofs.Ytchfccbneedejaa
open Go.RowKit
set_option maxRecDepth 100000 in
set_option maxHeartbeats 3200000 in
theorem rtogether_any (n : Nat) (a : Option Addr) (l : List A) (cap : Nat) (ad : Addr) (L : List Nat) (bc B k0 : Nat) (E : List Nat) (w : World) (hC : chkE n l = 0) (hL : L.length = n) (hT : tdy (ints L) 0 = true) (hrj : RJN (prl l) B k0 L E) (hr : Arcs w a l) (hi : Ints w (some ad) (ints L)) :
    Calls Try.prog 44 #[.agg #[.int .i64 n, .slice a l.length cap], .slice (some ad) L.length bc, .int .i64 B] w fun e w' => ∃ v c, e = .returned (.slice v E.length c) ∧ w'.ownsRow w.heap.size 3 1 (.slice v E.length c) E.length (cellsI (ints E)) ∧ Below w.heap.size w w' := by
  subst hL
  obtain ⟨i3, hi3, hz3, hs3, hby3⟩ := info_parts info3
  obtain ⟨h1n, hn, hl, hoa⟩ := chk_zero hC
  clear hoa
  have hn' : L.length ≤ 1024 := by omega
  have h1n' : 0 < L.length := by omega
  have HPI := Lib.hid (prl_in hC)
  have hPL : (prl l).length ≤ 8192 := Nat.le_trans (prl_len l) hl
  have hb0 : Below w.heap.size w (w.alloc (.cells #[.int .i64 L.length, .slice a l.length cap] 24)) := (Below.refl _ _).alloc (Nat.le_refl _) _
  have hg := heap_top w (.cells #[.int .i64 L.length, .slice a l.length cap] 24)
  have HI := Lib.hid (hi.on hb0)
  have HB0 := Lib.hid hb0
  have hwz : w.heap.size ≤ (w.alloc (.cells #[.int .i64 L.length, .slice a l.length cap] 24)).heap.size := hb0.size
  have HAL := Lib.hid (rall8_any L.length a l cap (w.alloc (.cells #[.int .i64 L.length, .slice a l.length cap] 24)) hC (hr.on hb0))
  have HRJ := Lib.hid hrj
  have HTT := Lib.hid hT
  obtain ⟨PP, HPP⟩ := named (prl l)
  rw [HPP.out] at HPI hPL HAL HRJ
  clear hb0 hr hi hT hrj hC
  generalize hp : w.heap.size = p at *
  obtain ⟨⟨c0, c1⟩, _⟩ := two_cells hg
  clear hg
  go_enter Try.func44, Try.ntmps44
  go_wp2_with fail
  generalize hW : w.alloc (.cells #[.int .i64 L.length, .slice a l.length cap] 24) = W at *
  clear hW
  refine HAL.out.mono ?_
  rintro e w1 ⟨pv, pc, rfl, hown1, hb1⟩
  have HB1 : Hid (Below p w w1) := HB0.out.trans (hb1.mono hwz)
  have HP1 := Lib.hid (OwnP.prs hown1)
  have HI1 := Lib.hid (HI.out.on hb1)
  have hz1 : p ≤ w1.heap.size := Nat.le_trans hwz hb1.size
  clear hown1 hb1 c0 c1 HAL HI HB0 hwz
  generalize hq : w1.heap.size = q at *
  have HNW := Lib.hid (ints_newsC HI1.out (.cells #[] 3))
  have HOW : Hid ((w1.alloc (.cells #[] 3)).ownsRow q 3 1 (.slice (some ⟨w1.heap.size, 0, none⟩) 0 0) 0 []) := World.ownsRow_lit (base := q) (e := 3) (size := 1) w1 #[] 0 (by omega) (by decide) rfl
  have HBB : Hid (Below q w1 (w1.alloc (.cells #[] 3))) := (Below.refl _ _).alloc (by omega) _
  have HCL : Hid ((cellsI (ints L)).length = L.length * 1) := by show _ = _; rw [cellsI_len, ints_len]; omega
  rw [hq] at HOW
  go_wp2_with (at_builtin; refine wpList_append_own _ rfl (.tmp 15) (.tmp 16) 25 rfl q 3 i3 (.int .i64 0) 1 8 Try.underlying25 hi3 hz3 hs3 hby3 rfl (by decide) (.slice (some ⟨q, 0, none⟩) 0 0) 0 [] rfl HOW.out ad L.length bc (cellsI (ints L)) rfl HCL.out HNW.out (one_I _) (by unfold maxLen; omega) (by omega) (by simp; omega) ?_; intro v6 w6 hown6 hgrow6 hnil6; obtain ⟨g, gc, hv6, _, _, _, _⟩ := own_shape hown6 (fun e => by have := hnil6.1 e; simp at this); rw [hv6] at hown6 ⊢; clear hnil6 hv6; simp only [Nat.zero_add, List.nil_append] at hown6 ⊢; have HO2 := Lib.hid hown6; have HB2 : Hid (Below q w1 w6) := HBB.out.grown hgrow6 (by simp; omega) (by intro k hk; cases hk; exact Nat.le_refl _); clear hown6 hgrow6)
  go_loopg [8] k0 (fun gk s8 wr => ∃ (T : List Nat) (g gc : Nat), s8 = .slice (some ⟨g, 0, none⟩) L.length gc ∧ Hid (T.length = L.length) ∧ Hid (tdy (ints T) 0 = true) ∧ Hid (RJN PP B gk T E) ∧ Hid (wr.ownsRow q 3 1 (.slice (some ⟨g, 0, none⟩) L.length gc) L.length (cellsI (ints T))) ∧ Hid (Below q w1 wr))
  case atStart => exact ⟨L, g, gc, rfl, rfl, HTT, HRJ, HO2, HB2⟩
  case round =>
    obtain ⟨T, g, gc, rfl, HTL, HTR, HRG, HOT, HBW⟩ := hrel
    clear HO2 HB2 HRJ HTT HNW HOW HBB HCL
    have hqr : q ≤ wr.heap.size := hq ▸ HBW.out.size
    have HIT := Lib.hid (own_ints HOT.out HTL.out)
    have HBE := Lib.hid (rbest_any pv PP pc (some ⟨g, 0, none⟩) T gc B wr hPL (by rw [HTL.out]; exact hn') (by rw [HTL.out]; exact h1n') (by rw [HTL.out]; exact HPI.out) HTR.out (HP1.out.on (by rw [hq]; exact HBW.out)) HIT.out)
    rw [HTL.out] at HBE
    go_wp2_with fail
    refine HBE.out.mono ?_
    rintro e w2 ⟨x, y, V, rfl, hV, hb2⟩
    have HBI := Lib.hid hV.out
    have HO2 := Lib.hid (own_on HOT.out hb2)
    have HB2 : Hid (Below q w1 w2) := HBW.out.trans (hb2.mono hqr)
    have hq2 : q ≤ w2.heap.size := Nat.le_trans hqr hb2.size
    clear hV hb2 HBE HIT
    cases V
    · have hE : T = E := by
        have h := HRG.out
        cases h with
        | stop _ => rfl
        | step h1 _ => exact absurd h1.1 (HBI.out.2 rfl _ _)
      subst hE
      have HBR : Hid (Below p w w2) := HB1.out.trans (HB2.out.mono hz1)
      go_wp2_with fail
      go_ret
      refine ⟨some ⟨g, 0, none⟩, gc, ?_, ?_, HBR.out⟩
      · rw [HTL.out]; rfl
      · rw [HTL.out]; exact own_base HO2.out hz1
    · obtain ⟨gk', hgk, HRN⟩ : ∃ gk', gk = gk' + 1 ∧ Hid (RJN PP B gk' (tdL (mrg T x y)) E) := by
        have hb := HBI.out.1 rfl
        have h := HRG.out
        cases h with
        | stop h1 => exact absurd hb.1 (h1 _ _)
        | step h1 r =>
          obtain ⟨rfl, rfl⟩ := h1.one hb
          exact ⟨_, rfl, r⟩
      have HGK := Lib.hid hgk
      obtain ⟨gg, rfl⟩ : ∃ gg, gg = gk := ⟨gk, rfl⟩
      clear hgk HRG HBI
      obtain ⟨Z, rfl⟩ : ∃ Z, Z = w2 := ⟨w2, rfl⟩
      go_wp2_with fail
      go_loopw [12] (fun i wr => ∃ k : Nat, k ≤ L.length ∧ i = .int .i64 k ∧ Hid (wr.ownsRow q 3 1 (.slice (some ⟨g, 0, none⟩) L.length gc) L.length (cellsI (ints (part T x y k)))) ∧ Hid (Below q w1 wr)) (fun i _ => L.length - (intOf i).toNat)
      case atStart => exact ⟨0, Nat.zero_le _, rfl, (show part T x y 0 = T from rfl) ▸ HO2, HB2⟩
      case round =>
        obtain ⟨k, hk, rfl, HO, HBK⟩ := hrel
        clear HO2 HB2
        have HPL2 : Hid ((part T x y k).length = L.length) := (part_len T x y k).trans HTL.out
        by_cases hlk : k < L.length
        · have hlk' : (k : Int) < L.length := by omega
          have hTk : k < T.length := by rw [HTL.out]; exact hlk
          have HO' : Hid (wr.ownsRow q 3 1 (.slice (some ⟨g, 0, none⟩) (part T x y k).length gc) (part T x y k).length (cellsI (ints (part T x y k)))) := by rw [HPL2.out]; exact HO
          have y0 := own_cellI HO'.out (k := k) (by rw [HPL2.out]; exact hlk)
          have y1 := World.ownsRow.frozenAt HO'.out k
          rw [part_get x y hTk] at y0
          have hgq : q ≤ g := (HO.out.lt g rfl).1
          by_cases hv : T.getD k 0 = y
          · have HPN := Lib.hid (part_next (L := T) x y hTk)
            rw [if_pos hv] at HPN
            rw [hv] at y0
            have HJN := Lib.hid (own_setI HO'.out k x)
            rw [← HPN.out] at HJN
            have HPL3 : Hid ((part T x y (k + 1)).length = L.length) := (part_len T x y (k + 1)).trans HTL.out
            rw [HPL3.out] at HJN
            have e1 : ((y : Int) == (y : Int)) = true := by simp
            clear hv hTk
            go_wp2_with fail
            exact ⟨⟨k + 1, by omega, by simp, HJN, HBK.out.setCell hgq _⟩, by simp [intOf]; omega⟩
          · have hv' : (((T.getD k 0 : Nat) : Int) == (y : Int)) = false := by simp only [beq_eq_false_iff_ne]; omega
            have HPN := Lib.hid (part_same (L := T) x y hTk hv)
            generalize T.getD k 0 = lv at *
            clear hv hTk
            go_wp2_with fail
            refine ⟨⟨k + 1, by omega, by simp, ?_, HBK⟩, by simp [intOf]; omega⟩
            rw [HPN.out]
            exact HO
        · obtain rfl : k = L.length := by omega
          have hlk' : ¬ (L.length : Int) < L.length := by omega
          have HPE : Hid (part T x y L.length = mrg T x y) := by show _ = _; rw [← HTL.out]; exact part_end T x y
          rw [HPE.out] at HO
          have HML : Hid ((mrg T x y).length = L.length) := (mrg_len T x y).trans HTL.out
          have HTD := Lib.hid (T3.rtidyI_any (some ⟨g, 0, none⟩) L.length gc (ints (mrg T x y)) (ldI (ints (mrg T x y))) wr hn' (ldI_RT _) (by rw [ints_len, HML.out]) (fun u v _ _ => ldI_iff) (own_ints HO.out HML.out))
          have hqw : q ≤ wr.heap.size := hq ▸ HBK.out.size
          go_wp2_with fail
          refine HTD.out.mono ?_
          rintro e w3 ⟨rfl, hown3, hb3⟩
          have HO3 : Hid (w3.ownsRow q 3 1 (.slice (some ⟨wr.heap.size, 0, none⟩) L.length L.length) L.length (cellsI (ints (tdL (mrg T x y))))) := by
            have h : w3.ownsRow wr.heap.size 3 1 (.slice (some ⟨wr.heap.size, 0, none⟩) L.length L.length) L.length (cellsI (T3.ints (T3.labs (ldI (ints (mrg T x y))) L.length))) := hown3
            have e : tdL (mrg T x y) = T3.labs (ldI (ints (mrg T x y))) L.length := by unfold tdL; rw [HML.out]
            rw [e]
            exact own_base h hqw
          have HB3 : Hid (Below q w1 w3) := HBK.out.trans (hb3.mono hqw)
          have HTL3 : Hid ((tdL (mrg T x y)).length = L.length) := (tdL_len _).trans HML.out
          have HTR3 := Lib.hid (tdL_right (mrg T x y))
          clear hown3 hb3 HTD
          go_wp2_with fail
          go_roundg gk'
          case measure => have := HGK.out; omega
          case rel => exact ⟨_, _, _, rfl, HTL3, HTR3, HRN, HO3, HB3⟩
theorem JnR.one {N : Int} {l : List A} {xs : List Int} {bd : Int} {E E' : List Nat} (h : JnR N l xs bd E) (h' : JnR N l xs bd E') : E = E' := by
  by_cases h0 : jnE N l xs bd = 0
  · obtain ⟨F, hF, rfl⟩ := h.1 h0
    obtain ⟨F', hF', rfl⟩ := h'.1 h0
    rw [hF.one hF']
  · rw [h.2 h0, h'.2 h0]
set_option maxRecDepth 100000 in
set_option maxHeartbeats 3200000 in
theorem rjoin_any (N : Int) (a : Option Addr) (l : List A) (cap : Nat) (b : Option Addr) (xs : List Int) (bc : Nat) (bd : Int) (E : List Nat) (w : World) (hE : JnR N l xs bd E) (hl : l.length ≤ 9223372036854775807) (hx : xs.length ≤ 9223372036854775807) (hr : Arcs w a l) (hi : Ints w b xs) :
    Calls Try.prog 21 #[.agg #[.int .i64 N, .slice a l.length cap], .slice b xs.length bc, .int .i64 bd] w fun e w' => ∃ v c, e = .returned (.tuple #[.slice v E.length c, .int .i64 (jnE N l xs bd)]) ∧ w'.ownsRow w.heap.size 3 1 (.slice v E.length c) E.length (cellsI (ints E)) ∧ Below w.heap.size w w' := by
  have hb0 : Below w.heap.size w (w.alloc (.cells #[.int .i64 N, .slice a l.length cap] 24)) := (Below.refl _ _).alloc (Nat.le_refl _) _
  have hg := heap_top w (.cells #[.int .i64 N, .slice a l.length cap] 24)
  have HB0 := Lib.hid hb0
  have HR := Lib.hid (hr.on hb0)
  have HI := Lib.hid (hi.on hb0)
  have HG := Lib.hid hg
  have hwz : w.heap.size ≤ (w.alloc (.cells #[.int .i64 N, .slice a l.length cap] 24)).heap.size := hb0.size
  have HLK := Lib.hid (looked_any N a l cap b xs bc bd (w.alloc (.cells #[.int .i64 N, .slice a l.length cap] 24)) hl hx HR.out HI.out)
  have HJR := Lib.hid hE
  obtain ⟨JE, HJ0⟩ := named (jnE N l xs bd)
  rw [HJ0.out]
  clear hb0 hr hi hE
  generalize hp : w.heap.size = p at *
  obtain ⟨⟨c0, c1⟩, _⟩ := two_cells hg
  clear hg
  go_enter Try.func21, Try.ntmps21
  go_wp2_with fail
  generalize hW : w.alloc (.cells #[.int .i64 N, .slice a l.length cap] 24) = W at *
  clear hW
  have hpW : p < W.heap.size := lt_of_block HG.out
  refine HLK.out.mono ?_
  rintro e w1 ⟨rfl, hb1⟩
  have HB1 : Hid (Below p w w1) := HB0.out.trans (hb1.mono hwz)
  have HG1 := Lib.hid ((hb1.block p hpW).trans HG.out)
  have hp1 : p < w1.heap.size := lt_of_block HG1.out
  have HR1 := Lib.hid (HR.out.on hb1)
  have HI1 := Lib.hid (HI.out.on hb1)
  clear c0 c1 hb1 HLK HR HI HG HB0
  obtain ⟨⟨c0, c1⟩, _⟩ := two_cells HG1.out
  by_cases h0 : ckE N l xs bd = 0
  · obtain ⟨h1, h2, h3, h4, h5⟩ := ckE_zero h0
    rw [h0]
    obtain ⟨L, HL⟩ := named (xs.map Int.toNat)
    have e1 : xs = ints L := by rw [← HL.out]; exact right_ints h3
    have hLl : L.length = xs.length := by rw [e1, ints_len]
    obtain ⟨B, rfl⟩ : ∃ B : Nat, bd = (B : Int) := ⟨bd.toNat, by omega⟩
    have hN : N = ((L.length : Nat) : Int) := by rw [hLl]; exact h2.symm
    subst hN
    have HC := Lib.hid h1
    have hT : tdy (ints L) 0 = true := e1 ▸ h3
    rw [e1] at HI1 HJR HJ0 ⊢
    rw [ints_len]
    have hn' : L.length ≤ 1024 := by have := (chk_zero h1).2.1; omega
    have h1n' : 0 < L.length := by have := (chk_zero h1).1; omega
    have HJE : Hid (jnE L.length l (ints L) B = if (B : Int) < ((mxL (szL (ints L)) ((szL (ints L)).length - 1) : Nat) : Int) then 90 else 0) := by
      show _ = _
      unfold jnE
      rw [if_neg (by rw [e1] at h0; rw [h0]; simp)]
    have HTT := Lib.hid hT
    obtain ⟨ad, rfl⟩ : ∃ ad, b = some ad := by
      rcases HI1.out with h | ⟨g, o, hab, _⟩
      · have h9 := congrArg List.length h; rw [ints_len] at h9; have e0 : L.length = 0 := h9; omega
      · exact ⟨_, hab⟩
    have HSZ := Lib.hid (rsize_any (some ad) (ints L) bc w1 (by rw [ints_len]; exact hn') hT HI1.out)
    rw [ints_len] at HSZ
    have hS1 : (szL (ints L)).length ≤ 1024 := Nat.le_trans (szL_length _) (by rw [ints_len]; exact hn')
    have hS0 := szL_pos hT h1n'
    obtain ⟨S, HS⟩ := named (szL (ints L))
    rw [HS.out] at HSZ hS1 HJE hS0
    clear h0 h1 h2 h3 h4 h5 e1 hLl hT
    go_wp2_with fail
    refine HSZ.out.mono ?_
    rintro e w2 ⟨sv, sc, rfl, hown2, hb2⟩
    have HB2 : Hid (Below p w w2) := HB1.out.trans (hb2.mono (Nat.le_of_lt hp1))
    have HG2 := Lib.hid ((hb2.block p hp1).trans HG1.out)
    have HR2 := Lib.hid (HR1.out.on hb2)
    have HI2 := Lib.hid (HI1.out.on hb2)
    have hp2 : p ≤ w2.heap.size := Nat.le_of_lt (lt_of_block HG2.out)
    obtain ⟨is, os, his⟩ := (own_ints hown2 rfl).get
    obtain ⟨rfl, hbs, hats⟩ := his (by rw [ints_len]; exact hS0)
    have HAS : Hid (∀ j, j < S.length → w2.cell? ⟨is, os + j, none⟩ = some (.int .i64 ((S.getD j 0 : Nat) : Int))) := fun j hj => by rw [← ints_getD hj]; exact hats j (by rw [ints_len]; exact hj)
    clear hown2 hb2 HSZ c0 c1 his hats
    obtain ⟨⟨c0, c1⟩, _⟩ := two_cells HG2.out
    go_wp2_with fail
    go_loopw [10] (fun i wr => ∃ k : Nat, k ≤ S.length ∧ i = .int .i64 k ∧ Hid (∀ j, j < k → S.getD j 0 ≤ B) ∧ Hid (wr = w2)) (fun i _ => S.length - (intOf i).toNat)
    case atStart => exact ⟨0, Nat.zero_le _, rfl, (fun j hj => absurd hj (by omega)), rfl⟩
    case round =>
      obtain ⟨k, hk, rfl, HJ, HW⟩ := hrel
      by_cases hlk : k < S.length
      · have hlk' : (k : Int) < S.length := by omega
        have y0 := HAS.out k hlk
        rw [← HW.out] at y0
        have HJN : Hid (S.getD k 0 ≤ B → ∀ j, j < k + 1 → S.getD j 0 ≤ B) := fun h j hj => by
          by_cases e : j = k
          · rw [e]; exact h
          · exact HJ.out j (by omega)
        have HMX := Lib.hid (mxL_le S (S.length - 1) k (by omega))
        obtain ⟨s, HSS⟩ := named (S.getD k 0)
        rw [HSS.out] at y0 HJN HMX
        by_cases hs : B < s
        · have hs' : (B : Int) < s := by omega
          have hj : jnE L.length l (ints L) B = 90 := by rw [HJE.out, if_pos (by have := HMX.out; omega)]
          have hE0 : E = [] := HJR.out.2 (by rw [hj]; decide)
          subst hE0
          obtain rfl : JE = 90 := by rw [← HJ0.out]; exact hj
          clear hj
          go_wp2_with fail
          go_ret2
          refine ⟨none, 0, rfl, World.ownsRow_nil _ _ _ _, ?_⟩
          rw [HW.out]
          exact HB2.out
        · have hs' : ¬ (B : Int) < s := by omega
          have HJ3 := Lib.hid (HJN.out (by omega))
          go_wp2_with fail
          exact ⟨⟨k + 1, by omega, by simp, HJ3, HW⟩, by simp [intOf]; omega⟩
      · obtain rfl : k = S.length := by omega
        have hlk' : ¬ (S.length : Int) < S.length := by omega
        have hj : jnE L.length l (ints L) B = 0 := by
          rw [HJE.out, if_neg ?_]
          obtain ⟨j, hj1, e⟩ := mxL_at S (S.length - 1)
          have := HJ.out j (by omega)
          omega
        have hFF : ∃ F, Jn (prl l) B L F ∧ E = tdL F := by
          obtain ⟨F, hF, e⟩ := HJR.out.1 hj
          rw [show (ints L).map Int.toNat = L by simp [ints, Function.comp_def], Int.toNat_natCast] at hF
          exact ⟨F, hF, e⟩
        obtain ⟨F, hF, rfl⟩ := hFF
        obtain ⟨k0, hk0⟩ := rj_of HTT.out (prl_in HC.out) hF
        have HTG := Lib.hid (rtogether_any L.length a l cap ad L bc B k0 (tdL F) w2 HC.out rfl HTT.out hk0 HR2.out HI2.out)
        obtain rfl : JE = 0 := by rw [← HJ0.out]; exact hj
        clear hj hk0 hF
        rw [← HW.out] at HTG c0 c1
        go_wp2_with fail
        refine HTG.out.mono ?_
        rintro e w3 ⟨v3, c3, rfl, hown3, hb3⟩
        rw [HW.out] at hown3 hb3
        have HO3 := Lib.hid (own_base hown3 hp2)
        have HB3 : Hid (Below p w w3) := HB2.out.trans (hb3.mono hp2)
        clear hown3 hb3 HTG
        go_wp2_with fail
        go_ret2
        exact ⟨v3, c3, rfl, HO3.out, HB3.out⟩
  · have hj : jnE N l xs bd = ckE N l xs bd := by unfold jnE; rw [if_pos h0]
    have hE0 : E = [] := HJR.out.2 (by rw [hj]; exact h0)
    subst hE0
    obtain ⟨G, HGG⟩ := named (ckE N l xs bd)
    obtain rfl : JE = G := by rw [← HJ0.out, ← HGG.out]; exact hj
    clear hj
    rw [HGG.out] at h0 ⊢
    have e1 : (JE != 0) = true := by simpa using h0
    clear h0
    go_wp2_with fail
    go_ret2
    exact ⟨none, 0, rfl, World.ownsRow_nil _ _ _ _, HB1.out⟩
end Go.Proofs.Ytchfccbneedejaa
