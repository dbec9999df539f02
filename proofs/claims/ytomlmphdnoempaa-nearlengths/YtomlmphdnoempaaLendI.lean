/-
  Contracts of flyoverbook.LendInts and KeptInts, and of flyoverref05.Length. Contracts of near.Length and flyoverref05.Length.
-/
import Derived.Test.YtomlmphdnoempaaTold
import Derived.Test.YtomlmphdnoempaaKept
namespace Go.Proofs.Ytomlmphdnoempaa
open Go.RowKit
open Hp (Fr)
/-- Ids by numbers. -/
def nats (xs : List Int) : List Nat := xs.map Int.toNat
theorem nats_len (xs : List Int) : (nats xs).length = xs.length := by simp [nats]
/-- How long arcs are, and what is wrong with them. -/
def lenR (N : Int) (l : List A) (s t : Int) (xs : List Int) : Int × Int :=
  if nearE N l [s, t] = 0 then
    (if 16384 < xs.length then (0, 2) else
      (if xs.all (okV l.length) = true then
        (if lrB (lrun l s.toNat 0 (nats xs)) t.toNat = true then (lrD (lrun l s.toNat 0 (nats xs)), 0) else (0, 4))
      else (0, 5)))
  else (0, nearE N l [s, t])
theorem nats_mem {n : Nat} {xs : List Int} (h : xs.all (okV n) = true) : ∀ j ∈ nats xs, j < n := by
  intro j hj
  unfold nats at hj
  obtain ⟨x, hx, rfl⟩ := List.mem_map.1 hj
  have := okV_t (List.all_eq_true.1 h x hx)
  omega
theorem nats_id {n : Nat} {xs : List Int} (h : xs.all (okV n) = true) : idI (nats xs) = xs := by
  unfold idI nats
  rw [List.map_map]
  have : ∀ x ∈ xs, ((fun j : Nat => (j : Int)) ∘ Int.toNat) x = x := fun x hx => by
    have := okV_t (List.all_eq_true.1 h x hx)
    simp; omega
  exact (List.map_congr_left this).trans (List.map_id _)
theorem nats_getD {n : Nat} {xs : List Int} (h : xs.all (okV n) = true) {k : Nat} (hk : k < xs.length) : xs.getD k 0 = (((nats xs).getD k 0 : Nat) : Int) := by
  have := idI_getD (nats xs) k (by rw [nats_len]; exact hk)
  rwa [nats_id h] at this
set_option maxHeartbeats 3200000 in
set_option maxRecDepth 100000 in
theorem length_any (N : Int) (a : Option Addr) (l : List A) (cap : Nat) (s t : Int) (ap : Option Addr) (xs : List Int) (c : Nat) (w : World) (hl : l.length ≤ 9223372036854775807) (hxl : xs.length ≤ 9223372036854775807) (hw : ∀ x ∈ l, 0 ≤ x.w ∧ x.w < 4294967296) (hr : Arcs w a l) (hi : Ints w ap xs) :
    Calls Try.prog 28 #[.agg #[.int .i64 N, .slice a l.length cap], .int .i64 s, .int .i64 t, .slice ap xs.length c] w fun e w' => e = .returned (.tuple #[.int .u64 (lenR N l s t xs).1, .int .i64 (lenR N l s t xs).2]) ∧ Below w.heap.size w w' := by
  have hb0 : Below w.heap.size w ((w.alloc (.cells #[.int .i64 N, .slice a l.length cap] 24)).alloc (.cells #[.int .i64 s, .int .i64 t] 3)) := ((Below.refl _ _).alloc (Nat.le_refl _) _).alloc (by simp) _
  have hg : ((w.alloc (.cells #[.int .i64 N, .slice a l.length cap] 24)).alloc (.cells #[.int .i64 s, .int .i64 t] 3)).heap[w.heap.size]? = some (.cells #[.int .i64 N, .slice a l.length cap] 24) := (Below.heap_alloc _ _ _ (by simp)).trans (heap_top w _)
  have hi2 := two_int (w.alloc (.cells #[.int .i64 N, .slice a l.length cap] 24)) s t
  rw [World.size_alloc] at hi2
  have HCK := Lib.hid (ncheck_any N a l cap _ [s, t] 2 _ hl (by simp) (hr.on hb0) hi2)
  have HR := Lib.hid hr
  have HI := Lib.hid hi
  have HW := Lib.hid hw
  obtain ⟨R, HRR⟩ := named (lenR N l s t xs)
  rw [HRR.out]
  clear hr hi hw hi2
  by_cases hE : nearE N l [s, t] = 0
  · rw [hE] at HCK
    obtain ⟨n, s, t, rfl, rfl, rfl, hs, ht, g⟩ := near_both hE HW.out
    have HG := Lib.hid g
    have hlb := g.lb
    have HR2 : Hid ((if 16384 < xs.length then ((0 : Int), (2 : Int)) else (if xs.all (okV l.length) = true then (if lrB (lrun l s 0 (nats xs)) t = true then (lrD (lrun l s 0 (nats xs)), 0) else (0, 4)) else (0, 5))) = R) := by
      show _ = _
      rw [← HRR.out]; unfold lenR; rw [if_pos hE]; simp only [Int.toNat_natCast]
    clear hE g HRR
    go_enter Try.func28, Try.ntmps28
    go_wp2_with fail
    refine HCK.out.mono ?_
    rintro e w1 ⟨rfl, hb1⟩
    have hg1 := (hb1.block _ (lt_of_block hg)).trans hg
    have b1 : Below w.heap.size w w1 := hb0.trans (hb1.mono hb0.size)
    clear hg hb0 hb1 HCK
    obtain ⟨⟨g0, g1⟩, -⟩ := two_cells hg1
    have HI1 := Lib.hid (HI.out.on b1)
    by_cases hlong : (16384 : Int) < xs.length
    · obtain rfl : R = (0, 2) := by rw [← HR2.out, if_pos (by omega)]
      go_wp2_with fail
      go_ret2
      exact ⟨rfl, b1⟩
    · have HR3 : Hid ((if xs.all (okV l.length) = true then (if lrB (lrun l s 0 (nats xs)) t = true then (lrD (lrun l s 0 (nats xs)), (0 : Int)) else (0, 4)) else (0, 5)) = R) := by
        have := HR2.out
        rwa [if_neg (by omega)] at this
      go_wp2_with fail
      go_loopw [31] (fun i wr => ∃ k : Nat, k ≤ xs.length ∧ i = .int .i64 k ∧ Hid ((xs.take k).all (okV l.length) = true) ∧ w1 = wr) (fun i _ => xs.length - (intOf i).toNat)
      case atStart => exact ⟨0, Nat.zero_le _, rfl, by show _ = _; simp, rfl⟩
      case round =>
        obtain ⟨k, hk, rfl, hall, rfl⟩ := hrel
        by_cases hlt : k < xs.length
        · obtain ⟨bx, ox, hxx⟩ := HI1.out.get
          obtain ⟨rfl, hbl, hat⟩ := hxx (by omega)
          have c0 := hat k hlt
          have hlt' : (k : Int) < xs.length := by omega
          clear hat hxx
          have HA := Lib.hid (fun h => all_take_succ (q := okV l.length) hlt hall.out h)
          have HB := Lib.hid (fun h => all_bad (q := okV l.length) hlt h)
          generalize xs.getD k 0 = v at *
          by_cases h1 : v < 0
          · obtain rfl : R = (0, 5) := by rw [← HR3.out, if_neg (by rw [HB.out (by simp [okV]; omega)]; simp)]
            go_wp2_with fail
            go_ret2
            exact ⟨rfl, b1⟩
          · by_cases h2 : (l.length : Int) ≤ v
            · obtain rfl : R = (0, 5) := by rw [← HR3.out, if_neg (by rw [HB.out (by simp [okV]; omega)]; simp)]
              go_wp2_with fail
              go_ret2
              exact ⟨rfl, b1⟩
            · have HA2 := Lib.hid (HA.out (by simp [okV]; omega))
              go_wp2_with fail
              exact ⟨⟨k + 1, by omega, by go_num, HA2, trivial⟩, by simp [intOf]; omega⟩
        · have hlt' : ¬ (k : Int) < xs.length := by omega
          have HAL : Hid (xs.all (okV l.length) = true) := by
            have := hall.out
            rwa [List.take_of_length_le (by omega)] at this
          obtain ⟨Q, HQ⟩ := named (lrun l s 0 (nats xs))
          have HR4 : Hid ((if lrB Q t = true then (lrD Q, (0 : Int)) else (0, 4)) = R) := by
            have := HR3.out
            rwa [if_pos HAL.out, HQ.out] at this
          obtain ⟨ba, oa, hab⟩ := (HR.out.on b1).b.get
          go_wp2_with fail
          go_loopw [13, 14, 48] (fun vv vd vi wr => ∃ (k v : Nat) (d : Int), k ≤ xs.length ∧ vi = .int .i64 k ∧ vd = .int .u64 d ∧ vv = .int .i64 v ∧ 0 ≤ d ∧ d ≤ Inf ∧ Hid (lrun l v d ((nats xs).drop k) = Q) ∧ Below w1.heap.size w1 wr) (fun _ _ vi _ => xs.length - (intOf vi).toNat)
          case atStart => exact ⟨0, s, 0, Nat.zero_le _, rfl, rfl, rfl, Int.le_refl _, by unfold Inf; omega, HQ, Below.refl _ _⟩
          case round =>
            obtain ⟨k, v, d, hk, rfl, rfl, rfl, hd0, hd1, hQ, hb⟩ := hrel
            obtain ⟨⟨g0, g1⟩, -⟩ := two_cells ((hb.block _ (lt_of_block hg1)).trans hg1)
            by_cases hkl : k < xs.length
            · have hkl' : (k : Int) < xs.length := by omega
              obtain ⟨bx, ox, hxx⟩ := HI1.out.get
              obtain ⟨rfl, hbp, hat⟩ := hxx (by omega)
              have c0 := (hb.cell (p := ⟨bx, ox + k, none⟩) hbp).trans (hat k hkl)
              rw [nats_getD HAL.out hkl] at c0
              have HSTEP := Lib.hid (lrun_step (l := l) (v := v) (d := d) (p := nats xs) (k := k) (by rw [nats_len]; exact hkl))
              have hj := nats_mem HAL.out _ (getD_mem (p := nats xs) (k := k) (by rw [nats_len]; exact hkl))
              generalize (nats xs).getD k 0 = j at *
              obtain ⟨rfl, hba, haa⟩ := hab (by omega)
              have hj' : (j : Int) < l.length := by omega
              obtain ⟨q0, q1, q2⟩ := (haa j hj).on hb
              have hmem := ar_mem hj
              have q0' : wr.cell? ⟨ba, oa + j * 3, none⟩ = some (.int .i64 (ar l j).f) := q0
              have q1' : wr.cell? ⟨ba, oa + j * 3 + 1, none⟩ = some (.int .i64 (ar l j).t) := q1
              have q2' : wr.cell? ⟨ba, oa + j * 3 + 2, none⟩ = some (.int .u32 (ar l j).w) := q2
              rw [HG.out.f_eq hmem] at q0'
              rw [HG.out.t_eq hmem] at q1'
              have hxw := HG.out.wt _ hmem
              obtain ⟨xa, HXA⟩ := named (ar l j)
              rw [HXA.out] at q0' q1' q2' hxw HSTEP
              clear q0 q1 q2 hmem haa hat
              by_cases hsv : src xa = v
              · have hsv' : (((src xa : Nat) : Int) == (v : Int)) = true := by simp [hsv]
                have HQ2 : Hid (lrun l (dst xa) (sat d xa.w) ((nats xs).drop (k + 1)) = Q) := by
                  show _ = _
                  rw [← hQ.out, HSTEP.out, if_pos hsv]
                have HADD := Lib.hid (fun w' : World => add_any d xa.w ⟨hd0, hd1⟩ ⟨hxw.1, by unfold Inf; omega⟩ w')
                have HS0 : Hid (0 ≤ sat d xa.w) := sat_ge (by omega) (by unfold Inf; omega)
                have HSI : Hid (sat d xa.w ≤ Inf) := sat_inf _ _
                have HWR : IntKind.u64.wrap xa.w = xa.w := wrap_u64 hxw.1 (by omega)
                obtain ⟨sx, HSX⟩ := named (sat d xa.w)
                rw [HSX.out] at HADD HQ2 HS0 HSI
                clear hsv
                go_wp2_with fail
                have B5 := Lib.hid (hb.alloc hb.size (.cells #[.int .i64 (src xa), .int .i64 (dst xa), .int .u32 xa.w] 57))
                obtain ⟨z0, z1, z2⟩ := three_cells (heap_top wr (.cells #[.int .i64 (src xa), .int .i64 (dst xa), .int .u32 xa.w] 57))
                generalize wr.alloc (.cells #[.int .i64 (src xa), .int .i64 (dst xa), .int .u32 xa.w] 57) = W5 at *
                clear c0 q0' q1' q2' hb g0 g1
                go_region_held3 (fun w' => w'.cell? ⟨wr.heap.size, 1, none⟩ = some (.int .i64 (dst xa)) ∧ w'.cell? ⟨wr.heap.size, 2, none⟩ = some (.int .u32 xa.w)) (go_keep) ((go_at_call 31; refine (HADD.out _).mono ?_; rintro e w' ⟨rfl, rfl⟩))
                go_wp2_with fail
                exact ⟨⟨k + 1, dst xa, sx, by omega, by go_num, rfl, rfl, HS0.out, HSI.out, HQ2, by first | exact B5.out | exact B5.out.drew⟩, by simp [intOf]; omega⟩
              · have hsv' : (((src xa : Nat) : Int) == (v : Int)) = false := by simp; omega
                obtain rfl : Q = none := by rw [← hQ.out, HSTEP.out, if_neg hsv]
                obtain rfl : R = (0, 4) := by rw [← HR4.out]; simp [lrB]
                clear hsv
                go_wp2_with fail
                go_ret2
                exact ⟨rfl, (b1.trans (hb.mono b1.size)).alloc (by have := b1.size; have := hb.size; omega) _⟩
            · have hkl' : ¬ (k : Int) < xs.length := by omega
              obtain rfl : Q = some (v, d) := by rw [← hQ.out, List.drop_of_length_le (by rw [nats_len]; omega)]; rfl
              have b2 := b1.trans (hb.mono b1.size)
              by_cases hvt : v = t
              · have hvt' : ((v : Int) == (t : Int)) = true := by simp [hvt]
                obtain rfl : R = (d, 0) := by rw [← HR4.out]; simp [lrB, lrD, hvt]
                clear hvt
                go_wp2_with fail
                go_ret2
                exact ⟨rfl, b2⟩
              · have hvt' : ((v : Int) == (t : Int)) = false := by simp; omega
                obtain rfl : R = (0, 4) := by rw [← HR4.out]; simp [lrB, hvt]
                clear hvt
                go_wp2_with fail
                go_ret2
                exact ⟨rfl, b2⟩
  · obtain rfl : R = (0, nearE N l [s, t]) := by rw [← HRR.out]; unfold lenR; rw [if_neg hE]
    have hE' : (nearE N l [s, t] == 0) = false := beq_eq_false_iff_ne.2 hE
    clear HRR
    generalize nearE N l [s, t] = E at *
    clear hE
    go_enter Try.func28, Try.ntmps28
    go_wp2_with fail
    refine HCK.out.mono ?_
    rintro e w1 ⟨rfl, hb1⟩
    have b1 : Below w.heap.size w w1 := hb0.trans (hb1.mono hb0.size)
    go_wp2_with fail
    go_ret2
    exact ⟨rfl, b1⟩
end Go.Proofs.Ytomlmphdnoempaa
namespace Go.Proofs.Ytomlmphdnoempaa
open Go.RowKit
/-- Numbers that are lent. -/
def LentI (w w' : World) (e : Ending) (xs : List Int) : Prop :=
  ∃ g c, e = .returned (.slice (some ⟨g, 0, none⟩) xs.length c) ∧ xs.length < c ∧ c ≤ 9223372036854775807 ∧ w'.ownsRow w.heap.size 3 1 (.slice (some ⟨g, 0, none⟩) (xs.length + 1) c) (xs.length + 1) (cellsI (xs ++ [-77])) ∧ Below w.heap.size w w'
theorem one_i (xs : List Int) : ∀ u ∈ cellsI xs, u.oneCell' = true := by
  intro u hu
  unfold cellsI at hu
  obtain ⟨x, _, rfl⟩ := List.mem_map.1 hu
  rfl
theorem ints_news {w : World} {ad : Addr} {xs : List Int} (h : Ints w (some ad) xs) (o : Obj) : ∀ j u, (cellsI xs)[j]? = some u → (w.alloc o).cell? (ad.add j) = some u := by
  intro j u hu
  rcases h with rfl | ⟨b, o', hab, hl, hc⟩
  · simp [cellsI] at hu
  · cases hab
    have hj : j < xs.length := by
      rcases Nat.lt_or_ge j xs.length with h' | h'
      · exact h'
      · rw [List.getElem?_eq_none (by rw [cellsI_len]; exact h')] at hu; cases hu
    rw [cellsI_getD xs j hj] at hu
    rw [Go.WideShapes.add_plain]
    exact ((((Below.refl w.heap.size w).alloc (Nat.le_refl _) o).cell (p := ⟨b, o' + j, none⟩) hl).trans (hc j hj)).trans hu
theorem mark_i (w : World) : ∀ j u, (cellsI [-77])[j]? = some u → (w.alloc (.cells #[.int .i64 (-77)] 3)).cell? ((⟨w.heap.size, 0, none⟩ : Addr).add j) = some u := one_new w (-77)
theorem cellsI_append (a b : List Int) : cellsI (a ++ b) = cellsI a ++ cellsI b := by simp [cellsI]
set_option maxHeartbeats 1600000 in
theorem lendI_some (ad : Addr) (xs : List Int) (cap : Nat) (w : World) (hlen : xs.length * 8 ≤ 140737488351232) (hr : Ints w (some ad) xs) :
    Calls Try.prog 27 #[.slice (some ad) xs.length cap] w fun e w' => LentI w w' e xs := by
  obtain ⟨i0, hi, hz0, hz1, hz2⟩ := info_parts info3
  have HN := Lib.hid (ints_news hr (.cells #[] 3))
  have HL := Lib.hid (cellsI_len xs)
  have HA : Hid (cellsI xs ++ cellsI [-77] = cellsI (xs ++ [-77])) := (cellsI_append xs [-77]).symm
  have hown0 := World.ownsRow_lit (base := w.heap.size) (e := 3) (size := 1) w #[] 0 (Nat.le_refl _) (by decide) rfl
  go_enter Try.func27, Try.ntmps27
  go_wp2_with (first
    | (at_builtin; refine wpList_append_own _ rfl (.tmp 4) (.tmp 5) 44 rfl w.heap.size 3 i0 _ 1 8 Try.underlying44 hi hz0 hz1 hz2 rfl (by decide) (.slice (some ⟨w.heap.size, 0, none⟩) 0 0) 0 [] rfl hown0 ad xs.length cap (cellsI xs) rfl (by rw [HL.out]; omega) HN.out (one_i xs) (by unfold maxLen; omega) (by omega) (by simp) ?_; intro v1 w1 hown1 hgrow1 hnil1; obtain ⟨g1', c1, hv1, hg1, hc1, hs1, hm1⟩ := own_shape hown1 (fun e => by have := hnil1.1 e; simp at this); rw [hv1] at hown1 ⊢; clear hnil1 hv1; simp only [Nat.zero_add, List.nil_append] at hown1 hc1 ⊢)
    | (at_builtin; refine wpList_append_own _ rfl (.tmp 7) (.tmp 8) 44 rfl w.heap.size 3 i0 _ 1 8 Try.underlying44 hi hz0 hz1 hz2 rfl (by decide) (.slice (some ⟨g1', 0, none⟩) xs.length c1) xs.length (cellsI xs) rfl (hown1.alloc _) ⟨w1.heap.size, 0, none⟩ 1 1 (cellsI [-77]) rfl rfl (mark_i w1) (one_i _) (by unfold maxLen; omega) (by omega) (by simp; omega) ?_; intro v2 w2 hown2 hgrow2 hnil2; obtain ⟨g2, c2, hv2, hg2, hc2, hs2, hm2⟩ := own_shape hown2 (fun e => by have := hnil2.1 e; simp at this); rw [hv2] at hown2 ⊢; clear hnil2 hv2))
  have b1 : Below w.heap.size w w1 := ((Below.refl w.heap.size w).alloc (Nat.le_refl _) _).grown hgrow1 (by simp) (by intro k hk; cases hk; exact Nat.le_refl _)
  have b2 : Below w.heap.size w w2 := (b1.alloc b1.size _).grown hgrow2 (by have := b1.size; simp; omega) (by intro k hk; cases hk; exact hg1)
  rw [HA.out] at hown2
  have k1 : (xs.length : Int) ≤ (c2 : Int) := by omega
  have k2 : (0 : Int) ≤ (xs.length : Int) := by omega
  have HO := Lib.hid hown2
  clear hown1 hgrow1 hgrow2 hown0 HN hown2
  go_wp2_with fail
  go_ret
  exact ⟨g2, c2, rfl, by omega, hm2, HO.out, b2⟩
set_option maxHeartbeats 1600000 in
theorem lendI_none (w : World) :
    Calls Try.prog 27 #[.slice none 0 0] w fun e w' => LentI w w' e [] := by
  obtain ⟨i0, hi, hz0, hz1, hz2⟩ := info_parts info3
  have hown0 := World.ownsRow_lit (base := w.heap.size) (e := 3) (size := 1) w #[] 0 (Nat.le_refl _) (by decide) rfl
  have hmk := mark_i (w.alloc (.cells #[] 3))
  rw [show (w.alloc (.cells #[] 3)).heap.size = w.heap.size + 1 by simp] at hmk
  have HMK := Lib.hid hmk
  clear hmk
  go_enter Try.func27, Try.ntmps27
  go_wp2_with (first
    | (at_builtin; refine wpList_append_own_none rfl (.tmp 4) (.tmp 5) 44 rfl w.heap.size 3 i0 1 Try.underlying44 hi (.slice (some ⟨w.heap.size, 0, none⟩) 0 0) 0 [] rfl hown0 rfl ?_)
    | (at_builtin; refine wpList_append_own _ rfl (.tmp 7) (.tmp 8) 44 rfl w.heap.size 3 i0 _ 1 8 Try.underlying44 hi hz0 hz1 hz2 rfl (by decide) (.slice (some ⟨w.heap.size, 0, none⟩) 0 0) 0 [] rfl (hown0.alloc _) ⟨w.heap.size + 1, 0, none⟩ 1 1 (cellsI [-77]) rfl rfl HMK.out (one_i _) (by decide) (by decide) (by simp; omega) ?_; intro v2 w2 hown2 hgrow2 hnil2; obtain ⟨g2, c2, hv2, hg2, hc2, hs2, hm2⟩ := own_shape hown2 (fun e => by have := hnil2.1 e; simp at this); rw [hv2] at hown2 ⊢; clear hnil2 hv2; simp only [Nat.zero_add] at hown2 hc2 ⊢))
  have b2 : Below w.heap.size w w2 := (((Below.refl w.heap.size w).alloc (Nat.le_refl _) _).alloc (by simp) _).grown hgrow2 (by simp; omega) (by intro k hk; cases hk; exact Nat.le_refl _)
  have k1 : (0 : Int) ≤ (c2 : Int) := by omega
  have HO := Lib.hid hown2
  clear hgrow2 hown0 HMK hown2
  go_wp2_with fail
  go_ret
  exact ⟨g2, c2, rfl, by show 0 < c2; omega, hm2, HO.out, b2⟩
theorem lendI_any (a : Option Addr) (xs : List Int) (cap : Nat) (w : World) (hlen : xs.length * 8 ≤ 140737488351232) (hn : a = none → xs = [] ∧ cap = 0) (hr : Ints w a xs) :
    Calls Try.prog 27 #[.slice a xs.length cap] w fun e w' => LentI w w' e xs := by
  match a, hn, hr with
  | none, hn, _ =>
    obtain ⟨e1, e2⟩ := hn rfl
    subst e1 e2
    exact lendI_none w
  | some ad, _, hr => exact lendI_some ad xs cap w hlen hr
/-- They stand still. -/
def StillI (w : World) (g : Nat) (xs : List Int) : Prop := g < w.heap.size ∧ ∀ j, j < xs.length + 1 → w.cell? ⟨g, j, none⟩ = some (.int .i64 ((xs ++ [-77]).getD j 0))
theorem stillI_own {w : World} {B g c : Nat} {xs : List Int} (h : w.ownsRow B 3 1 (.slice (some ⟨g, 0, none⟩) (xs.length + 1) c) (xs.length + 1) (cellsI (xs ++ [-77]))) : StillI w g xs := by
  refine ⟨(h.lt g rfl).2, fun j hj => ?_⟩
  rw [World.ownsRow.cellAt h j (by omega), cellsI_getD _ j (by simp; omega)]
theorem StillI.on {w w' : World} {g : Nat} {xs : List Int} (h : StillI w g xs) (hb : Below w.heap.size w w') : StillI w' g xs := ⟨Nat.lt_of_lt_of_le h.1 hb.size, fun j hj => (hb.cell (p := ⟨g, j, none⟩) h.1).trans (h.2 j hj)⟩
theorem StillI.ints {w : World} {g : Nat} {xs : List Int} (h : StillI w g xs) : Ints w (some ⟨g, 0, none⟩) xs := by
  refine Or.inr ⟨g, 0, rfl, h.1, fun j hj => ?_⟩
  rw [Nat.zero_add, h.2 j (by omega)]
  simp [List.getD, List.getElem?_append_left hj]
theorem StillI.mark {w : World} {g : Nat} {xs : List Int} (h : StillI w g xs) : w.cell? ⟨g, xs.length, none⟩ = some (.int .i64 (-77)) := by
  rw [h.2 _ (by omega)]
  simp [List.getD]
set_option maxHeartbeats 800000 in
theorem keptI_any (g c : Nat) (a : Option Addr) (xs : List Int) (cap : Nat) (w : World) (hlen : xs.length * 8 ≤ 140737488351232) (hc : xs.length < c) (hs : StillI w g xs) (hr : Ints w a xs) :
    Calls Try.prog 30 #[.slice (some ⟨g, 0, none⟩) xs.length c, .slice a xs.length cap] w fun e w' => e = .returned (.bool true) ∧ Below w.heap.size w w' := by
  have HS := Lib.hid (sameInts_any (some ⟨g, 0, none⟩) a c cap xs w (by omega) hs.ints hr)
  have HST := Lib.hid hs
  have i1 : (xs.length : Int) + 1 ≤ (c : Int) := by omega
  have i2 : xs.length + 1 ≤ c := by omega
  have i3 : (0 : Int) ≤ (xs.length : Int) + 1 := by omega
  have i4 : IntKind.i64.wrap ((xs.length : Int) + 1) = (xs.length : Int) + 1 := by rw [IntKind.wrap_i64]; omega
  have i5 : (xs.length : Int) < (xs.length : Int) + 1 := by omega
  have i6 : ((xs.length : Int) + 1).toNat = xs.length + 1 := by omega
  clear hs hr
  go_enter Try.func30, Try.ntmps30
  go_wp2_with fail
  refine HS.out.mono ?_
  rintro e w1 ⟨rfl, hb1⟩
  have m0 := (HST.out.on hb1).mark
  go_wp2_with fail
  go_ret
  exact ⟨rfl, hb1⟩
end Go.Proofs.Ytomlmphdnoempaa
