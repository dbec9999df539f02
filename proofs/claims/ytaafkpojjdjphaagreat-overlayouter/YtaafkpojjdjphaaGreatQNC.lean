import Derived.Test.YtaafkpojjdjphaaGreatQNB
open Go.Lib (hid)
namespace Go.Proofs.YtaafkpojjdjphaaGreat.N5.Hp
open Go.RowKit
set_option maxRecDepth 100000 in
set_option maxHeartbeats 1600000 in
theorem down_any {w : World} {h p : Nat} {v : Value} {n : Nat} {ms : List M} {pl : List Int} (r : Rep w h p v n ms pl) (T : Nat → Option Int) (k : Nat) (m : M) (hl : ms.length ≤ 16384) (g : PG n ms pl T k m) :
  Calls Tryz.prog 229 #[.pointer (some ⟨h, 0, none⟩), .int .i64 k, .agg #[.int .i64 m.id, .int .u64 m.key]] w fun e w' => ∃ (k' : Nat) (ms' : List M) (pl' : List Int), e = .returned (.int .i64 k') ∧ Rep w' h p v n ms' pl' ∧ PG n ms' pl' T k' m ∧ O3 ms' k' m ∧ ms'.length = ms.length ∧ Fr (Dof h p v) w w' := by
 have hkl := g.kl
 obtain ⟨N, HN⟩ := named ms.length
 rw [HN.out] at hkl hl ⊢
 obtain ⟨b, c, hv, hc1, hg1, hc2⟩ := own_shape r.own (by have := HN.out; omega)
 rw [HN.out] at hv hc1
 subst hv
 have r0 := r.alloc (.cells #[.int .i64 m.id, .int .u64 m.key] 285)
 have t0 := heap_top w (.cells #[.int .i64 m.id, .int .u64 m.key] 285)
 have fr0 := (Fr.refl (Dof h p (.slice (some ⟨b, 0, none⟩) N c)) w).alloc (.cells #[.int .i64 m.id, .int .u64 m.key] 285)
 go_enter Tryz.func229, Tryz.ntmps229
 go_wp2_with fail
 go_loopw [1] (fun i wr => ∃ (k : Nat) (ms' : List M) (pl' : List Int), i = .int .i64 k ∧ Rep wr h p (.slice (some ⟨b, 0, none⟩) N c) n ms' pl' ∧ PG n ms' pl' T k m ∧ Hid (ms'.length = N) ∧ wr.heap[w.heap.size]? = some (.cells #[.int .i64 m.id, .int .u64 m.key] 285) ∧ Fr (Dof h p (.slice (some ⟨b, 0, none⟩) N c)) w wr) (fun i _ => N - (intOf i).toNat)
 case atStart => exact ⟨k, ms, pl, rfl, r0, g, HN, t0, fr0⟩
 case round =>
  obtain ⟨k, ms', pl', rfl, r', g', HL, tb, fr⟩ := hrel
  clear r0 t0 fr0
  have hkl' := g'.kl
  rw [HL.out] at hkl'
  have HS := hid (fun hh => fb_spec (ms := ms') (k := k) hh)
  have HO := hid (fun hh => fb_o3 (ms := ms') (k := k) (m := m) hh)
  have HO' := hid (fun hh hh2 => fb_o3' (ms := ms') (k := k) (m := m) hh hh2)
  have HFB := hid (fb_any r' k (by rw [HL.out]; exact hkl') (by rw [HL.out]; exact hl))
  rw [HL.out] at HS HO HO'
  obtain ⟨A, HA⟩ := named (fb ms' k)
  rw [HA.out] at HS HO HO' HFB
  go_wp2_with fail
  refine HFB.out.mono ?_
  rintro e w1 ⟨rfl, hb1⟩
  have r1 := r'.on hb1
  have tb1 := (hb1.block _ (lt_of_block tb)).trans tb
  have fr1 : Fr (Dof h p (.slice (some ⟨b, 0, none⟩) N c)) w w1 := fr.then (Fr.of hb1)
  clear hb1 r' tb fr HFB
  obtain ⟨⟨c0, c1, c2⟩, f0, f1, f2⟩ := cells3 r1.hd
  by_cases hAN : A = N
  ·have hd : ((A : Int) == (N : Int)) = true := by simp [hAN]
   have HP := hid (HO.out hAN)
   clear HS HO HO' hAN
   go_wp2_with fail
   go_quiet (fail)
   go_wp2_with fail
   go_ret
   exact ⟨k, ms', pl', rfl, r1.same (fun _ _ => rfl), g', HP.out, HL.out, fr1.then ⟨rfl, rfl, rfl, Nat.le_refl _, fun _ _ _ => rfl⟩⟩
  ·have hd : ((A : Int) == (N : Int)) = false := by simp; omega
   obtain ⟨a1, a2, a3, a4⟩ := HS.out hAN
   have HSS := hid (HO'.out hAN)
   have HDN := hid (g'.down (c := A) (by rw [HL.out]; exact a1) a2 a3 (by rw [HL.out]; exact a4))
   have HA2 : Hid (k < A) := by show _ < _; omega
   have hAm := (g'.mem A (by rw [HL.out]; exact a1) (by omega)).1
   have r'' := r1
   rw [← HL.out] at r''
   obtain ⟨⟨d0, d1⟩, _, _⟩ := r''.member A (by rw [HL.out]; exact a1)
   have s0 := lt_of_block r1.hd
   have s1 := lt_of_block tb1
   have s2 : b < w1.heap.size := r1.lt b (Or.inr (Or.inr rfl))
   obtain ⟨⟨b0, b1⟩, _, _⟩ := cells2 tb1
   clear HS HO HO' hAN r'' a2 a3 a4
   obtain ⟨X, HX⟩ := named (gm ms' A)
   rw [HX.out] at d0 d1 HSS hAm HDN
   obtain ⟨t, HT⟩ := named (ahead X m)
   have HTO := HT.out
   rw [HTO] at HSS
   have HTT := hid HTO
   clear HTO
   cases t with
   | true =>
     clear HSS
     go_wp2_with fail
     go_region_held3 (fun w' => w'.cell? ⟨h, 0, none⟩ = some (.slice (some ⟨b, 0, none⟩) N c) ∧ w'.cell? ⟨h, 2, none⟩ = some (.func (.func 213) #[] #[]) ∧ w'.cell? ⟨w.heap.size, 0, none⟩ = some (.int .i64 m.id) ∧ w'.cell? ⟨w.heap.size, 1, none⟩ = some (.int .u64 m.key) ∧ w'.cell? ⟨b, A * 2, none⟩ = some (.int .i64 X.id) ∧ w'.cell? ⟨b, A * 2 + 1, none⟩ = some (.int .u64 X.key)) (go_keep) ((refine (nearer_is X m true HTT.out _).mono ?_; rintro e w2 ⟨rfl, hb2⟩; have k0 := (hb2.cell (p := ⟨h, 0, none⟩) s0).trans c0; have k2 := (hb2.cell (p := ⟨h, 2, none⟩) s0).trans c2; have k3 := (hb2.cell (p := ⟨w.heap.size, 0, none⟩) s1).trans b0; have k4 := (hb2.cell (p := ⟨w.heap.size, 1, none⟩) s1).trans b1; have k5 := (hb2.cell (p := ⟨b, A * 2, none⟩) s2).trans d0; have k6 := (hb2.cell (p := ⟨b, A * 2 + 1, none⟩) s2).trans d1))
     have r2 : Rep w2 h p (.slice (some ⟨b, 0, none⟩) N c) n ms' pl' := r1.drew.on hb2
     have tb2 := (hb2.block _ s1).trans tb1
     have fr2 : Fr (Dof h p (.slice (some ⟨b, 0, none⟩) N c)) w w2 := fr1.drew.then (Fr.of hb2)
     clear hb2 r1 tb1 fr1 c0 c1 c2 f0 f1 f2 b0 b1 d0 d1
     go_wp2_with fail
     refine (put_any r2 k (by rw [HL.out]; exact hkl') X hAm (by rw [HL.out]; exact hl)).mono ?_
     rintro e w3 ⟨rfl, r3, fr3⟩
     go_wp2_with fail
     have h9 := HA2.out
     exact ⟨⟨A, ms'.set k X, pl'.set X.id (k + 1), rfl, r3, HDN.out, by show _ = _; rw [List.length_set]; exact HL.out, ((fr3.block _ (lt_of_block tb2) (fun hd => by have := r.lt _ hd; omega)).trans tb2), fr2.then fr3⟩, by simp [intOf]; omega⟩
   | false =>
     have HP := hid (HSS.out rfl)
     clear HSS
     go_wp2_with fail
     go_region_held3 (fun w' => w'.cell? ⟨h, 0, none⟩ = some (.slice (some ⟨b, 0, none⟩) N c) ∧ w'.cell? ⟨h, 2, none⟩ = some (.func (.func 213) #[] #[]) ∧ w'.cell? ⟨w.heap.size, 0, none⟩ = some (.int .i64 m.id) ∧ w'.cell? ⟨w.heap.size, 1, none⟩ = some (.int .u64 m.key) ∧ w'.cell? ⟨b, A * 2, none⟩ = some (.int .i64 X.id) ∧ w'.cell? ⟨b, A * 2 + 1, none⟩ = some (.int .u64 X.key)) (go_keep) ((refine (nearer_is X m false HTT.out _).mono ?_; rintro e w2 ⟨rfl, hb2⟩; have k0 := (hb2.cell (p := ⟨h, 0, none⟩) s0).trans c0; have k2 := (hb2.cell (p := ⟨h, 2, none⟩) s0).trans c2; have k3 := (hb2.cell (p := ⟨w.heap.size, 0, none⟩) s1).trans b0; have k4 := (hb2.cell (p := ⟨w.heap.size, 1, none⟩) s1).trans b1; have k5 := (hb2.cell (p := ⟨b, A * 2, none⟩) s2).trans d0; have k6 := (hb2.cell (p := ⟨b, A * 2 + 1, none⟩) s2).trans d1))
     have r2 : Rep w2 h p (.slice (some ⟨b, 0, none⟩) N c) n ms' pl' := r1.drew.on hb2
     have fr2 : Fr (Dof h p (.slice (some ⟨b, 0, none⟩) N c)) w w2 := fr1.drew.then (Fr.of hb2)
     clear hb2 r1 tb1 fr1 c0 c1 c2 f0 f1 f2 b0 b1 d0 d1
     go_wp2_with fail
     go_ret
     exact ⟨k, ms', pl', rfl, r2, g', HP.out, HL.out, fr2⟩
end Go.Proofs.YtaafkpojjdjphaaGreat.N5.Hp
