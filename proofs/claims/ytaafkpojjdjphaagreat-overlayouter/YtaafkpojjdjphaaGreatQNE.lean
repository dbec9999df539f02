import Derived.Test.YtaafkpojjdjphaaGreatQND
open Go.Lib (hid)
namespace Go.Proofs.YtaafkpojjdjphaaGreat.N5.Hp
open Go.RowKit
theorem Rep.cut {w : World} {h p b E c n : Nat} {ms : List M} {pl : List Int} (r : Rep w h p (.slice (some ⟨b, 0, none⟩) (E + 1) c) n ms pl) (hE : ms.length = E + 1) :
  Rep (w.setCell ⟨h, 0, none⟩ (.slice (some ⟨b, 0, none⟩) E c)) h p (.slice (some ⟨b, 0, none⟩) E c) n ms.dropLast pl := by
 have n1 : b ≠ h := fun e => r.hv (by rw [e]; rfl)
 refine ⟨?_, ?_, ?_, r.hp, r.hv, r.pv, r.pn, r.nb⟩
 ·rw [heap_setCell_same w h 0 _ _ _ r.hd]
  simp
 ·rw [show ms.dropLast.length = E by simp [hE]]
  refine ⟨by rw [cellsM_len]; simp [hE], ?_⟩
  rcases r.own.2 with ⟨h', _⟩ | ⟨g', c', cur, h', h2, h3, h4, h5, h6, h7⟩
  ·cases h'
  ·injection h' with h8 h9 h10
   injection h8 with h8
   injection h8 with h8
   subst h8 h10
   refine Or.inr ⟨b, c, cur, rfl, h2, (heap_setCell_other w _ b _ n1).trans h3, by omega, h5, h6, ?_⟩
   rw [List.dropLast_eq_take, ← cellsM_take, ← h7, List.take_take]
   congr 1
   omega
 ·rw [heap_setCell_other w _ p _ (fun e => r.hp e.symm)]; exact r.pb
theorem Rep.setM' {w : World} {h p g c E n : Nat} {ms : List M} {pl : List Int} (r : Rep w h p (.slice (some ⟨g, 0, none⟩) (E + 1) c) n ms pl) (k : Nat) (m : M) (hE : ms.length = k + 1) (hk : k = E := by rfl) :
  Rep ((w.setCell ⟨g, k * 2, none⟩ (.int .i64 m.id)).setCell ⟨g, k * 2 + 1, none⟩ (.int .u64 m.key)) h p (.slice (some ⟨g, 0, none⟩) (E + 1) c) n (ms.set k m) pl := by
 have h1 : E + 1 = ms.length := by omega
 rw [h1] at r ⊢
 exact r.setM k m (by omega)
theorem Rep.cut' {w : World} {h p b E c n : Nat} {m : M} {ms : List M} {pl : List Int} (r : Rep w h p (.slice (some ⟨b, 0, none⟩) (E + 1) c) n (ms.set E m) pl) (hE : ms.length = E + 1) :
  Rep (w.setCell ⟨h, 0, none⟩ (.slice (some ⟨b, 0, none⟩) E c)) h p (.slice (some ⟨b, 0, none⟩) E c) n ms.dropLast pl := by
 have h1 := r.cut (by simp [hE])
 rw [show (ms.set E m).dropLast = ms.dropLast by rw [List.dropLast_eq_take, List.dropLast_eq_take, List.length_set, hE, List.take_set_of_le (by omega)]] at h1
 exact h1
set_option maxRecDepth 100000 in
set_option maxHeartbeats 1600000 in
theorem take_any {w : World} {h p : Nat} {v : Value} {n : Nat} {ms : List M} {pl : List Int} {T : Nat → Option Int} (r : Rep w h p v n ms pl) (f : WF n ms pl T) (k : Nat) (hk : k < ms.length) :
  Calls Tryz.prog 217 #[.pointer (some ⟨h, 0, none⟩), .int .i64 k] w fun e w' => e = .returned (.tuple #[]) ∧ After w w' h p v n (upd T (gm ms k).id none) := by
 have hnb := r.nb
 have hln := f.len
 obtain ⟨E, HE⟩ : ∃ E, Hid (ms.length = E + 1) := ⟨ms.length - 1, by show _ = _; omega⟩
 obtain ⟨b, c, hv, hc1, hg1, hc2⟩ := own_shape r.own (by omega)
 have r'' := r
 rw [hv] at r''
 rw [HE.out] at hk hln hv hc1
 subst hv
 obtain ⟨⟨c0, c1, c2⟩, f0, f1, f2⟩ := cells3 r.hd
 obtain ⟨⟨d0, d1⟩, e0, e1⟩ := r''.member k (by rw [HE.out]; exact hk)
 obtain ⟨⟨x0, x1⟩, y0, y1⟩ := r''.member E (by rw [HE.out]; omega)
 have hgn := (f.mem k (by rw [HE.out]; exact hk)).1
 obtain ⟨p0, q0⟩ := r.place (gm ms k).id hgn
 clear r''
 have s0 := lt_of_block r.hd
 have s1 := lt_of_block r.pb
 have n1 : b ≠ h := fun e => r.hv (by rw [e]; rfl)
 have n2 : b ≠ p := fun e => r.pv (by rw [e]; rfl)
 have n3 := r.hp
 have hsub : ((E : Int) + 1) - 1 = E := by omega
 have hEe : ((E + 1 : Nat) : Int) = (E : Int) + 1 := by omega
 have hlast : E = ms.length - 1 := by have := HE.out; omega
 have HMID := hid (fun hi => f.takeMid (i := k) hi)
 have HEND := hid (f.takeEnd (by have := HE.out; omega))
 rw [← hlast] at HMID HEND
 clear hlast
 obtain ⟨G, HG⟩ := named (gm ms k)
 obtain ⟨L, HL⟩ := named (gm ms E)
 rw [HG.out] at d0 d1 hgn p0 q0 HMID ⊢
 rw [HL.out] at x0 x1 HMID HEND
 have HR0 := hid (((r.setM' E ⟨0, 0⟩ HE.out).cut' HE.out).setP G.id 0)
 have HF0 := hid (((((Fr.refl (Dof h p (.slice (some ⟨b, 0, none⟩) (E + 1) c)) w).setCell ⟨b, E * 2, none⟩ (.int .i64 0) (Or.inl (Or.inr (Or.inr rfl)))).setCell ⟨b, E * 2 + 1, none⟩ (.int .u64 0) (Or.inl (Or.inr (Or.inr rfl)))).setCell ⟨h, 0, none⟩ (.slice (some ⟨b, 0, none⟩) E c) (Or.inl (Or.inl rfl))).setCell ⟨p, G.id, none⟩ (.int .i64 0) (Or.inl (Or.inr (Or.inl rfl))))
 have HZ : Hid (((((w.setCell ⟨b, E * 2, none⟩ (.int .i64 0)).setCell ⟨b, E * 2 + 1, none⟩ (.int .u64 0)).setCell ⟨h, 0, none⟩ (.slice (some ⟨b, 0, none⟩) E c)).setCell ⟨p, G.id, none⟩ (.int .i64 0)).heap.size = w.heap.size) := by show _ = _; simp
 have HLEN : Hid (ms.dropLast.length ≤ 16384) := by show _ ≤ _; have := HE.out; simp; omega
 have HRL := hid r.lt
 obtain ⟨W0, HW⟩ := named ((((w.setCell ⟨b, E * 2, none⟩ (.int .i64 0)).setCell ⟨b, E * 2 + 1, none⟩ (.int .u64 0)).setCell ⟨h, 0, none⟩ (.slice (some ⟨b, 0, none⟩) E c)).setCell ⟨p, G.id, none⟩ (.int .i64 0))
 have HR0' := HR0.out
 rw [show (((w.setCell ⟨b, E * 2, none⟩ (.int .i64 ((0 : Nat) : Int))).setCell ⟨b, E * 2 + 1, none⟩ (.int .u64 0)).setCell ⟨h, 0, none⟩ (.slice (some ⟨b, 0, none⟩) E c)).setCell ⟨p, G.id, none⟩ (.int .i64 0) = W0 from HW.out] at HR0'
 have HR0 := hid HR0'
 clear HR0'
 rw [HW.out] at HF0 HZ
 by_cases hkE : k < E
 ·have hkE' : (k : Int) < E := by omega
  have HPG := HMID.out (by omega)
  have HBX : Hid (¬ Dof h p (.slice (some ⟨b, 0, none⟩) E c) (w.heap.size)) := fun hk => by have := HRL.out _ hk; omega
  have HBX1 : Hid (¬ Dof h p (.slice (some ⟨b, 0, none⟩) E c) (w.heap.size + 1)) := fun hk => by have := HRL.out _ hk; omega
  clear HMID HEND
  go_enter Tryz.func217, Tryz.ntmps217
  go_wp2_with fail
  go_region
  all_goals go_wp2_with fail
  ·go_region
   have r5 : Rep ((W0.alloc (.cells #[.int .i64 G.id, .int .u64 G.key] 285)).alloc (.cells #[.int .i64 L.id, .int .u64 L.key] 285)).drew.drew.drew h p (.slice (some ⟨b, 0, none⟩) E c) n ms.dropLast (pl.set G.id 0) := ((HR0.out.alloc _).alloc _).same (fun _ _ => rfl)
   have fr5 : Fr (Dof h p (.slice (some ⟨b, 0, none⟩) (E + 1) c)) w ((W0.alloc (.cells #[.int .i64 G.id, .int .u64 G.key] 285)).alloc (.cells #[.int .i64 L.id, .int .u64 L.key] 285)).drew.drew.drew := (((HF0.out.alloc _).alloc _).drew).drew.drew
   have t5 : ((W0.alloc (.cells #[.int .i64 G.id, .int .u64 G.key] 285)).alloc (.cells #[.int .i64 L.id, .int .u64 L.key] 285)).drew.drew.drew.heap[w.heap.size + 1]? = some (.cells #[.int .i64 L.id, .int .u64 L.key] 285) := (by have h9 := heap_top (W0.alloc (.cells #[.int .i64 G.id, .int .u64 G.key] 285)) (.cells #[.int .i64 L.id, .int .u64 L.key] 285); rw [show (W0.alloc (.cells #[.int .i64 G.id, .int .u64 G.key] 285)).heap.size = w.heap.size + 1 by simp [HZ.out]] at h9; exact h9)
   rw [HW.out]
   clear c0 c1 c2 f0 f1 f2 d0 d1 e0 e1 x0 x1 y0 y1 p0 q0 HW HR0 HF0
   generalize (W0.alloc (.cells #[.int .i64 G.id, .int .u64 G.key] 285)).alloc (.cells #[.int .i64 L.id, .int .u64 L.key] 285) = W1 at *
   have t6 : W1.drew.drew.heap[w.heap.size + 1]? = some (.cells #[.int .i64 L.id, .int .u64 L.key] 285) := t5
   obtain ⟨⟨b0, b1⟩, _, _⟩ := cells2 t6
   have HB0 : Hid (W1.drew.drew.drew.cell? ⟨w.heap.size + 1, 0, none⟩ = some (.int .i64 L.id)) := (cells2 t5).1.1
   have HB1 : Hid (W1.drew.drew.drew.cell? ⟨w.heap.size + 1, 1, none⟩ = some (.int .u64 L.key)) := (cells2 t5).1.2
   clear t5 t6
   generalize W1.drew.drew = W2 at *
   go_wp2_with fail
   go_region_held3 (fun w' => w'.cell? ⟨w.heap.size + 1, 0, none⟩ = some (.int .i64 L.id) ∧ w'.cell? ⟨w.heap.size + 1, 1, none⟩ = some (.int .u64 L.key)) (go_keep) (first | (go_at_call 229; refine (down_any r5 _ k L HLEN.out HPG).mono ?_; rintro e w3 ⟨k3, ms3, pl3, rfl, r3, g3, o3, hl3, fr3⟩; have v0 := fr3.cell HB0.out HBX1.out; have v1 := fr3.cell HB1.out HBX1.out) | (go_at_call 228; refine (up_any r3 _ k3 L (by rw [hl3]; exact HLEN.out) g3 o3).mono ?_; rintro e w4 ⟨k6, ms6, pl6, rfl, r6, g6, o6, hk6, hl6, fr7⟩; have u0 := fr7.cell v0 HBX1.out; have u1 := fr7.cell v1 HBX1.out) | (go_at_call 227; refine (put_any r6 k6 g6.kl L g6.mn (by rw [hl6, hl3]; exact HLEN.out)).mono ?_; rintro e w6 ⟨rfl, r7, fr8⟩; have z0 := fr8.cell u0 HBX1.out; have z1 := fr8.cell u1 HBX1.out))
   have wf7 := g6.fill o6 hk6
   have fr9 := fr5.then (((fr3.then fr7).then fr8).mono (fun _ hd => hd))
   clear r5 r3 g3 o3 fr3 r6 g6 o6 fr7 fr8 HPG v0 v1 u0 u1 z0 z1 b0 b1
   go_wp2_with fail
   go_end0
   exact ⟨rfl, _, _, _, r7, wf7, fun k hk => Or.inl hk, fr9⟩
  ·go_region
   have r5 : Rep ((W0.alloc (.cells #[.int .i64 L.id, .int .u64 L.key] 285)).alloc (.cells #[.int .i64 G.id, .int .u64 G.key] 285)).drew.drew.drew h p (.slice (some ⟨b, 0, none⟩) E c) n ms.dropLast (pl.set G.id 0) := ((HR0.out.alloc _).alloc _).same (fun _ _ => rfl)
   have fr5 : Fr (Dof h p (.slice (some ⟨b, 0, none⟩) (E + 1) c)) w ((W0.alloc (.cells #[.int .i64 L.id, .int .u64 L.key] 285)).alloc (.cells #[.int .i64 G.id, .int .u64 G.key] 285)).drew.drew.drew := (((HF0.out.alloc _).alloc _).drew).drew.drew
   have t5 : ((W0.alloc (.cells #[.int .i64 L.id, .int .u64 L.key] 285)).alloc (.cells #[.int .i64 G.id, .int .u64 G.key] 285)).drew.drew.drew.heap[w.heap.size]? = some (.cells #[.int .i64 L.id, .int .u64 L.key] 285) := (by have h9 := (Below.heap_alloc (W0.alloc (.cells #[.int .i64 L.id, .int .u64 L.key] 285)) (.cells #[.int .i64 G.id, .int .u64 G.key] 285) W0.heap.size (by simp)).trans (heap_top W0 (.cells #[.int .i64 L.id, .int .u64 L.key] 285)); rw [HZ.out] at h9; exact h9)
   rw [HW.out]
   clear c0 c1 c2 f0 f1 f2 d0 d1 e0 e1 x0 x1 y0 y1 p0 q0 HW HR0 HF0
   generalize (W0.alloc (.cells #[.int .i64 L.id, .int .u64 L.key] 285)).alloc (.cells #[.int .i64 G.id, .int .u64 G.key] 285) = W1 at *
   have t6 : W1.drew.drew.heap[w.heap.size]? = some (.cells #[.int .i64 L.id, .int .u64 L.key] 285) := t5
   obtain ⟨⟨b0, b1⟩, _, _⟩ := cells2 t6
   have HB0 : Hid (W1.drew.drew.drew.cell? ⟨w.heap.size, 0, none⟩ = some (.int .i64 L.id)) := (cells2 t5).1.1
   have HB1 : Hid (W1.drew.drew.drew.cell? ⟨w.heap.size, 1, none⟩ = some (.int .u64 L.key)) := (cells2 t5).1.2
   clear t5 t6
   generalize W1.drew.drew = W2 at *
   go_wp2_with fail
   go_region_held3 (fun w' => w'.cell? ⟨w.heap.size, 0, none⟩ = some (.int .i64 L.id) ∧ w'.cell? ⟨w.heap.size, 1, none⟩ = some (.int .u64 L.key)) (go_keep) (first | (go_at_call 229; refine (down_any r5 _ k L HLEN.out HPG).mono ?_; rintro e w3 ⟨k3, ms3, pl3, rfl, r3, g3, o3, hl3, fr3⟩; have v0 := fr3.cell HB0.out HBX.out; have v1 := fr3.cell HB1.out HBX.out) | (go_at_call 228; refine (up_any r3 _ k3 L (by rw [hl3]; exact HLEN.out) g3 o3).mono ?_; rintro e w4 ⟨k6, ms6, pl6, rfl, r6, g6, o6, hk6, hl6, fr7⟩; have u0 := fr7.cell v0 HBX.out; have u1 := fr7.cell v1 HBX.out) | (go_at_call 227; refine (put_any r6 k6 g6.kl L g6.mn (by rw [hl6, hl3]; exact HLEN.out)).mono ?_; rintro e w6 ⟨rfl, r7, fr8⟩; have z0 := fr8.cell u0 HBX.out; have z1 := fr8.cell u1 HBX.out))
   have wf7 := g6.fill o6 hk6
   have fr9 := fr5.then (((fr3.then fr7).then fr8).mono (fun _ hd => hd))
   clear r5 r3 g3 o3 fr3 r6 g6 o6 fr7 fr8 HPG v0 v1 u0 u1 z0 z1 b0 b1
   go_wp2_with fail
   go_end0
   exact ⟨rfl, _, _, _, r7, wf7, fun k hk => Or.inl hk, fr9⟩
 ·have hkE' : ¬ (k : Int) < E := by omega
  have hke : k = E := by omega
  have HGL : Hid (G = L) := by show _ = _; rw [← HG.out, ← HL.out, hke]
  have HEND := hid (HGL.out ▸ HEND.out : WF n ms.dropLast (pl.set G.id 0) (upd T G.id none))
  clear HMID HGL hke
  go_enter Tryz.func217, Tryz.ntmps217
  go_wp2_with fail
  go_region
  all_goals go_wp2_with fail
  ·go_region
   have r5 : Rep ((W0.alloc (.cells #[.int .i64 G.id, .int .u64 G.key] 285)).alloc (.cells #[.int .i64 L.id, .int .u64 L.key] 285)).drew.drew h p (.slice (some ⟨b, 0, none⟩) E c) n ms.dropLast (pl.set G.id 0) := ((HR0.out.alloc _).alloc _).same (fun _ _ => rfl)
   have fr5 : Fr (Dof h p (.slice (some ⟨b, 0, none⟩) (E + 1) c)) w ((W0.alloc (.cells #[.int .i64 G.id, .int .u64 G.key] 285)).alloc (.cells #[.int .i64 L.id, .int .u64 L.key] 285)).drew.drew := (((HF0.out.alloc _).alloc _).drew).drew
   rw [HW.out]
   clear c0 c1 c2 f0 f1 f2 d0 d1 e0 e1 x0 x1 y0 y1 p0 q0 HW HR0 HF0
   go_wp2_with fail
   go_end0
   exact ⟨rfl, _, _, _, r5, HEND.out, fun k hk => Or.inl hk, fr5⟩
  ·go_region
   have r5 : Rep ((W0.alloc (.cells #[.int .i64 L.id, .int .u64 L.key] 285)).alloc (.cells #[.int .i64 G.id, .int .u64 G.key] 285)).drew.drew h p (.slice (some ⟨b, 0, none⟩) E c) n ms.dropLast (pl.set G.id 0) := ((HR0.out.alloc _).alloc _).same (fun _ _ => rfl)
   have fr5 : Fr (Dof h p (.slice (some ⟨b, 0, none⟩) (E + 1) c)) w ((W0.alloc (.cells #[.int .i64 L.id, .int .u64 L.key] 285)).alloc (.cells #[.int .i64 G.id, .int .u64 G.key] 285)).drew.drew := (((HF0.out.alloc _).alloc _).drew).drew
   rw [HW.out]
   clear c0 c1 c2 f0 f1 f2 d0 d1 e0 e1 x0 x1 y0 y1 p0 q0 HW HR0 HF0
   go_wp2_with fail
   go_end0
   exact ⟨rfl, _, _, _, r5, HEND.out, fun k hk => Or.inl hk, fr5⟩
end Go.Proofs.YtaafkpojjdjphaaGreat.N5.Hp
