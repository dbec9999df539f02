/-
  Contract of near.begin: the search is laid, and its first vertex told.
-/
import Derived.Test.YtgkpmcpkobphpaaNChain
namespace Go.Proofs.Ytgkpmcpkobphpaa.N5
open Go.RowKit
open Hp (HR HRto Fr upd upd_self upd_ne TopIs)
set_option maxHeartbeats 1600000 in
set_option maxRecDepth 100000 in
theorem begin_any (n : Nat) (a : Option Addr) (l : List A) (cap : Nat) (s fid : Nat) (cs : Array Value) (w : World) (g : RG n l) (hr : Arcs w a l) (Post : Nat → Nat → Nat → Nat → World → Prop)
    (next : ∀ f b1 b2 h D w1, Sr w1 f a cap l n b1 b2 h (.func (.func fid) #[] cs) (fun _ => none) D → w.heap.size ≤ f → w.heap.size ≤ b1 → w.heap.size ≤ b2 → f ≠ b1 → f ≠ b2 → b1 ≠ b2 → (∀ k, D k → w.heap.size ≤ k) → Below w.heap.size w w1 →
      Calls Try.prog 61 #[.pointer (some ⟨f, 0, none⟩), .int .i64 s, .int .u64 0, .int .i64 (-1)] w1 fun e w' => e = .returned (.tuple #[]) ∧ Post f b1 b2 h w') :
    Calls Try.prog 40 #[.agg #[.int .i64 n, .slice a l.length cap], .int .i64 s, .func (.func fid) #[] cs] w fun e w' => ∃ f b1 b2 h, e = .returned (.pointer (some ⟨f, 0, none⟩)) ∧ Post f b1 b2 h w' := by
  have hnb := g.nb
  have HNEXT := Lib.hid next
  have hb0 : Below w.heap.size w (w.alloc (.cells #[.int .i64 n, .slice a l.length cap] 24)) := (Below.refl _ _).alloc (Nat.le_refl _) _
  have hg := heap_top w (.cells #[.int .i64 n, .slice a l.length cap] 24)
  have HNEW := Lib.hid (Hp.New_any n (by omega) (w.alloc (.cells #[.int .i64 n, .slice a l.length cap] 24)))
  have HAR := Lib.hid hr
  have HG := Lib.hid g
  clear next hr g
  go_enter Try.func40, Try.ntmps40
  go_wp2_with fail
  refine HNEW.out.mono ?_
  rintro e w1 ⟨h, D, rfl, hp1, hD1, hb1⟩
  have hg1 := (hb1.block _ (lt_of_block hg)).trans hg
  have b1w : Below w.heap.size w w1 := hb0.trans (hb1.mono hb0.size)
  have s1 := lt_of_block hg1
  have hD : ∀ k, D k → w.heap.size ≤ k := fun k hk => Nat.le_trans hb0.size (hD1 k hk)
  have HD := Lib.hid hD
  have HP1 := Lib.hid hp1
  have HB1 := Lib.hid b1w
  obtain ⟨⟨g0, g1⟩, gf0, gf1⟩ := two_cells hg1
  have G0 := Lib.hid g0
  have G1 := Lib.hid g1
  clear hD hD1 hg hb0 hb1 hp1 HNEW b1w
  go_wp2_with fail
  have HCH := Lib.hid (fun (w' : World) (hb : Below w1.heap.size w1 w') => chained_any n a l cap w' HG.out (HAR.out.on (HB1.out.trans (hb.mono HB1.out.size))))
  go_region_held3 (fun w' => w'.cell? ⟨w.heap.size, 0, none⟩ = some (.int .i64 n) ∧ w'.cell? ⟨w.heap.size, 1, none⟩ = some (.slice a l.length cap)) (go_keep) ((go_at_call 60; refine (HCH.out _ (by first | exact Below.refl _ _ | exact (Below.refl _ _).drew | exact below_drewN _ _ _)).mono ?_; rintro e w2 ⟨b1, b2, rfl, hn, hl1, hl2, ht1, ht2, hb2⟩; have y0 : w2.cell? ⟨w.heap.size, 0, none⟩ = some (.int .i64 n) := (hb2.cell (p := ⟨w.heap.size, 0, none⟩) s1).trans G0.out; have y1 : w2.cell? ⟨w.heap.size, 1, none⟩ = some (.slice a l.length cap) := (hb2.cell (p := ⟨w.heap.size, 1, none⟩) s1).trans G1.out; have BB : Below w1.heap.size w1 w2 := Below.trans (show Below w1.heap.size w1 _ from by first | exact Below.refl _ _ | exact (Below.refl _ _).drew | exact below_drewN _ _ _) hb2; have k1 : w1.heap.size ≤ b1 := hl1; have k2 : w1.heap.size ≤ b2 := hl2))
  have q1 := ht1.lt
  have q2 := ht2.lt
  have hb2w := HB1.out.trans (BB.mono HB1.out.size)
  have sw := HB1.out.size
  have HPA := Lib.hid (HNEXT.out w2.heap.size b1 b2 h D (w2.alloc (.cells #[.slice a l.length cap, .slice (some ⟨b1, 0, none⟩) n n, .slice (some ⟨b2, 0, none⟩) l.length l.length, .pointer (some ⟨h, 0, none⟩), .func (.func fid) #[] cs] 96))
    ⟨heap_top w2 _, ht1.alloc _, ht2.alloc _, (HP1.out.on BB).on ((Below.refl _ _).alloc (Nat.le_refl _) _), fun k hk => by have := HP1.out.lt k hk; omega⟩ (by omega) (by omega) (by omega) (by omega) (by omega) hn HD.out (hb2w.alloc hb2w.size _))
  clear y0 y1 g0 g1 gf0 gf1 hg1 ht1 ht2 hn hl1 hl2 q1 q2 k1 k2
  go_wp2_with fail
  refine HPA.out.mono ?_
  rintro e w3 ⟨rfl, hpost⟩
  go_wp2_with fail
  go_ret
  exact ⟨_, b1, b2, h, rfl, hpost⟩
end Go.Proofs.Ytgkpmcpkobphpaa.N5
