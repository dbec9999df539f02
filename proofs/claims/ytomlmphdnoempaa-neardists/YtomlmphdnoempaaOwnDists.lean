/-
  Distances from a vertex, to one, and between two, are those that all arcs, gone over again and again, say: NearDists returns true for every graph and every two vertices, whatever the heap holds. NearDists returns true.
-/
import Derived.Test.YtomlmphdnoempaaRes
import Derived.Test.YtomlmphdnoempaaKept
import Derived.Test.YtomlmphdnoempaaWks
import Derived.Test.YtomlmphdnoempaaRows
import Derived.Test.YtomlmphdnoempaaGiven
import Derived.ProofKit
import Derived.OpenShut
import Derived.ChangeOld
import Derived.Below
import Derived.SizedLaws
namespace Go.Proofs.Ytomlmphdnoempaa
open Go.RowKit
theorem Still.same {w w' : World} {g : Nat} {l : List A} (h : Still w g l) (hs : w'.heap[g]? = w.heap[g]?) : Still w' g l := fun j hj => by
  obtain ⟨a, b, c⟩ := h j hj
  exact ⟨(World.cell?_of_block (a := ⟨g, j * 3, none⟩) hs).trans a, (World.cell?_of_block (a := ⟨g, j * 3 + 1, none⟩) hs).trans b, (World.cell?_of_block (a := ⟨g, j * 3 + 2, none⟩) hs).trans c⟩
set_option maxHeartbeats 3200000 in
set_option maxRecDepth 100000 in
theorem law_dists (N : Int) (a : Option Addr) (l : List A) (cap : Nat) (s t : Int) (w : World) (hlen : l.length * 24 ≤ 140737488351232) (hn : a = none → l = [] ∧ cap = 0) (hr : Arcs w a l) (hw : ∀ x ∈ l, 0 ≤ x.w ∧ x.w < 4294967296) :
    Calls Try.prog 3 #[.agg #[.int .i64 N, .slice a l.length cap], .int .i64 s, .int .i64 t] w fun e w' => e = .returned (.bool true) ∧ Below w.heap.size w w' := by
  have hl : l.length ≤ 9223372036854775807 := by omega
  have hb0 : Below w.heap.size w (w.alloc (.cells #[.int .i64 N, .slice a l.length cap] 24)) := (Below.refl _ _).alloc (Nat.le_refl _) _
  have hg := heap_top w (.cells #[.int .i64 N, .slice a l.length cap] 24)
  have HR := Lib.hid hr
  have HW := Lib.hid hw
  have HNN := Lib.hid hn
  have HLA := Lib.hid (large_any N a l.length cap (w.alloc (.cells #[.int .i64 N, .slice a l.length cap] 24)))
  clear hr hw hn
  go_enter Try.func3, Try.ntmps3
  go_wp2_with fail
  refine HLA.out.mono ?_
  rintro e w1 ⟨rfl, hb1⟩
  have b1 : Below w.heap.size w w1 := hb0.trans (hb1.mono hb0.size)
  have hg1 := (hb1.block _ (lt_of_block hg)).trans hg
  obtain ⟨⟨g0, g1⟩, -⟩ := two_cells hg1
  clear hg hb0 hb1 HLA
  generalize big N l.length = q
  cases q with
  | true =>
    have HWK := Lib.hid (works_any w1)
    go_wp2_with fail
    refine HWK.out.mono ?_
    rintro e w2 ⟨rfl, hb2⟩
    go_wp2_with fail
    go_ret
    exact ⟨rfl, b1.trans (hb2.mono b1.size)⟩
  | false =>
    have HLE := Lib.hid (lend_any N a l cap w1 hlen HNN.out (HR.out.on b1))
    go_wp2_with fail
    refine HLE.out.mono ?_
    rintro e w2 ⟨g, c, rfl, hc, hcm, hown, hb2⟩
    have HST := Lib.hid (still_own hown)
    have b2 : Below w.heap.size w w2 := b1.trans (hb2.mono b1.size)
    have hg2 := (hb2.block _ (lt_of_block hg1)).trans hg1
    have bW : Below w2.heap.size w2 (w2.alloc (.cells #[.int .i64 N, .slice (some ⟨g, 0, none⟩) l.length c] 24)) := (Below.refl _ _).alloc (Nat.le_refl _) _
    have hh := heap_top w2 (.cells #[.int .i64 N, .slice (some ⟨g, 0, none⟩) l.length c] 24)
    have hg3 := (bW.block _ (lt_of_block hg2)).trans hg2
    have b3 := b2.trans (bW.mono b2.size)
    have HS3 := Lib.hid (HST.out.on bW)
    have sz3 := lt_of_block hg2
    clear hown HLE g0 g1 hg1 hb2 b1 b2 hg2 bW
    go_wp2_with fail
    generalize w2.alloc (.cells #[.int .i64 N, .slice (some ⟨g, 0, none⟩) l.length c] 24) = W at *
    generalize hhb : w2.heap.size = hb at *
    have HSL := Lib.hid HS3.out.lt
    have HHL := Lib.hid (lt_of_block hh)
    have HWL := Lib.hid (lt_of_block hg3)
    clear HST hhb
    -- near.From
    obtain ⟨⟨h0, h1⟩, -⟩ := two_cells hh
    have HC := Lib.hid (from_v N (some ⟨g, 0, none⟩) l c s W hl HW.out HS3.out.arcs)
    obtain ⟨E1, HE1⟩ := named (nearE N l [s])
    rw [HE1.out] at HC
    refine HC.out.mono ?_
    rintro e w4 ⟨v1, rfl, dv1, hb4⟩
    clear h0 h1 HC
    have hh4 := (hb4.block _ (lt_of_block hh)).trans hh
    have hg4 := (hb4.block _ (lt_of_block hg3)).trans hg3
    have b4 := b3.trans (hb4.mono b3.size)
    have HS4 := Lib.hid (HS3.out.on hb4)
    have z4 := hb4.size
    clear hh hg3 hb4 HS3
    -- ref.From
    obtain ⟨⟨g0, g1⟩, -⟩ := two_cells hg4
    have HC := Lib.hid (rfrom_v N a l cap s w4 hl HW.out (HR.out.on b4))
    rw [HE1.out] at HC
    go_wp2_with fail
    refine HC.out.mono ?_
    rintro e w5 ⟨v2, rfl, dv2, hb5⟩
    clear g0 g1 HC
    have hh5 := (hb5.block _ (lt_of_block hh4)).trans hh4
    have hg5 := (hb5.block _ (lt_of_block hg4)).trans hg4
    have b5 := b4.trans (hb5.mono b4.size)
    have HS5 := Lib.hid (HS4.out.on hb5)
    have dv1 := dv1.on hb5
    have z5 := hb5.size
    clear hh4 hg4 hb5 HS4
    -- the same
    have HC := Lib.hid (same_v dv1 dv2)
    go_wp2_with fail
    refine HC.out.mono ?_
    rintro e w6 ⟨rfl, hb6⟩
    have hh6 := (hb6.block _ (lt_of_block hh5)).trans hh5
    have hg6 := (hb6.block _ (lt_of_block hg5)).trans hg5
    have b6 := b5.trans (hb6.mono b5.size)
    have HS6 := Lib.hid (HS5.out.on hb6)
    have dv1 := dv1.on hb6
    have z6 := hb6.size
    clear hh5 hg5 hb6 HS5 HC dv2
    -- near.To
    obtain ⟨⟨h0, h1⟩, -⟩ := two_cells hh6
    have HC := Lib.hid (to_v N (some ⟨g, 0, none⟩) l c t w6 hlen (fun h => by cases h) HW.out HS6.out.arcs)
    obtain ⟨E2, HE2⟩ := named (nearE N l [t])
    rw [HE2.out] at HC
    go_wp2_with fail
    refine HC.out.mono ?_
    rintro e w7 ⟨v3, rfl, dv3, hb7⟩
    clear h0 h1 HC
    have hh7 := (hb7.block _ (lt_of_block hh6)).trans hh6
    have hg7 := (hb7.block _ (lt_of_block hg6)).trans hg6
    have b7 := b6.trans (hb7.mono b6.size)
    have HS7 := Lib.hid (HS6.out.on hb7)
    have dv1 := dv1.on hb7
    have z7 := hb7.size
    clear hh6 hg6 hb7 HS6
    -- ref.To
    obtain ⟨⟨g0, g1⟩, -⟩ := two_cells hg7
    have HC := Lib.hid (rto_v N a l cap t w7 hlen HNN.out HW.out (HR.out.on b7))
    rw [HE2.out] at HC
    go_wp2_with fail
    refine HC.out.mono ?_
    rintro e w8 ⟨v4, rfl, dv4, hb8⟩
    clear g0 g1 HC
    have hh8 := (hb8.block _ (lt_of_block hh7)).trans hh7
    have hg8 := (hb8.block _ (lt_of_block hg7)).trans hg7
    have b8 := b7.trans (hb8.mono b7.size)
    have HS8 := Lib.hid (HS7.out.on hb8)
    have dv1 := dv1.on hb8
    have dv3 := dv3.on hb8
    have z8 := hb8.size
    clear hh7 hg7 hb8 HS7
    -- near.Between
    obtain ⟨⟨h0, h1⟩, -⟩ := two_cells hh8
    have HC := Lib.hid (between_v N (some ⟨g, 0, none⟩) l c s t w8 hl (fun h => by cases h) HW.out HS8.out.arcs)
    obtain ⟨E3, HE3⟩ := named (nearE N l [s, t])
    rw [HE3.out] at HC
    go_wp2_with fail
    refine HC.out.mono ?_
    rintro e w9 ⟨d1, rfl, dt1, hb9⟩
    clear h0 h1 HC
    have hh9 := (hb9.block _ (lt_of_block hh8)).trans hh8
    have hg9 := (hb9.block _ (lt_of_block hg8)).trans hg8
    have b9 := b8.trans (hb9.mono b8.size)
    have HS9 := Lib.hid (HS8.out.on hb9)
    have dv1 := dv1.on hb9
    have dv3 := dv3.on hb9
    have dv4 := dv4.on hb9
    have z9 := hb9.size
    clear hh8 hg8 hb9 HS8
    -- ref.Between
    obtain ⟨⟨g0, g1⟩, -⟩ := two_cells hg9
    have HC := Lib.hid (rbetween_v N a l cap s t w9 hl HW.out (HR.out.on b9))
    rw [HE3.out] at HC
    go_wp2_with fail
    refine HC.out.mono ?_
    rintro e w10 ⟨d2, rfl, dt2, hb10⟩
    obtain rfl := dt1.unique dt2
    clear g0 g1 HC dt2
    have hh10 := (hb10.block _ (lt_of_block hh9)).trans hh9
    have hg10 := (hb10.block _ (lt_of_block hg9)).trans hg9
    have b10 := b9.trans (hb10.mono b9.size)
    have HS10 := Lib.hid (HS9.out.on hb10)
    have dv1 := dv1.on hb10
    have dv3 := dv3.on hb10
    have dv4 := dv4.on hb10
    have z10 := hb10.size
    clear hh9 hg9 hb10 HS9 dt1
    have HC := Lib.hid (same_v dv3 dv4)
    go_wp2_with fail
    refine HC.out.mono ?_
    rintro e w11 ⟨rfl, hb11⟩
    have hh11 := (hb11.block _ (lt_of_block hh10)).trans hh10
    have hg11 := (hb11.block _ (lt_of_block hg10)).trans hg10
    have b11 := b10.trans (hb11.mono b10.size)
    have HS11 := Lib.hid (HS10.out.on hb11)
    have dv1 := dv1.on hb11
    have dv3 := dv3.on hb11
    clear hh10 hg10 hb11 HS10 HC dv4
    have zg := HSL.out
    have zh := HHL.out
    have zw := HWL.out
    have y0 := b3.size
    have HC := Lib.hid (spoil_v 3 dv1)
    have HD := Lib.hid (fun (w' : World) (hf : Hp.Fr (fun k => W.heap.size ≤ k ∧ k < w4.heap.size) w11 w') => dv3.fr hf (by omega))
    go_wp2_with fail
    refine HC.out.mono ?_
    rintro e w12 ⟨rfl, hf12⟩
    have dv3' := HD.out w12 hf12
    have hh12 := (hf12.block _ (lt_of_block hh11) (by omega)).trans hh11
    have hg12 := (hf12.block _ (lt_of_block hg11) (by omega)).trans hg11
    have b12 := b11.trans (hf12.below b11.size (fun k hk => by omega))
    have HS12 := Lib.hid (HS11.out.same (hf12.block _ HS11.out.lt (by omega)))
    clear hh11 hg11 hf12 HS11 HC HD dv3 dv1
    have HC := Lib.hid (spoil_v 4 dv3')
    go_wp2_with fail
    refine HC.out.mono ?_
    rintro e w13 ⟨rfl, hf13⟩
    have hh13 := (hf13.block _ (lt_of_block hh12) (by omega)).trans hh12
    have hg13 := (hf13.block _ (lt_of_block hg12) (by omega)).trans hg12
    have b13 := b12.trans (hf13.below b12.size (fun k hk => by omega))
    have HS13 := Lib.hid (HS12.out.same (hf13.block _ HS12.out.lt (by omega)))
    clear hh12 hg12 hf13 HS12 HC dv3'
    obtain ⟨⟨g0, g1⟩, -⟩ := two_cells hg13
    obtain ⟨⟨h0, h1⟩, -⟩ := two_cells hh13
    have HC := Lib.hid (kept_any N g c a l cap w13 hlen hc hcm HS13.out (HR.out.on b13))
    go_wp2_with fail
    refine HC.out.mono ?_
    rintro e w14 ⟨rfl, hb14⟩
    have b14 := b13.trans (hb14.mono b13.size)
    have HWK := Lib.hid (works_any w14)
    clear g0 g1 h0 h1 HC
    go_wp2_with fail
    refine HWK.out.mono ?_
    rintro e w15 ⟨rfl, hb15⟩
    go_wp2_with fail
    go_ret
    exact ⟨rfl, b14.trans (hb15.mono b14.size)⟩
end Go.Proofs.Ytomlmphdnoempaa
namespace Go.Proofs.Ytomlmphdnoempaa.dists
open Go.ChangeShapes Go.WideShapes Go.ChangeAt Go.RowKit
theorem own : ownKnob Try.prog.godebug = none := by kernel_rfl
theorem laidOut : laidOutB Try.prog = true := by kernel_rfl
set_option maxRecDepth 100000 in
theorem lifted (os : Os) (started : os.Started) (H : Type) (enc : TypeId × Value → H) :
    ReturnsInHanded {} Try.checked os 3 .any (Rows.nearDistsSpec.pre6 enc Try.prog Try.f3 Rows.nearDistsRow.domain false) (Rows.nearDistsSpec.post enc Try.prog Try.f3 false true false false) := by
  refine returnsInHanded_of_change_sized (C := Try.checked) own started (by kernel_rfl) Try.func3
    (ChangeSpec.witness6 (enc := enc) (C := Try.checked) false ⟨#[], #[.agg #[.int .i64 0, .slice none 0 0], .int .i64 0, .int .i64 0], []⟩ 8 (by kernel_rfl) (by kernel_rfl) (by kernel_rfl) (by kernel_rfl)) ?_
  intro W base args ds gs before hval0 hW _ hsz0 _
  have hval : ∀ (j : Nat) t v, Try.f3.params[j]? = some t → args[j]? = some v → Value.okWide Try.prog W .any base t v := hval0
  have hW' := hW
  obtain ⟨p, q, hA0, hV, rfl, _, _⟩ := hW
  have hA : DataW.TrodAll enc Try.prog W 0 (fun _ => true) true Try.f3.params.toList args.toList ds p := hA0
  have hsz : (DataW.weightsEach Try.prog (Try.f3.params.toList ++ Rows.nearDistsSpec.plain.varTypes Try.prog) (ds ++ gs)).all (· ≤ reachBytes) = true := hsz0
  rw [Try.params3] at hA hval hsz
  obtain ⟨v0, vs0, d0, ds0, p0, q0, hargs, rfl, rfl, h0, r0⟩ := trodAll_cons hA
  obtain ⟨v1, vs1, d1, ds1, p1, q1, rfl, rfl, rfl, h1, r1⟩ := trodAll_cons r0
  obtain ⟨v2, vs2, d2, ds2, p2, q2, rfl, rfl, rfl, h2, r2⟩ := trodAll_cons r1
  obtain ⟨rfl, rfl, rfl⟩ := trodAll_nil r2
  obtain rfl : args = #[v0, v1, v2] := by cases args; simp_all
  obtain ⟨rfl, rfl⟩ := trodVars_none hV
  have lt0 : ∀ x ∈ p0, x.block < W.heap.size := by obtain ⟨m, hm⟩ := h0; exact DataW.trod_lt m _ _ _ hm
  obtain ⟨N0, a0, cap0, l0, w0⟩ := graph_in (hval 0 24 v0 rfl rfl) h0 hsz (j := 0) rfl rfl
  obtain ⟨a1, rfl, rfl, rfl, w1⟩ := open_int Try.underlying3 (hval 1 3 v1 rfl rfl) h1
  obtain ⟨a2, rfl, rfl, rfl, w2⟩ := open_int Try.underlying3 (hval 2 3 v2 rfl rfl) h2
  clear hA0 hval0
  obtain ⟨rfl, ar0, n0, sz0, wt0⟩ := w0
  refine (law_dists N0 a0 l0 cap0 a1 a2 W sz0 n0 ar0 wt0).mono fun e W' ⟨he, hb⟩ => ?_
  subst he
  exact ⟨_, rfl, _, _, _, [], _, [], hW', trodAll_mk1 (shut_bool Try.underlying4 _), (trodAll_cons_mk (Below.trod laidOut (by kernel_rfl) (of_decide_eq_true (by kernel_rfl)) h0 hb lt0) (trodAll_cons_mk (shut_int Try.underlying3 w1) (trodAll_cons_mk (shut_int Try.underlying3 w2) trodAll_mk0))), rfl, hb.frame _, fun h => by cases h⟩
theorem row_holds : Rows.NearDistsSaid :=
  OpenClaim.holds_of_wide 3 Try.f3 rfl rfl rfl rfl rfl rfl rfl ⟨rfl, rfl, rfl, rfl, rfl⟩ rfl rfl rfl rfl rfl (by kernel_rfl) Try.func3 (by kernel_rfl)
    (of_decide_eq_true (by kernel_rfl)) (by unfold Func.isWrapper; first | (rw [if_pos (by decide +kernel)]; kernel_rfl) | (rw [if_neg (by decide +kernel)]; exact ⟨rfl, rfl⟩))
    (fun os started H enc _ => lifted os started H enc)
end Go.Proofs.Ytomlmphdnoempaa.dists
namespace Go.Proofs.Ytomlmphdnoempaa
theorem nearDists_holds : Rows.NearDistsSaid := dists.row_holds
#print axioms nearDists_holds
end Go.Proofs.Ytomlmphdnoempaa
