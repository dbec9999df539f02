/-
  Distances within some vertices are those that all arcs say: NearWithin returns true for every graph, every vertex and every list of marks, whatever the heap holds. NearWithin returns true.
-/
import Derived.Test.YtomlmphdnoempaaWithinV
import Derived.Test.YtomlmphdnoempaaSpoil2
import Derived.Test.YtomlmphdnoempaaKept
import Derived.Test.YtomlmphdnoempaaWks
import Derived.Test.YtomlmphdnoempaaRows
import Derived.Test.YtomlmphdnoempaaGiven2
import Derived.ProofKit
import Derived.OpenShut
import Derived.ChangeOld
import Derived.Below
import Derived.SizedLaws
namespace Go.Proofs.Ytomlmphdnoempaa
open Go.RowKit
theorem Still.keepW {w w' : World} {g : Nat} {l : List A} (h : Still w g l) (hs : w'.heap[g]? = w.heap[g]?) : Still w' g l := fun j hj => by
  obtain ⟨a, b, c⟩ := h j hj
  exact ⟨(World.cell?_of_block (a := ⟨g, j * 3, none⟩) hs).trans a, (World.cell?_of_block (a := ⟨g, j * 3 + 1, none⟩) hs).trans b, (World.cell?_of_block (a := ⟨g, j * 3 + 2, none⟩) hs).trans c⟩
theorem Bools.up {w w' : World} {a : Option Addr} {q : List Bool} (h : Bools (· < w.heap.size) w a q) (hb : Below w.heap.size w w') : Bools (· < w'.heap.size) w' a q := h.imp (fun _ h => Nat.lt_of_lt_of_le h hb.size) (fun b h => hb.block b h)
/-- Blocks below lo are kept. -/
theorem Bools.keep {lo : Nat} {w w' : World} {a : Option Addr} {q : List Bool} (h : Bools (· < lo) w a q) (hs : lo ≤ w'.heap.size) (hb : ∀ b, b < lo → w'.heap[b]? = w.heap[b]?) : Bools (· < w'.heap.size) w' a q := h.imp (fun _ h => Nat.lt_of_lt_of_le h hs) (fun b h => hb b h)
set_option maxHeartbeats 3200000 in
set_option maxRecDepth 100000 in
theorem law_within (N : Int) (a : Option Addr) (l : List A) (cap : Nat) (s : Int) (ai : Option Addr) (q : List Bool) (capi : Nat) (w : World) (hlen : l.length * 24 ≤ 140737488351232) (hn : a = none → l = [] ∧ cap = 0) (hr : Arcs w a l) (hw : ∀ x ∈ l, 0 ≤ x.w ∧ x.w < 4294967296) (hqn : ai = none → q = [] ∧ capi = 0) (hql : q.length ≤ 140737488351232) (hq : Bools (· < w.heap.size) w ai q) :
    Calls Try.prog 4 #[.agg #[.int .i64 N, .slice a l.length cap], .int .i64 s, .slice ai q.length capi] w fun e w' => e = .returned (.bool true) ∧ Below w.heap.size w w' := by
  have hl : l.length ≤ 9223372036854775807 := by omega
  have hb0 : Below w.heap.size w (w.alloc (.cells #[.int .i64 N, .slice a l.length cap] 24)) := (Below.refl _ _).alloc (Nat.le_refl _) _
  have hg := heap_top w (.cells #[.int .i64 N, .slice a l.length cap] 24)
  have HR := Lib.hid hr
  have HW := Lib.hid hw
  have HNN := Lib.hid hn
  have HQ := Lib.hid hq
  have HQN := Lib.hid hqn
  have HLA := Lib.hid (large_any N a l.length cap (w.alloc (.cells #[.int .i64 N, .slice a l.length cap] 24)))
  clear hr hw hn hq hqn
  go_enter Try.func4, Try.ntmps4
  go_wp2_with fail
  refine HLA.out.mono ?_
  rintro e w1 ⟨rfl, hb1⟩
  have b1 : Below w.heap.size w w1 := hb0.trans (hb1.mono hb0.size)
  have hg1 := (hb1.block _ (lt_of_block hg)).trans hg
  obtain ⟨⟨g0, g1⟩, -⟩ := two_cells hg1
  clear hg hb0 hb1 HLA
  generalize big N l.length = qq
  cases qq with
  | true =>
    have HWK := Lib.hid (works_any w1)
    go_wp2_with fail
    refine HWK.out.mono ?_
    rintro e w2 ⟨rfl, hb2⟩
    go_wp2_with fail
    go_ret
    exact ⟨rfl, b1.trans (hb2.mono b1.size)⟩
  | false =>
    have HLE := Lib.hid (lend_any N a l cap w1 hlen HNN.out (HR.out.on b1))
    go_wp2_with fail
    refine HLE.out.mono ?_
    rintro e w2 ⟨g, c, rfl, hc, hcm, hown, hb2⟩
    have HST := Lib.hid (still_own hown)
    have b2 : Below w.heap.size w w2 := b1.trans (hb2.mono b1.size)
    have hg2 := (hb2.block _ (lt_of_block hg1)).trans hg1
    have hbE : Below w2.heap.size w2 (w2.alloc (.cells #[] 4)) := (Below.refl _ _).alloc (Nat.le_refl _) _
    have HOE := Lib.hid (World.ownsRow_lit (base := w2.heap.size) (e := 4) (size := 1) w2 #[] 0 (Nat.le_refl _) (by decide) rfl)
    have HKE := Lib.hid (HQ.out.up (b2.trans (hbE.mono b2.size)))
    clear hown HLE g0 g1 hg1 hb2 b1
    go_wp2_with (at_builtin; refine wpList_bools rfl (.tmp 18) (.tmp 19) rfl w2.heap.size w2.heap.size rfl HOE.out ai q capi rfl HQN.out HKE.out (by omega) (by simp) ?_; intro gb cb w3 hown3 hb3)
    have b23 : Below w2.heap.size w2 w3 := hbE.trans hb3
    have b3 := b2.trans (b23.mono b2.size)
    have hg3 := (b23.block _ (lt_of_block hg2)).trans hg2
    have hOB := bools_own hown3
    have bW : Below w3.heap.size w3 (w3.alloc (.cells #[.int .i64 N, .slice (some ⟨g, 0, none⟩) l.length c] 24)) := (Below.refl _ _).alloc (Nat.le_refl _) _
    have hh := heap_top w3 (.cells #[.int .i64 N, .slice (some ⟨g, 0, none⟩) l.length c] 24)
    have hg4 := (bW.block _ (lt_of_block hg3)).trans hg3
    have b4 := b3.trans (bW.mono b3.size)
    have HS4 := Lib.hid ((HST.out.on b23).on bW)
    have HOB := Lib.hid (hOB.up bW)
    clear hOB hown3 hb3 HKE HOE hbE b23 hg3 b3 hg2 b2 HST
    generalize w3.alloc (.cells #[.int .i64 N, .slice (some ⟨g, 0, none⟩) l.length c] 24) = W at *
    generalize hhb : w3.heap.size = hb at *
    have HSL := Lib.hid HS4.out.lt
    have HHL := Lib.hid (lt_of_block hh)
    have HWL := Lib.hid (lt_of_block hg4)
    clear hhb bW
    have HC := Lib.hid (within_v N (some ⟨g, 0, none⟩) l c s (some ⟨gb, 0, none⟩) q cb W hl HW.out HS4.out.arcs HOB.out)
    obtain ⟨E1, HE1⟩ := named (wE N l s q.length)
    rw [HE1.out] at HC
    refine HC.out.mono ?_
    rintro e w5 ⟨v1, rfl, dv1, hb5⟩
    clear HC
    have hh5 := (hb5.block _ (lt_of_block hh)).trans hh
    have hg5 := (hb5.block _ (lt_of_block hg4)).trans hg4
    have b5 := b4.trans (hb5.mono b4.size)
    have HS5 := Lib.hid (HS4.out.on hb5)
    have HO5 := Lib.hid (HOB.out.on hb5)
    have z5 := hb5.size
    clear hh hg4 hb5 HS4 HOB
    obtain ⟨⟨g0, g1⟩, -⟩ := two_cells hg5
    have HC := Lib.hid (rwithin_v N a l cap s ai q capi w5 hl hql HW.out (HR.out.on b5) (HQ.out.up b5))
    rw [HE1.out] at HC
    go_wp2_with fail
    refine HC.out.mono ?_
    rintro e w6 ⟨v2, rfl, dv2, hb6⟩
    clear g0 g1 HC
    have hh6 := (hb6.block _ (lt_of_block hh5)).trans hh5
    have hg6 := (hb6.block _ (lt_of_block hg5)).trans hg5
    have b6 := b5.trans (hb6.mono b5.size)
    have HS6 := Lib.hid (HS5.out.on hb6)
    have HO6 := Lib.hid (HO5.out.on (hb6.mono z5))
    have dv1 := dv1.on hb6
    have z6 := hb6.size
    clear hh5 hg5 hb6 HS5 HO5
    have HC := Lib.hid (same_v dv1 dv2)
    go_wp2_with fail
    refine HC.out.mono ?_
    rintro e w7 ⟨rfl, hb7⟩
    have hh7 := (hb7.block _ (lt_of_block hh6)).trans hh6
    have hg7 := (hb7.block _ (lt_of_block hg6)).trans hg6
    have b7 := b6.trans (hb7.mono b6.size)
    have HS7 := Lib.hid (HS6.out.on hb7)
    have HO7 := Lib.hid (HO6.out.on (hb7.mono (by omega)))
    have dv1 := dv1.on hb7
    have z7 := hb7.size
    clear hh6 hg6 hb7 HS6 HC dv2 HO6
    have zg := HSL.out
    have zh := HHL.out
    have zw := HWL.out
    have y0 := b4.size
    have HC := Lib.hid (spoil_v 3 dv1)
    go_wp2_with fail
    refine HC.out.mono ?_
    rintro e w8 ⟨rfl, hf8⟩
    have hh8 := (hf8.block _ (lt_of_block hh7) (by omega)).trans hh7
    have hg8 := (hf8.block _ (lt_of_block hg7) (by omega)).trans hg7
    have b8 := b7.trans (hf8.below b7.size (fun k hk => by omega))
    have HS8 := Lib.hid (HS7.out.keepW (hf8.block _ HS7.out.lt (by omega)))
    have z8 := hf8.size
    have HO8 := Lib.hid (HO7.out.keep (w' := w8) (by omega) (fun b hb => hf8.block b (by omega) (by omega)))
    clear hh7 hg7 hf8 HS7 HC dv1 HO7
    obtain ⟨⟨g0, g1⟩, -⟩ := two_cells hg8
    obtain ⟨⟨h0, h1⟩, -⟩ := two_cells hh8
    have HC := Lib.hid (kept_any N g c a l cap w8 hlen hc hcm HS8.out (HR.out.on b8))
    go_wp2_with fail
    refine HC.out.mono ?_
    rintro e w9 ⟨rfl, hb9⟩
    have b9 := b8.trans (hb9.mono b8.size)
    have HSB := Lib.hid (sameBools_any (some ⟨gb, 0, none⟩) ai cb capi q w9 (by omega) (HO8.out.up hb9) (HQ.out.up b9))
    clear g0 g1 h0 h1 HC
    go_wp2_with fail
    refine HSB.out.mono ?_
    rintro e w10 ⟨rfl, hb10⟩
    have b10 := b9.trans (hb10.mono b9.size)
    have HWK := Lib.hid (works_any w10)
    go_wp2_with fail
    refine HWK.out.mono ?_
    rintro e w11 ⟨rfl, hb11⟩
    go_wp2_with fail
    go_ret
    exact ⟨rfl, b10.trans (hb11.mono b10.size)⟩
end Go.Proofs.Ytomlmphdnoempaa
namespace Go.Proofs.Ytomlmphdnoempaa.within
open Go.ChangeShapes Go.WideShapes Go.ChangeAt Go.RowKit
theorem own : ownKnob Try.prog.godebug = none := by kernel_rfl
theorem laidOut : laidOutB Try.prog = true := by kernel_rfl
set_option maxRecDepth 100000 in
theorem lifted (os : Os) (started : os.Started) (H : Type) (enc : TypeId × Value → H) :
    ReturnsInHanded {} Try.checked os 4 .any (Rows.nearWithinSpec.pre6 enc Try.prog Try.f4 Rows.nearWithinRow.domain false) (Rows.nearWithinSpec.post enc Try.prog Try.f4 false true false false) := by
  refine returnsInHanded_of_change_sized (C := Try.checked) own started (by kernel_rfl) Try.func4
    (ChangeSpec.witness6 (enc := enc) (C := Try.checked) false ⟨#[], #[.agg #[.int .i64 0, .slice none 0 0], .int .i64 0, .slice none 0 0], []⟩ 8 (by kernel_rfl) (by kernel_rfl) (by kernel_rfl) (by kernel_rfl)) ?_
  intro W base args ds gs before hval0 hW _ hsz0 _
  have hval : ∀ (j : Nat) t v, Try.f4.params[j]? = some t → args[j]? = some v → Value.okWide Try.prog W .any base t v := hval0
  have hW' := hW
  obtain ⟨p, q, hA0, hV, rfl, _, _⟩ := hW
  have hA : DataW.TrodAll enc Try.prog W 0 (fun _ => true) true Try.f4.params.toList args.toList ds p := hA0
  have hsz : (DataW.weightsEach Try.prog (Try.f4.params.toList ++ Rows.nearWithinSpec.plain.varTypes Try.prog) (ds ++ gs)).all (· ≤ reachBytes) = true := hsz0
  rw [Try.params4] at hA hval hsz
  obtain ⟨v0, vs0, d0, ds0, p0, q0, hargs, rfl, rfl, h0, r0⟩ := trodAll_cons hA
  obtain ⟨v1, vs1, d1, ds1, p1, q1, rfl, rfl, rfl, h1, r1⟩ := trodAll_cons r0
  obtain ⟨v2, vs2, d2, ds2, p2, q2, rfl, rfl, rfl, h2, r2⟩ := trodAll_cons r1
  obtain ⟨rfl, rfl, rfl⟩ := trodAll_nil r2
  obtain rfl : args = #[v0, v1, v2] := by cases args; simp_all
  obtain ⟨rfl, rfl⟩ := trodVars_none hV
  have lt0 : ∀ x ∈ p0, x.block < W.heap.size := by obtain ⟨m, hm⟩ := h0; exact DataW.trod_lt m _ _ _ hm
  obtain ⟨N0, a0, cap0, l0, w0⟩ := graph_in (hval 0 24 v0 rfl rfl) h0 hsz (j := 0) rfl rfl
  obtain ⟨a1, rfl, rfl, rfl, w1⟩ := open_int Try.underlying3 (hval 1 3 v1 rfl rfl) h1
  have lt2 : ∀ x ∈ p2, x.block < W.heap.size := by obtain ⟨m, hm⟩ := h2; exact DataW.trod_lt m _ _ _ hm
  obtain ⟨a2, cap2, l2, w2⟩ := bools_in (hval 2 40 v2 rfl rfl) h2 hsz (j := 2) rfl rfl
  clear hA0 hval0
  obtain ⟨rfl, ar0, n0, sz0, wt0⟩ := w0
  obtain ⟨rfl, ar2, nn2, sz2⟩ := w2
  refine (law_within N0 a0 l0 cap0 a1 a2 l2 cap2 W sz0 n0 ar0 wt0 nn2 sz2 ar2).mono fun e W' ⟨he, hb⟩ => ?_
  subst he
  exact ⟨_, rfl, _, _, _, [], _, [], hW', trodAll_mk1 (shut_bool Try.underlying4 _), (trodAll_cons_mk (Below.trod laidOut (by kernel_rfl) (of_decide_eq_true (by kernel_rfl)) h0 hb lt0) (trodAll_cons_mk (shut_int Try.underlying3 w1) (trodAll_cons_mk (Below.trod laidOut (by kernel_rfl) (of_decide_eq_true (by kernel_rfl)) h2 hb lt2) trodAll_mk0))), rfl, hb.frame _, fun h => by cases h⟩
theorem row_holds : Rows.NearWithinSaid :=
  OpenClaim.holds_of_wide 4 Try.f4 rfl rfl rfl rfl rfl rfl rfl ⟨rfl, rfl, rfl, rfl, rfl⟩ rfl rfl rfl rfl rfl (by kernel_rfl) Try.func4 (by kernel_rfl)
    (of_decide_eq_true (by kernel_rfl)) (by unfold Func.isWrapper; first | (rw [if_pos (by decide +kernel)]; kernel_rfl) | (rw [if_neg (by decide +kernel)]; exact ⟨rfl, rfl⟩))
    (fun os started H enc _ => lifted os started H enc)
end Go.Proofs.Ytomlmphdnoempaa.within
namespace Go.Proofs.Ytomlmphdnoempaa
theorem nearWithin_holds : Rows.NearWithinSaid := within.row_holds
#print axioms nearWithin_holds
end Go.Proofs.Ytomlmphdnoempaa
