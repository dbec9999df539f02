/-
  A walk that is told is one of the graph's arcs from s to t, as long as the distance, and comes to no vertex twice: NearWalks returns true for every graph and every two vertices, whatever the heap holds. NearWalks returns true.
-/
import Derived.Test.YtomlmphdnoempaaTold
import Derived.Test.YtomlmphdnoempaaKept
import Derived.Test.YtomlmphdnoempaaWks
import Derived.Test.YtomlmphdnoempaaRows
import Derived.Test.YtomlmphdnoempaaGiven
import Derived.ProofKit
import Derived.OpenShut
import Derived.ChangeOld
import Derived.Below
import Derived.SizedLaws
namespace Go.Proofs.Ytomlmphdnoempaa
open Go.RowKit
theorem Still.keep {w w' : World} {g : Nat} {l : List A} (h : Still w g l) (hs : w'.heap[g]? = w.heap[g]?) : Still w' g l := fun j hj => by
  obtain ⟨a, b, c⟩ := h j hj
  exact ⟨(World.cell?_of_block (a := ⟨g, j * 3, none⟩) hs).trans a, (World.cell?_of_block (a := ⟨g, j * 3 + 1, none⟩) hs).trans b, (World.cell?_of_block (a := ⟨g, j * 3 + 2, none⟩) hs).trans c⟩
theorem Pth.nil_eq {l : List A} {s v : Nat} {p : List Nat} (h : Pth l s v p) (hp : p = []) : v = s := by
  cases h with
  | nil => rfl
  | snoc _ _ _ => simp at hp
/-- What near.Walk told. -/
def Wv (lo : Nat) (w : World) (v : Value) (d : Int) (N : Int) (l : List A) (s t E : Int) : Prop :=
  E ≠ 0 ∧ v = .slice none 0 0 ∧ d = 0 ∨ E = 0 ∧ ∃ n s' t' : Nat, N = n ∧ s = s' ∧ t = t' ∧ s' < n ∧ t' < n ∧ RG n l ∧ IsT l s' t' d ∧
    ((d = Inf ∨ s' = t') ∧ v = .slice none 0 0 ∨ d < Inf ∧ s' ≠ t' ∧ ∃ p bp c, Pth l s' t' p ∧ plen l p = d ∧ (s' :: heads l p).Nodup ∧ v = .slice (some ⟨bp, 0, none⟩) (idI p).length c ∧ w.ownsRow lo 3 1 (.slice (some ⟨bp, 0, none⟩) (idI p).length c) (idI p).length (cellsI (idI p)))
theorem Wv.on {lo : Nat} {w w' : World} {v : Value} {d N : Int} {l : List A} {s t E : Int} (h : Wv lo w v d N l s t E) (hb : Below w.heap.size w w') : Wv lo w' v d N l s t E := by
  rcases h with h | ⟨h0, n, s', t', h1, h2, h3, h4, h5, h6, h7, h | ⟨h8, h9, p, bp, c, k1, k2, k3, k4, k5⟩⟩
  · exact Or.inl h
  · exact Or.inr ⟨h0, n, s', t', h1, h2, h3, h4, h5, h6, h7, Or.inl h⟩
  · exact Or.inr ⟨h0, n, s', t', h1, h2, h3, h4, h5, h6, h7, Or.inr ⟨h8, h9, p, bp, c, k1, k2, k3, k4, Hp.own_same k5 (fun k hk => hb.block k (k5.lt k hk).2)⟩⟩
theorem walk_v (N : Int) (a : Option Addr) (l : List A) (cap : Nat) (s t : Int) (w : World) (hl : l.length ≤ 9223372036854775807) (hw : ∀ x ∈ l, 0 ≤ x.w ∧ x.w < 4294967296) (hr : Arcs w a l) :
    Calls Try.prog 24 #[.agg #[.int .i64 N, .slice a l.length cap], .int .i64 s, .int .i64 t] w fun e w' => ∃ v d, e = .returned (.tuple #[v, .int .u64 d, .int .i64 (nearE N l [s, t])]) ∧ Wv w.heap.size w' v d N l s t (nearE N l [s, t]) ∧ Below w.heap.size w w' := by
  by_cases hE : nearE N l [s, t] = 0
  · obtain ⟨n, s', t', rfl, rfl, rfl, hs, ht, g⟩ := near_both hE hw
    refine (walk_ok n a l cap s' t' w g hs ht hE hr).mono ?_
    rintro e w' ⟨v, d, rfl, hd, hb, hor⟩
    rw [hE]
    refine ⟨v, d, rfl, Or.inr ⟨rfl, n, s', t', rfl, rfl, rfl, hs, ht, g, hd, ?_⟩, hb⟩
    rcases hor with ⟨h1, h2⟩ | ⟨h1, p, h2, h3, h4, h5, h6⟩
    · exact Or.inl ⟨Or.inl h1, h2⟩
    · by_cases e : s' = t'
      · subst e
        exact Or.inl ⟨Or.inr rfl, h6 (h2.none h4)⟩
      · refine Or.inr ⟨h1, e, ?_⟩
        have hp : p ≠ [] := fun hp => e (h2.nil_eq hp).symm
        have hvn : v ≠ .slice none 0 0 := by
          intro h
          rcases h5.2 with ⟨_, h7⟩ | ⟨g', c', cur, h', _⟩
          · exact hp (List.length_eq_zero_iff.1 h7)
          · rw [h] at h'; cases h'
        obtain ⟨gg, cc, rfl, _, _, _, _⟩ := own_shape h5 hvn
        rw [← idI_len p] at h5
        refine ⟨p, gg, cc, h2, h3, h4, by rw [idI_len], ?_⟩
        exact h5
  · refine (walk_no N a l cap s t w hl hE hr).mono ?_
    rintro e w' ⟨rfl, hb⟩
    exact ⟨_, 0, rfl, Or.inl ⟨hE, rfl, rfl⟩, hb⟩
theorem told_v {lo : Nat} {N : Int} {a : Option Addr} {l : List A} {cap : Nat} {s t d : Int} {v : Value} {w : World} (hl : l.length ≤ 9223372036854775807) (hr : Arcs w a l) (h : Wv lo w v d N l s t (nearE N l [s, t])) :
    Calls Try.prog 25 #[.agg #[.int .i64 N, .slice a l.length cap], .int .i64 s, .int .i64 t, v, .int .u64 d, .int .i64 (nearE N l [s, t])] w fun e w' => e = .returned (.bool true) ∧ Below w.heap.size w w' := by
  rcases h with ⟨h0, rfl, rfl⟩ | ⟨h0, n, s', t', rfl, rfl, rfl, h4, h5, h6, h7, ⟨h8, rfl⟩ | ⟨h8, h9, p, bp, c, k1, k2, k3, rfl, k5⟩⟩
  · exact told_no N a l cap s t w hl h0 hr
  · rw [h0]
    exact told_nil n a l cap s' t' d w h6 h4 h5 h0 h7 h8 hr
  · rw [h0]
    have hi := ints_own k5
    have e := idI_len p
    rw [e]
    exact told_ok n a l cap s' t' d p bp 0 c w h6 h4 h5 h0 h7 h8 h9 k1 k2 k3 hr hi
theorem spoilI_v {lo : Nat} {N : Int} {l : List A} {s t d E : Int} {v : Value} {w : World} (x : Int) (h : Wv lo w v d N l s t E) :
    Calls Try.prog 26 #[v, .int .i64 x] w fun e w' => e = .returned (.tuple #[]) ∧ Below lo w w' := by
  have hnil : Calls Try.prog 26 #[.slice none 0 0, .int .i64 x] w fun e w' => e = .returned (.tuple #[]) ∧ Below lo w w' := by
    refine (spoilInts_none x w).mono ?_
    rintro e w' ⟨rfl, rfl⟩
    exact ⟨rfl, Below.refl _ _⟩
  rcases h with ⟨h0, rfl, rfl⟩ | ⟨h0, n, s', t', rfl, rfl, rfl, h4, h5, h6, h7, ⟨h8, rfl⟩ | ⟨h8, h9, p, bp, c, k1, k2, k3, rfl, k5⟩⟩
  · exact hnil
  · exact hnil
  · exact spoilInts_any _ c lo x (idI p) w k5
set_option maxHeartbeats 3200000 in
set_option maxRecDepth 100000 in
theorem law_walks (N : Int) (a : Option Addr) (l : List A) (cap : Nat) (s t : Int) (w : World) (hlen : l.length * 24 ≤ 140737488351232) (hn : a = none → l = [] ∧ cap = 0) (hr : Arcs w a l) (hw : ∀ x ∈ l, 0 ≤ x.w ∧ x.w < 4294967296) :
    Calls Try.prog 5 #[.agg #[.int .i64 N, .slice a l.length cap], .int .i64 s, .int .i64 t] w fun e w' => e = .returned (.bool true) ∧ Below w.heap.size w w' := by
  have hl : l.length ≤ 9223372036854775807 := by omega
  have hb0 : Below w.heap.size w (w.alloc (.cells #[.int .i64 N, .slice a l.length cap] 24)) := (Below.refl _ _).alloc (Nat.le_refl _) _
  have hg := heap_top w (.cells #[.int .i64 N, .slice a l.length cap] 24)
  have HR := Lib.hid hr
  have HW := Lib.hid hw
  have HNN := Lib.hid hn
  have HLA := Lib.hid (large_any N a l.length cap (w.alloc (.cells #[.int .i64 N, .slice a l.length cap] 24)))
  clear hr hw hn
  go_enter Try.func5, Try.ntmps5
  go_wp2_with fail
  refine HLA.out.mono ?_
  rintro e w1 ⟨rfl, hb1⟩
  have b1 : Below w.heap.size w w1 := hb0.trans (hb1.mono hb0.size)
  have hg1 := (hb1.block _ (lt_of_block hg)).trans hg
  obtain ⟨⟨g0, g1⟩, -⟩ := two_cells hg1
  clear hg hb0 hb1 HLA
  generalize big N l.length = q
  cases q with
  | true =>
    have HWK := Lib.hid (works_any w1)
    go_wp2_with fail
    refine HWK.out.mono ?_
    rintro e w2 ⟨rfl, hb2⟩
    go_wp2_with fail
    go_ret
    exact ⟨rfl, b1.trans (hb2.mono b1.size)⟩
  | false =>
    have HLE := Lib.hid (lend_any N a l cap w1 hlen HNN.out (HR.out.on b1))
    go_wp2_with fail
    refine HLE.out.mono ?_
    rintro e w2 ⟨g, c, rfl, hc, hcm, hown, hb2⟩
    have HST := Lib.hid (still_own hown)
    have b2 : Below w.heap.size w w2 := b1.trans (hb2.mono b1.size)
    have hg2 := (hb2.block _ (lt_of_block hg1)).trans hg1
    have bW : Below w2.heap.size w2 (w2.alloc (.cells #[.int .i64 N, .slice (some ⟨g, 0, none⟩) l.length c] 24)) := (Below.refl _ _).alloc (Nat.le_refl _) _
    have hh := heap_top w2 (.cells #[.int .i64 N, .slice (some ⟨g, 0, none⟩) l.length c] 24)
    have hg3 := (bW.block _ (lt_of_block hg2)).trans hg2
    have b3 := b2.trans (bW.mono b2.size)
    have HS3 := Lib.hid (HST.out.on bW)
    have sz3 := lt_of_block hg2
    clear hown HLE g0 g1 hg1 hb2 b1 b2 hg2 bW
    go_wp2_with fail
    generalize w2.alloc (.cells #[.int .i64 N, .slice (some ⟨g, 0, none⟩) l.length c] 24) = W at *
    generalize hhb : w2.heap.size = hb at *
    have HSL := Lib.hid HS3.out.lt
    have HHL := Lib.hid (lt_of_block hh)
    have HWL := Lib.hid (lt_of_block hg3)
    clear HST hhb
    have HC := Lib.hid (walk_v N (some ⟨g, 0, none⟩) l c s t W hl HW.out HS3.out.arcs)
    have HTO := Lib.hid (fun (w' : World) v d hr h => told_v (lo := W.heap.size) (N := N) (a := a) (l := l) (cap := cap) (s := s) (t := t) (d := d) (v := v) (w := w') hl hr h)
    obtain ⟨E1, HE1⟩ := named (nearE N l [s, t])
    rw [HE1.out] at HC HTO
    refine HC.out.mono ?_
    rintro e w4 ⟨v1, d1, rfl, wv1, hb4⟩
    clear HC
    have hh4 := (hb4.block _ (lt_of_block hh)).trans hh
    have hg4 := (hb4.block _ (lt_of_block hg3)).trans hg3
    have b4 := b3.trans (hb4.mono b3.size)
    have HS4 := Lib.hid (HS3.out.on hb4)
    have z4 := hb4.size
    clear hh hg3 hb4 HS3
    obtain ⟨⟨g0, g1⟩, -⟩ := two_cells hg4
    have HC := Lib.hid (HTO.out w4 v1 d1 (HR.out.on b4) wv1)
    go_wp2_with fail
    refine HC.out.mono ?_
    rintro e w5 ⟨rfl, hb5⟩
    clear g0 g1 HC
    have hh5 := (hb5.block _ (lt_of_block hh4)).trans hh4
    have hg5 := (hb5.block _ (lt_of_block hg4)).trans hg4
    have b5 := b4.trans (hb5.mono b4.size)
    have HS5 := Lib.hid (HS4.out.on hb5)
    have wv2 := wv1.on hb5
    have z5 := hb5.size
    clear hh4 hg4 hb5 HS4 wv1
    have HC := Lib.hid (spoilI_v (-7) wv2)
    go_wp2_with fail
    refine HC.out.mono ?_
    rintro e w6 ⟨rfl, hb6⟩
    have zg := HSL.out
    have zh := HHL.out
    have zw := HWL.out
    have y0 := b3.size
    have hh6 := (hb6.block _ zh).trans hh5
    have hg6 := (hb6.block _ zw).trans hg5
    have b6 := b5.trans (hb6.mono y0)
    have HS6 := Lib.hid (HS5.out.keep (hb6.block _ zg))
    clear hh5 hg5 hb6 HS5 HC wv2
    obtain ⟨⟨g0, g1⟩, -⟩ := two_cells hg6
    obtain ⟨⟨h0, h1⟩, -⟩ := two_cells hh6
    have HC := Lib.hid (kept_any N g c a l cap w6 hlen hc hcm HS6.out (HR.out.on b6))
    go_wp2_with fail
    refine HC.out.mono ?_
    rintro e w7 ⟨rfl, hb7⟩
    have b7 := b6.trans (hb7.mono b6.size)
    have HWK := Lib.hid (works_any w7)
    clear g0 g1 h0 h1 HC
    go_wp2_with fail
    refine HWK.out.mono ?_
    rintro e w8 ⟨rfl, hb8⟩
    go_wp2_with fail
    go_ret
    exact ⟨rfl, b7.trans (hb8.mono b7.size)⟩
end Go.Proofs.Ytomlmphdnoempaa
namespace Go.Proofs.Ytomlmphdnoempaa.walks
open Go.ChangeShapes Go.WideShapes Go.ChangeAt Go.RowKit
theorem own : ownKnob Try.prog.godebug = none := by kernel_rfl
theorem laidOut : laidOutB Try.prog = true := by kernel_rfl
set_option maxRecDepth 100000 in
theorem lifted (os : Os) (started : os.Started) (H : Type) (enc : TypeId × Value → H) :
    ReturnsInHanded {} Try.checked os 5 .any (Rows.nearWalksSpec.pre6 enc Try.prog Try.f5 Rows.nearWalksRow.domain false) (Rows.nearWalksSpec.post enc Try.prog Try.f5 false true false false) := by
  refine returnsInHanded_of_change_sized (C := Try.checked) own started (by kernel_rfl) Try.func5
    (ChangeSpec.witness6 (enc := enc) (C := Try.checked) false ⟨#[], #[.agg #[.int .i64 0, .slice none 0 0], .int .i64 0, .int .i64 0], []⟩ 8 (by kernel_rfl) (by kernel_rfl) (by kernel_rfl) (by kernel_rfl)) ?_
  intro W base args ds gs before hval0 hW _ hsz0 _
  have hval : ∀ (j : Nat) t v, Try.f5.params[j]? = some t → args[j]? = some v → Value.okWide Try.prog W .any base t v := hval0
  have hW' := hW
  obtain ⟨p, q, hA0, hV, rfl, _, _⟩ := hW
  have hA : DataW.TrodAll enc Try.prog W 0 (fun _ => true) true Try.f5.params.toList args.toList ds p := hA0
  have hsz : (DataW.weightsEach Try.prog (Try.f5.params.toList ++ Rows.nearWalksSpec.plain.varTypes Try.prog) (ds ++ gs)).all (· ≤ reachBytes) = true := hsz0
  rw [Try.params5] at hA hval hsz
  obtain ⟨v0, vs0, d0, ds0, p0, q0, hargs, rfl, rfl, h0, r0⟩ := trodAll_cons hA
  obtain ⟨v1, vs1, d1, ds1, p1, q1, rfl, rfl, rfl, h1, r1⟩ := trodAll_cons r0
  obtain ⟨v2, vs2, d2, ds2, p2, q2, rfl, rfl, rfl, h2, r2⟩ := trodAll_cons r1
  obtain ⟨rfl, rfl, rfl⟩ := trodAll_nil r2
  obtain rfl : args = #[v0, v1, v2] := by cases args; simp_all
  obtain ⟨rfl, rfl⟩ := trodVars_none hV
  have lt0 : ∀ x ∈ p0, x.block < W.heap.size := by obtain ⟨m, hm⟩ := h0; exact DataW.trod_lt m _ _ _ hm
  obtain ⟨N0, a0, cap0, l0, w0⟩ := graph_in (hval 0 24 v0 rfl rfl) h0 hsz (j := 0) rfl rfl
  obtain ⟨a1, rfl, rfl, rfl, w1⟩ := open_int Try.underlying3 (hval 1 3 v1 rfl rfl) h1
  obtain ⟨a2, rfl, rfl, rfl, w2⟩ := open_int Try.underlying3 (hval 2 3 v2 rfl rfl) h2
  clear hA0 hval0
  obtain ⟨rfl, ar0, n0, sz0, wt0⟩ := w0
  refine (law_walks N0 a0 l0 cap0 a1 a2 W sz0 n0 ar0 wt0).mono fun e W' ⟨he, hb⟩ => ?_
  subst he
  exact ⟨_, rfl, _, _, _, [], _, [], hW', trodAll_mk1 (shut_bool Try.underlying4 _), (trodAll_cons_mk (Below.trod laidOut (by kernel_rfl) (of_decide_eq_true (by kernel_rfl)) h0 hb lt0) (trodAll_cons_mk (shut_int Try.underlying3 w1) (trodAll_cons_mk (shut_int Try.underlying3 w2) trodAll_mk0))), rfl, hb.frame _, fun h => by cases h⟩
theorem row_holds : Rows.NearWalksSaid :=
  OpenClaim.holds_of_wide 5 Try.f5 rfl rfl rfl rfl rfl rfl rfl ⟨rfl, rfl, rfl, rfl, rfl⟩ rfl rfl rfl rfl rfl (by kernel_rfl) Try.func5 (by kernel_rfl)
    (of_decide_eq_true (by kernel_rfl)) (by unfold Func.isWrapper; first | (rw [if_pos (by decide +kernel)]; kernel_rfl) | (rw [if_neg (by decide +kernel)]; exact ⟨rfl, rfl⟩))
    (fun os started H enc _ => lifted os started H enc)
end Go.Proofs.Ytomlmphdnoempaa.walks
namespace Go.Proofs.Ytomlmphdnoempaa
theorem nearWalks_holds : Rows.NearWalksSaid := walks.row_holds
#print axioms nearWalks_holds
end Go.Proofs.Ytomlmphdnoempaa
