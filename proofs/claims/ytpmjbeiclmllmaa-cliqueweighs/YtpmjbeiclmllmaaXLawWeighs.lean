/-
  CliqueWeighs: the walk.
-/
import Derived.Test.YtpmjbeiclmllmaaXCqc
import Derived.Test.YtpmjbeiclmllmaaXCqd
import Derived.Test.YtpmjbeiclmllmaaXKp
namespace Go.Proofs.Ytpmjbeiclmllmaa
open Go.RowKit
set_option maxRecDepth 100000 in
set_option maxHeartbeats 3200000 in
theorem weighs_any (N : Int) (a : Option Addr) (l : List A) (cap : Nat) (d : Option Addr) (ids : List Int) (dc : Nat) (w : World) (hlen : l.length * 24 ≤ 140737488351232) (hna : a = none → l = [] ∧ cap = 0) (hnd : d = none → ids = [] ∧ dc = 0) (hdlen : ids.length * 8 ≤ 140737488351232) (hr : Arcs w a l) (hd : Ints w d ids) :
    Calls Try.prog 8 #[.agg #[.int .i64 N, .slice a l.length cap], .slice d ids.length dc] w fun e w' => e = .returned (.bool true) ∧ Below w.heap.size w w' := by
  have hl : l.length ≤ 9223372036854775807 := by omega
  have hdl : ids.length ≤ 9223372036854775807 := by omega
  have hg := heap_top w (.cells #[.int .i64 N, .slice a l.length cap] 24)
  have hb0 : Below w.heap.size w (w.alloc (.cells #[.int .i64 N, .slice a l.length cap] 24)) := (Below.refl _ _).alloc (Nat.le_refl _) _
  have hsz : (w.alloc (.cells #[.int .i64 N, .slice a l.length cap] 24)).heap.size = w.heap.size + 1 := by simp
  obtain ⟨⟨a0, a1⟩, _⟩ := two_cells hg
  have HLG := Lib.hid (lend_any N a l cap _ hlen hna (hr.on hb0))
  have HB0 := Lib.hid hb0
  have HG0 := Lib.hid hg
  have HRA := Lib.hid hr
  have HRD := Lib.hid hd
  have HND := Lib.hid hnd
  clear hr hd hb0 hg hna hnd
  generalize hp : w.heap.size = p at *
  go_enter Try.func8, Try.ntmps8
  go_wp2_with fail
  generalize hW : w.alloc (.cells #[.int .i64 N, .slice a l.length cap] 24) = W at *
  clear hW
  refine HLG.out.mono ?_
  rintro e w1 ⟨g, c, rfl, hc1, hc2, hown, hb1⟩
  have HS1 := Lib.hid (still_own hown)
  have HB1 : Hid (Below p w w1) := HB0.out.trans (hb1.mono (by omega))
  have HG1 : Hid (w1.heap[p]? = some (.cells #[.int .i64 N, .slice a l.length cap] 24)) := (hb1.block p (by omega)).trans HG0.out
  have hw1 : p + 1 ≤ w1.heap.size := by have := hb1.size; omega
  clear a0 a1 hb1 HLG HB0 HG0 hown
  have HLI := Lib.hid (lendI_any d ids dc w1 hdlen HND.out (HRD.out.on (hp ▸ HB1.out)))
  go_wp2_with fail
  refine HLI.out.mono ?_
  rintro e w2 ⟨gi, ci, rfl, hi1, hi2, howni, hb2⟩
  have hw2 : p + 1 ≤ w2.heap.size := by have := hb2.size; omega
  have hbm : Below w2.heap.size w2 (w2.alloc (.cells #[.int .i64 N, .slice (some ⟨g, 0, none⟩) l.length c] 24)) := (Below.refl _ _).alloc (Nat.le_refl _) _
  have HT2 := Lib.hid (heap_top w2 (.cells #[.int .i64 N, .slice (some ⟨g, 0, none⟩) l.length c] 24))
  have HSI := Lib.hid ((stillI_own howni).on hbm)
  have HS2 := Lib.hid ((HS1.out.on hb2).on hbm)
  have HB2 : Hid (Below p w (w2.alloc (.cells #[.int .i64 N, .slice (some ⟨g, 0, none⟩) l.length c] 24))) := HB1.out.trans ((hb2.trans (hbm.mono hb2.size)).mono (by omega))
  have HG2 : Hid ((w2.alloc (.cells #[.int .i64 N, .slice (some ⟨g, 0, none⟩) l.length c] 24)).heap[p]? = some (.cells #[.int .i64 N, .slice a l.length cap] 24)) := (hbm.block p (by omega)).trans ((hb2.block p (by omega)).trans HG1.out)
  have hqs : w2.heap.size < (w2.alloc (.cells #[.int .i64 N, .slice (some ⟨g, 0, none⟩) l.length c] 24)).heap.size := by simp
  clear HLI howni hb2 hbm HS1 HG1 HB1
  generalize hq : w2.heap.size = q at *
  have HXC : Hid (∀ wr, Below (w2.alloc (.cells #[.int .i64 N, .slice (some ⟨g, 0, none⟩) l.length c] 24)).heap.size (w2.alloc (.cells #[.int .i64 N, .slice (some ⟨g, 0, none⟩) l.length c] 24)) wr → (wr.cell? ⟨p, 0, none⟩ = some (.int .i64 N) ∧ wr.cell? ⟨p, 1, none⟩ = some (.slice a l.length cap)) ∧ wr.cell? ⟨q, 0, none⟩ = some (.int .i64 N) ∧ wr.cell? ⟨q, 1, none⟩ = some (.slice (some ⟨g, 0, none⟩) l.length c)) := fun wr hb => ⟨(two_cells ((hb.block _ (lt_of_block HG2.out)).trans HG2.out)).1, (two_cells ((hb.block _ (lt_of_block HT2.out)).trans HT2.out)).1⟩
  have HTS : Hid (∀ wr, Below (w2.alloc (.cells #[.int .i64 N, .slice (some ⟨g, 0, none⟩) l.length c] 24)).heap.size (w2.alloc (.cells #[.int .i64 N, .slice (some ⟨g, 0, none⟩) l.length c] 24)) wr → Still wr g l ∧ StillI wr gi ids ∧ Arcs wr a l ∧ Ints wr d ids) := fun wr hb => ⟨HS2.out.on hb, HSI.out.on hb, (HRA.out.on (hp ▸ HB2.out)).on hb, (HRD.out.on (hp ▸ HB2.out)).on hb⟩
  have HEND : Hid (∀ wr, Below (w2.alloc (.cells #[.int .i64 N, .slice (some ⟨g, 0, none⟩) l.length c] 24)).heap.size (w2.alloc (.cells #[.int .i64 N, .slice (some ⟨g, 0, none⟩) l.length c] 24)) wr → Below p w wr) := fun wr hb => HB2.out.trans (hb.mono (by omega))
  go_wp2_with fail
  generalize hwc : w2.alloc (.cells #[.int .i64 N, .slice (some ⟨g, 0, none⟩) l.length c] 24) = wc at *
  clear hwc HS2 HSI HB2 HG2 HT2
  have HBc : Hid (Below wc.heap.size wc wc) := Below.refl _ _
  obtain ⟨e1, HE1⟩ := named (wqE N l ids)
  obtain ⟨s1, s2, s3, s4⟩ := HTS.out wc HBc.out
  have HK1 := Lib.hid (weights_any N (some ⟨g, 0, none⟩) l c (some ⟨gi, 0, none⟩) ids ci wc hl hdl s1.arcs s2.ints)
  rw [HE1.out] at HK1
  clear s1 s2 s3 s4
  obtain ⟨⟨q0, q1⟩, q2, q3⟩ := HXC.out wc HBc.out
  refine HK1.out.mono ?_
  rintro e x1 ⟨hok1, hno1, hb1⟩
  have HX1 : Hid (Below wc.heap.size wc x1) := HBc.out.trans (hb1.mono HBc.out.size)
  clear HK1 hb1 q0 q1 q2 q3
  obtain ⟨s1, s2, s3, s4⟩ := HTS.out x1 HX1.out
  have HK2 := Lib.hid (rweights_any N a l cap d ids dc x1 hl hdl s3 s4)
  rw [HE1.out] at HK2
  clear s1 s2 s3 s4
  have b1 : (e1 == e1) = true := by simp
  by_cases h1 : e1 = 0
  · subst h1
    obtain ⟨gs, rfl, hgs, hw1⟩ := hok1 rfl
    have HW1 := Lib.hid hw1
    clear hok1 hno1 hw1
    obtain ⟨⟨q0, q1⟩, q2, q3⟩ := HXC.out x1 HX1.out
    go_wp2_with fail
    refine HK2.out.mono ?_
    rintro e x2 ⟨hok2, hno2, hb2⟩
    obtain ⟨v2, c2, rfl, hw2⟩ := hok2 (by simp)
    have HX2 : Hid (Below wc.heap.size wc x2) := HX1.out.trans (hb2.mono HX1.out.size)
    have HSW := Lib.hid (sameW_any (some ⟨gs, 0, none⟩) v2 ids.length c2 (wtL l ids) x2 (by rw [wtL_len]; exact hdl) (HW1.out.on hb2) hw2)
    rw [wtL_len] at HSW
    have HWL := Lib.hid (wtL_len l ids)
    rw [HWL.out]
    clear hok2 hno2 hb2 HK2 hw2 HW1 q0 q1 q2 q3
    obtain ⟨⟨q0, q1⟩, q2, q3⟩ := HXC.out x2 HX2.out
    go_wp2_with fail
    refine HSW.out.mono ?_
    rintro e x3 ⟨rfl, hb3⟩
    have HX3 : Hid (Below wc.heap.size wc x3) := HX2.out.trans (hb3.mono HX2.out.size)
    clear HSW hb3 q0 q1 q2 q3
    obtain ⟨⟨q0, q1⟩, q2, q3⟩ := HXC.out x3 HX3.out
    have HKG := Lib.hid (kept_any N g c a l cap x3 hlen hc1 hc2 (HTS.out x3 HX3.out).1 (HTS.out x3 HX3.out).2.2.1)
    go_wp2_with fail
    refine HKG.out.mono ?_
    rintro e x4 ⟨rfl, hb4⟩
    have HX4 : Hid (Below wc.heap.size wc x4) := HX3.out.trans (hb4.mono HX3.out.size)
    clear HKG hb4 q0 q1 q2 q3
    have HKI := Lib.hid (keptI_any gi ci d ids dc x4 hdlen hi1 (HTS.out x4 HX4.out).2.1 (HTS.out x4 HX4.out).2.2.2)
    go_wp2_with fail
    refine HKI.out.mono ?_
    rintro e x5 ⟨rfl, hb5⟩
    have HX5 : Hid (Below wc.heap.size wc x5) := HX4.out.trans (hb5.mono HX4.out.size)
    clear HKI hb5
    go_wp2_with fail
    refine (works13_any x5).mono ?_
    rintro e x6 ⟨rfl, hb6⟩
    have HX6 : Hid (Below wc.heap.size wc x6) := HX5.out.trans (hb6.mono HX5.out.size)
    clear hb6
    go_wp2_with fail
    go_ret
    exact ⟨rfl, HEND.out _ HX6.out⟩
  · obtain rfl := hno1 h1
    clear hok1 hno1
    obtain ⟨⟨q0, q1⟩, q2, q3⟩ := HXC.out x1 HX1.out
    go_wp2_with fail
    refine HK2.out.mono ?_
    rintro e x2 ⟨hok2, hno2, hb2⟩
    obtain rfl := hno2 h1
    have HX2 : Hid (Below wc.heap.size wc x2) := HX1.out.trans (hb2.mono HX1.out.size)
    have HSW := Lib.hid (sameW_any none none 0 0 [] x2 (by simp) (Or.inl rfl) (Or.inl rfl))
    rw [List.length_nil] at HSW
    clear hok2 hno2 hb2 HK2 q0 q1 q2 q3
    obtain ⟨⟨q0, q1⟩, q2, q3⟩ := HXC.out x2 HX2.out
    go_wp2_with fail
    refine HSW.out.mono ?_
    rintro e x3 ⟨rfl, hb3⟩
    have HX3 : Hid (Below wc.heap.size wc x3) := HX2.out.trans (hb3.mono HX2.out.size)
    clear HSW hb3 q0 q1 q2 q3
    obtain ⟨⟨q0, q1⟩, q2, q3⟩ := HXC.out x3 HX3.out
    have HKG := Lib.hid (kept_any N g c a l cap x3 hlen hc1 hc2 (HTS.out x3 HX3.out).1 (HTS.out x3 HX3.out).2.2.1)
    go_wp2_with fail
    refine HKG.out.mono ?_
    rintro e x4 ⟨rfl, hb4⟩
    have HX4 : Hid (Below wc.heap.size wc x4) := HX3.out.trans (hb4.mono HX3.out.size)
    clear HKG hb4 q0 q1 q2 q3
    have HKI := Lib.hid (keptI_any gi ci d ids dc x4 hdlen hi1 (HTS.out x4 HX4.out).2.1 (HTS.out x4 HX4.out).2.2.2)
    go_wp2_with fail
    refine HKI.out.mono ?_
    rintro e x5 ⟨rfl, hb5⟩
    have HX5 : Hid (Below wc.heap.size wc x5) := HX4.out.trans (hb5.mono HX4.out.size)
    clear HKI hb5
    go_wp2_with fail
    refine (works13_any x5).mono ?_
    rintro e x6 ⟨rfl, hb6⟩
    have HX6 : Hid (Below wc.heap.size wc x6) := HX5.out.trans (hb6.mono HX5.out.size)
    clear hb6
    go_wp2_with fail
    go_ret
    exact ⟨rfl, HEND.out _ HX6.out⟩
end Go.Proofs.Ytpmjbeiclmllmaa
