/-
  The chapter's example (works), and has.
-/
import Derived.Test.YtpmjbeiclmllmaaCe7
import Derived.Test.YtpmjbeiclmllmaaShelf
namespace Go.Proofs.Ytpmjbeiclmllmaa
open Go.RowKit
def wl : List A := [⟨0, 1, 0⟩, ⟨1, 2, 0⟩, ⟨0, 2, 0⟩]
abbrev wO : Obj := .cells #[.int .i64 0, .int .i64 1, .int .u32 0, .int .i64 1, .int .i64 2, .int .u32 0, .int .i64 0, .int .i64 2, .int .u32 0] 56
theorem wl_arcs {w : World} {b : Nat} (h : w.heap[b]? = some wO) : Arcs w (some ⟨b, 0, none⟩) wl := by
  refine .inr ⟨b, 0, rfl, lt_of_block h, fun j hj => ?_⟩
  have hj : j = 0 ∨ j = 1 ∨ j = 2 := by have : wl.length = 3 := rfl; omega
  rcases hj with rfl | rfl | rfl <;> exact ⟨by simp [World.cell?, h]; rfl, by simp [World.cell?, h]; rfl, by simp [World.cell?, h]; rfl⟩
theorem ints_block {w : World} {b : Nat} {xs : List Int} {t : TypeId} (h : w.heap[b]? = some (.cells (cellsI xs).toArray t (0, 0))) : Ints w (some ⟨b, 0, none⟩) xs := by
  by_cases h0 : xs = []
  · exact .inl h0
  · refine .inr ⟨b, 0, rfl, lt_of_block h, fun j hj => ?_⟩
    simp [World.cell?, h, cellsI, List.getD, hj]
theorem al6 (w : World) (o0 o1 o2 o3 o4 o5 : Obj) : ∀ W, W = (((((w.alloc o0).alloc o1).alloc o2).alloc o3).alloc o4).alloc o5 → W.heap[w.heap.size]? = some o0 ∧ W.heap[w.heap.size + 1]? = some o1 ∧ W.heap[w.heap.size + 2]? = some o2 ∧ W.heap[w.heap.size + 3]? = some o3 ∧ W.heap[w.heap.size + 4]? = some o4 ∧ W.heap[w.heap.size + 5]? = some o5 ∧ Below w.heap.size w W ∧ W.heap.size = w.heap.size + 6 := by
  rintro W rfl
  have h3 := top3 w o0 o1 o2
  have h4 := top3 (((w.alloc o0).alloc o1).alloc o2) o3 o4 o5
  generalize ((w.alloc o0).alloc o1).alloc o2 = V at *
  obtain ⟨a0, a1, a2, a3, a4⟩ := h3
  obtain ⟨b0, b1, b2, b3, b4⟩ := h4
  rw [a4] at b0 b1 b2 b4
  exact ⟨(b3.block _ (lt_of_block a0)).trans a0, (b3.block _ (lt_of_block a1)).trans a1, (b3.block _ (lt_of_block a2)).trans a2, b0, b1, b2, a3.trans (b3.mono (by omega)), by omega⟩
def wC (p : Nat) : List Cl := [⟨some ⟨p, 0, none⟩, 3, [0, 0, 1]⟩]
theorem wC_rws {w : World} {b p : Nat} (h : w.heap[b]? = some (.cells #[.slice (some ⟨p, 0, none⟩) 3 3] 25)) (h2 : w.heap[p]? = some (.cells #[.int .i64 0, .int .i64 0, .int .i64 1] 3)) : Rws w (some ⟨b, 0, none⟩) (wC p) := by
  refine ⟨.inr ⟨b, 0, rfl, lt_of_block h, fun j hj => ?_⟩, fun j hj => ?_⟩
  · obtain rfl : j = 0 := by have : (wC p).length = 1 := rfl; omega
    simp [World.cell?, h]; rfl
  · obtain rfl : j = 0 := by have : (wC p).length = 1 := rfl; omega
    exact ⟨ints_block (xs := [0, 0, 1]) h2, by show 3 ≤ 9223372036854775807; decide⟩
theorem w_bd (p : Nat) : bdV 3 wl [2] (csl (wC p)) 1 0 = [0, 1] ∧ inE 3 wl [2] (csl (wC p)) 1 0 = 0 := by
  show bdV 3 wl [2] [[0, 0, 1]] 1 0 = [0, 1] ∧ inE 3 wl [2] [[0, 0, 1]] 1 0 = 0
  decide
theorem w_ou (p : Nat) : ouV 3 wl [2] (csl (wC p)) 1 = [1, 2] ∧ atE 3 wl [2] (csl (wC p)) 1 = 0 := by
  show ouV 3 wl [2] [[0, 0, 1]] 1 = [1, 2] ∧ atE 3 wl [2] [[0, 0, 1]] 1 = 0
  decide
set_option maxRecDepth 100000 in
set_option maxHeartbeats 1600000 in
theorem works_any (w : World) : Calls Try.prog 12 #[] w fun e w' => e = .returned (.bool true) ∧ Below w.heap.size w w' := by
  have h6 := al6 w (.cells #[.int .i64 0, .int .i64 1, .int .u32 0, .int .i64 1, .int .i64 2, .int .u32 0, .int .i64 0, .int .i64 2, .int .u32 0] 56) (.cells #[.int .i64 3, .slice (some ⟨w.heap.size, 0, none⟩) 3 3] 24) (.cells #[.int .i64 2] 3) (.cells #[.int .i64 0, .int .i64 0, .int .i64 1] 3) (.cells #[.slice (some ⟨w.heap.size + 1 + 1 + 1, 0, none⟩) 3 3] 25) (.cells #[.slice (some ⟨w.heap.size + 1 + 1, 0, none⟩) 1 1, .slice (some ⟨w.heap.size + 1 + 1 + 1 + 1, 0, none⟩) 1 1] 28) _ rfl
  generalize hp : w.heap.size = p at *
  obtain ⟨hA, hG, hBs, hC, hR, hN, hB, hz⟩ := h6
  obtain ⟨⟨g0, g1⟩, _⟩ := two_cells hG
  obtain ⟨⟨n0, n1⟩, _⟩ := two_cells hN
  have HAR := Lib.hid (wl_arcs hA)
  have HBS := Lib.hid (ints_block (xs := [2]) hBs)
  have HRW := Lib.hid (wC_rws hR hC)
  have HGG := Lib.hid hG
  have HNN := Lib.hid hN
  have HB0 := Lib.hid hB
  clear hA hG hBs hC hR hN hB
  go_enter Try.func12, Try.ntmps12
  go_wp2_with fail
  generalize hW : ((((((w.alloc (.cells #[.int .i64 0, .int .i64 1, .int .u32 0, .int .i64 1, .int .i64 2, .int .u32 0, .int .i64 0, .int .i64 2, .int .u32 0] 56)).alloc (.cells #[.int .i64 3, .slice (some ⟨p, 0, none⟩) 3 3] 24)).alloc (.cells #[.int .i64 2] 3)).alloc (.cells #[.int .i64 0, .int .i64 0, .int .i64 1] 3)).alloc (.cells #[.slice (some ⟨p + 1 + 1 + 1, 0, none⟩) 3 3] 25)).alloc (.cells #[.slice (some ⟨p + 1 + 1, 0, none⟩) 1 1, .slice (some ⟨p + 1 + 1 + 1 + 1, 0, none⟩) 1 1] 28)) = W at *
  clear hW
  have HBD := Lib.hid (boundary_any 3 (some ⟨p, 0, none⟩) wl 3 (some ⟨p + 1 + 1, 0, none⟩) [2] 1 (some ⟨p + 1 + 1 + 1 + 1, 0, none⟩) (wC (p + 3)) 1 1 0 W (by decide) (by decide) HAR.out HBS.out HRW.out)
  rw [(w_bd (p + 3)).1, (w_bd (p + 3)).2] at HBD
  refine HBD.out.mono ?_
  rintro e w1 ⟨v1, rfl, hrow1, hb1⟩
  have HR1 := Lib.hid hrow1.ints
  have HB1 : Hid (Below p w w1) := HB0.out.trans (hb1.mono (by omega))
  obtain ⟨⟨x0, x1⟩, _⟩ := two_cells ((hb1.block (p + 1) (by omega)).trans HGG.out)
  obtain ⟨⟨y0, y1⟩, _⟩ := two_cells ((hb1.block (p + 5) (by omega)).trans HNN.out)
  have HOU := Lib.hid (outer_any 3 (some ⟨p, 0, none⟩) wl 3 (some ⟨p + 1 + 1, 0, none⟩) [2] 1 (some ⟨p + 1 + 1 + 1 + 1, 0, none⟩) (wC (p + 3)) 1 1 w1 (by decide) (by decide) (HAR.out.on hb1) (HBS.out.on hb1) (HRW.out.on hb1))
  rw [(w_ou (p + 3)).1, (w_ou (p + 3)).2] at HOU
  have hz1 : p + 6 ≤ w1.heap.size := by have := hb1.size; omega
  clear HBD hrow1 hb1 g0 g1 n0 n1 HB0
  go_wp2_with fail
  refine HOU.out.mono ?_
  rintro e w2 ⟨v2, rfl, hrow2, hb2⟩
  have HR2 := Lib.hid hrow2.ints
  have HR3 := Lib.hid (HR1.out.on hb2)
  have HB2 : Hid (Below p w w2) := HB1.out.trans (hb2.mono (by omega))
  have hz2 : p + 6 ≤ w2.heap.size := by have := hb2.size; omega
  clear HOU hrow2 hb2 x0 x1 y0 y1 HB1 HR1
  have hba : Below w2.heap.size w2 (w2.alloc (.cells #[.int .i64 0, .int .i64 1] 3)) := (Below.refl _ _).alloc (Nat.le_refl _) _
  have HS1 := Lib.hid (sameInts_any v1 (some ⟨w2.heap.size, 0, none⟩) 2 2 [0, 1] (w2.alloc (.cells #[.int .i64 0, .int .i64 1] 3)) (by decide) (HR3.out.on hba) (ints_block (xs := [0, 1]) (heap_top w2 (.cells #[.int .i64 0, .int .i64 1] 3))))
  have HBA := Lib.hid hba
  clear hba
  go_wp2_with fail
  refine HS1.out.mono ?_
  rintro e w3 ⟨rfl, hb3⟩
  have hb3' : Below w2.heap.size w2 w3 := HBA.out.trans (hb3.mono (by simp))
  have HB3 : Hid (Below p w w3) := HB2.out.trans (hb3'.mono (by omega))
  have HR4 := Lib.hid (HR2.out.on hb3')
  have hz3 : p + 6 ≤ w3.heap.size := by have := hb3'.size; omega
  clear HS1 HBA hb3 hb3' HB2 HR2 HR3
  have hba : Below w3.heap.size w3 (w3.alloc (.cells #[.int .i64 1, .int .i64 2] 3)) := (Below.refl _ _).alloc (Nat.le_refl _) _
  have HS2 := Lib.hid (sameInts_any v2 (some ⟨w3.heap.size, 0, none⟩) 2 2 [1, 2] (w3.alloc (.cells #[.int .i64 1, .int .i64 2] 3)) (by decide) (HR4.out.on hba) (ints_block (xs := [1, 2]) (heap_top w3 (.cells #[.int .i64 1, .int .i64 2] 3))))
  have HBA := Lib.hid hba
  clear hba
  go_wp2_with fail
  refine HS2.out.mono ?_
  rintro e w4 ⟨rfl, hb4⟩
  have HB4 : Hid (Below p w w4) := HB3.out.trans ((HBA.out.trans (hb4.mono (by simp))).mono (by omega))
  clear HS2 HBA hb4 HB3 HR4
  go_wp2_with fail
  go_ret
  exact ⟨rfl, HB4.out⟩
set_option maxRecDepth 100000 in
set_option maxHeartbeats 1600000 in
theorem has_any (a : Option Addr) (xs : List Int) (c : Nat) (q : Int) (w : World) (hx : xs.length ≤ 8192) (hi : Ints w a xs) :
    Calls Try.prog 34 #[.slice a xs.length c, .int .i64 q] w fun e w' => e = .returned (.bool (xs.contains q)) ∧ w' = w := by
  obtain ⟨ix, ox, hix⟩ := hi.get
  have HIX := Lib.hid hix
  clear hi hix
  obtain ⟨R, HR⟩ := named (xs.contains q)
  rw [HR.out]
  go_enter Try.func34, Try.ntmps34
  go_wp2_with fail
  go_loop [9] (fun i => ∃ (k : Nat), k ≤ xs.length ∧ i = .int .i64 k ∧ Hid ((xs.take k).contains q = false)) (fun i => xs.length - (intOf i).toNat)
  case atStart => exact ⟨0, Nat.zero_le _, rfl, by show _ = _; simp⟩
  case round =>
    obtain ⟨k, hk, rfl, HK⟩ := hrel
    by_cases hlk : k < xs.length
    · obtain ⟨rfl, hbl, hat⟩ := HIX.out (by omega)
      have hlk' : (k : Int) < xs.length := by omega
      have y0 := hat k hlk
      have HT := Lib.hid (take_snocI hlk)
      obtain ⟨y, HY⟩ := named (xs.getD k 0)
      rw [HY.out] at y0 HT
      clear hat
      by_cases h : y = q
      · have e1 : (y == q) = true := by simpa using h
        obtain rfl : R = true := by
          rw [← HR.out]
          have h3 : q ∈ xs.take (k + 1) := by rw [HT.out, h]; simp
          simpa using List.mem_of_mem_take h3
        go_wp2_with fail
        go_ret
        exact ⟨rfl, rfl⟩
      · have e1 : (y == q) = false := by simpa using h
        have HK2 : Hid ((xs.take (k + 1)).contains q = false) := by
          show _ = _
          rw [HT.out]
          have h3 : ¬ q ∈ xs.take k := by simpa using HK.out
          simp only [List.contains_eq_mem, List.mem_append, List.mem_singleton]
          exact decide_eq_false (fun h4 => h4.elim h3 (fun h5 => h h5.symm))
        clear h
        go_wp2_with fail
        exact ⟨⟨k + 1, by omega, by simp, HK2⟩, by simp [intOf]; omega⟩
    · obtain rfl : k = xs.length := by omega
      have hlk' : ¬ (xs.length : Int) < xs.length := by omega
      obtain rfl : R = false := by
        rw [← HR.out]
        have := HK.out
        rw [List.take_length] at this
        exact this
      go_wp2_with fail
      go_ret
      exact ⟨rfl, rfl⟩
end Go.Proofs.Ytpmjbeiclmllmaa
