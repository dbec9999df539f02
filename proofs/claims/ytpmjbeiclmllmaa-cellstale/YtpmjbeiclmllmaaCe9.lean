/-
  The contract of Index.
-/
import Derived.Test.YtpmjbeiclmllmaaCe8
namespace Go.Proofs.Ytpmjbeiclmllmaa
open Go.RowKit
theorem cho_sorted (p : Nat → Bool) (n : Nat) : (cho p n).Pairwise (· < ·) := List.pairwise_lt_range.filter _
theorem ints_sorted {S : List Nat} (h : S.Pairwise (· < ·)) : (ints S).Pairwise (· ≤ ·) := by
  unfold ints
  rw [List.pairwise_map]
  exact h.imp (fun h => by omega)
set_option maxRecDepth 100000 in
theorem bsearch_nil (x : Int) (c : Nat) (w : World) : Calls Try.prog 52 #[.slice none 0 c, .int .i64 x] w fun e w' => e = .returned (.tuple #[.int .i64 0, .bool false]) ∧ w' = w := by
  go_enter Try.func52, Try.ntmps52
  go_wp2_with fail
  go_loop [7, 8] (fun i j => i = .int .i64 0 ∧ j = .int .i64 0) (fun _ _ => 0)
  case atStart => exact ⟨rfl, rfl⟩
  case round =>
    obtain ⟨rfl, rfl⟩ := hrel
    go_wp2_with fail
    go_ret2
    exact ⟨rfl, rfl⟩
/-- BinarySearch in a row of rising numbers. -/
theorem bsearch_any (v : Option Addr) (S : List Nat) (B : Nat) (x : Int) (w : World) (hS : S.Pairwise (· < ·)) (hn : S.length ≤ 8192) (hr : RowI w B v (ints S)) : Calls Try.prog 52 #[.slice v S.length S.length, .int .i64 x] w fun e w' => e = .returned (.tuple #[.int .i64 ((ints S).countP (· < x) : Nat), .bool ((ints S).contains x)]) ∧ Below w.heap.size w w' := by
  rcases hr with ⟨rfl, h0⟩ | ⟨g, cur, h1, h2, h3, h4⟩
  · have e0 : S = [] := by cases S with
      | nil => rfl
      | cons a r => simp [ints] at h0
    subst e0
    refine (bsearch_nil x 0 w).mono ?_
    rintro e w' ⟨rfl, rfl⟩
    exact ⟨rfl, Below.refl _ _⟩
  · subst h1
    have hi := RowI.ints (w := w) (B := B) (v := some ⟨g, 0, none⟩) (xs := ints S) (.inr ⟨g, cur, rfl, h2, h3, h4⟩)
    obtain ⟨b, o, hb⟩ := hi.get
    have h := Try.slices_BinarySearch_int g 0 S.length S.length (ints S) x w (by rw [ints_len]; exact Nat.le_refl _) (by omega) (fun j hj => by
      obtain ⟨e1, _, e3⟩ := hb (by omega)
      injection e1 with e1
      injection e1 with e1 e2
      subst e1
      subst e2
      exact e3 j hj) (by rw [List.take_of_length_le (by rw [ints_len]; exact Nat.le_refl _)]; exact ints_sorted hS)
    rw [List.take_of_length_le (by rw [ints_len]; exact Nat.le_refl _)] at h
    refine h.mono ?_
    rintro e w' ⟨rfl, q, rfl⟩
    exact ⟨rfl, below_drewN _ _ _⟩
def ixE (N : Int) (l : List A) (bs : List Int) (cs : List (List Int)) (k x v : Int) : Int := if inE N l bs cs k x ≠ 0 then inE N l bs cs k x else if (ints (bdV N l bs cs k x)).contains v then 0 else 5
def ixV (N : Int) (l : List A) (bs : List Int) (cs : List (List Int)) (k x v : Int) : Nat := if ixE N l bs cs k x v = 0 then (ints (bdV N l bs cs k x)).countP (· < v) else 0
theorem bd_sorted (N : Int) (l : List A) (bs : List Int) (cs : List (List Int)) (k x : Int) : (bdV N l bs cs k x).Pairwise (· < ·) := by
  unfold bdV
  split
  · exact cho_sorted _ _
  · exact List.Pairwise.nil
theorem bd_len {N : Int} {l : List A} {bs : List Int} {cs : List (List Int)} {k x : Int} : (bdV N l bs cs k x).length ≤ 1024 := by
  unfold bdV
  split
  · rename_i h
    have h1 := (chk_zero (inE_zero h).1.1).2.1
    have h2 := cho_len (bdP (lvl cs (k.toNat - 1)) l x) N.toNat
    unfold bdL
    omega
  · simp
set_option maxRecDepth 100000 in
set_option maxHeartbeats 1600000 in
theorem index_any (N : Int) (a : Option Addr) (l : List A) (cap : Nat) (ba : Option Addr) (bs : List Int) (bc : Nat) (ca : Option Addr) (C : List Cl) (cc : Nat) (k x v : Int) (w : World) (hl : l.length ≤ 9223372036854775807) (hbl : bs.length ≤ 9223372036854775807) (hr : Arcs w a l) (hi : Ints w ba bs) (hR : Rws w ca C) :
    Calls Try.prog 17 #[.agg #[.int .i64 N, .slice a l.length cap], .agg #[.slice ba bs.length bc, .slice ca C.length cc], .int .i64 k, .int .i64 x, .int .i64 v] w fun e w' => e = .returned (.tuple #[.int .i64 (ixV N l bs (csl C) k x v : Nat), .int .i64 (ixE N l bs (csl C) k x v)]) ∧ Below w.heap.size w w' := by
  have hb0 : Below w.heap.size w ((w.alloc (.cells #[.int .i64 N, .slice a l.length cap] 24)).alloc (.cells #[.slice ba bs.length bc, .slice ca C.length cc] 28)) := (top2 w _ _).2.2.1
  have hg0 := (top2 w (.cells #[.int .i64 N, .slice a l.length cap] 24) (.cells #[.slice ba bs.length bc, .slice ca C.length cc] 28)).1
  have hg1 := (top2 w (.cells #[.int .i64 N, .slice a l.length cap] 24) (.cells #[.slice ba bs.length bc, .slice ca C.length cc] 28)).2.1
  have hsz := (top2 w (.cells #[.int .i64 N, .slice a l.length cap] 24) (.cells #[.slice ba bs.length bc, .slice ca C.length cc] 28)).2.2.2
  obtain ⟨⟨a0, a1⟩, _⟩ := two_cells hg0
  obtain ⟨⟨a2, a3⟩, _⟩ := two_cells hg1
  have HB0 := Lib.hid hb0
  have HLK := Lib.hid (boundary_any N a l cap ba bs bc ca C cc k x _ hl hbl (hr.on hb0) (hi.on hb0) (hR.on hb0))
  have HBS := Lib.hid (bd_sorted N l bs (csl C) k x)
  have HBL : (bdV N l bs (csl C) k x).length ≤ 1024 := bd_len
  have HXE : Hid (ixE N l bs (csl C) k x v = if inE N l bs (csl C) k x ≠ 0 then inE N l bs (csl C) k x else if (ints (bdV N l bs (csl C) k x)).contains v then 0 else 5) := rfl
  have HXV : Hid (ixV N l bs (csl C) k x v = if ixE N l bs (csl C) k x v = 0 then (ints (bdV N l bs (csl C) k x)).countP (· < v) else 0) := rfl
  rw [HXV.out, HXE.out]
  clear HXV HXE
  obtain ⟨E, HE⟩ := named (inE N l bs (csl C) k x)
  rw [HE.out] at HLK
  rw [HE.out]
  clear HE
  obtain ⟨S, HS⟩ := named (bdV N l bs (csl C) k x)
  rw [HS.out] at HLK HBS HBL
  rw [HS.out]
  clear HS hr hi hR hb0
  generalize hp : w.heap.size = p at *
  by_cases h1 : E = 0
  · subst h1
    obtain ⟨b, HB⟩ := named ((ints S).contains v)
    obtain ⟨ct, HCT⟩ := named ((ints S).countP (· < v))
    rw [HB.out, HCT.out]
    rw [show (if (0 : Int) ≠ 0 then (0 : Int) else if b = true then 0 else 5) = (if b = true then 0 else 5) from if_neg (by simp)]
    go_enter Try.func17, Try.ntmps17
    go_wp2_with fail
    generalize hW : (w.alloc (.cells #[.int .i64 N, .slice a l.length cap] 24)).alloc (.cells #[.slice ba bs.length bc, .slice ca C.length cc] 28) = W at *
    clear hW
    refine HLK.out.mono ?_
    rintro e w1 ⟨va, rfl, hrow, hb1⟩
    have HB1 : Hid (Below p w w1) := HB0.out.trans (hb1.mono (by omega))
    have HSE := Lib.hid (bsearch_any va S _ v w1 HBS.out (by omega) hrow)
    rw [HB.out, HCT.out] at HSE
    have hw1 : p ≤ w1.heap.size := by have := HB1.out.size; omega
    clear a0 a1 a2 a3 hb1 HLK hg0 hg1 HB0 hrow HB HCT
    go_wp2_with fail
    refine HSE.out.mono ?_
    rintro e w2 ⟨rfl, hb2⟩
    have HB2 : Hid (Below p w w2) := HB1.out.trans (hb2.mono hw1)
    clear HSE hb2 HB1
    rcases b with _ | _
    · go_wp2_with fail
      go_ret2
      exact ⟨rfl, HB2.out⟩
    · go_wp2_with fail
      go_ret2
      exact ⟨rfl, HB2.out⟩
  · have e1 : (E != 0) = true := by simpa using h1
    rw [if_pos h1, if_neg h1]
    go_enter Try.func17, Try.ntmps17
    go_wp2_with fail
    generalize hW : (w.alloc (.cells #[.int .i64 N, .slice a l.length cap] 24)).alloc (.cells #[.slice ba bs.length bc, .slice ca C.length cc] 28) = W at *
    clear hW
    refine HLK.out.mono ?_
    rintro e w1 ⟨va, rfl, hrow, hb1⟩
    have HB1 : Hid (Below p w w1) := HB0.out.trans (hb1.mono (by omega))
    clear a0 a1 a2 a3 hb1 HLK hg0 hg1 HB0 hrow
    go_wp2_with fail
    go_ret2
    exact ⟨rfl, HB1.out⟩
end Go.Proofs.Ytpmjbeiclmllmaa
