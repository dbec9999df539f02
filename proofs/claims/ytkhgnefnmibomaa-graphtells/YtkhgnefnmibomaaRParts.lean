/-
  Contract of the reference's Parts.
-/
import Derived.Test.YtkhgnefnmibomaaRConn
import Derived.Test.YtkhgnefnmibomaaREnds
namespace Go.Proofs.Ytkhgnefnmibomaa
open Go.RowKit
set_option maxHeartbeats 1600000 in
theorem rparts_any (N : Int) (a : Option Addr) (l : List A) (cap : Nat) (w : World) (hl : l.length ≤ 9223372036854775807) (hr : Arcs w a l) :
    Calls Try.prog 20 #[.agg #[.int .i64 N, .slice a l.length cap]] w fun e w' => Made w w' e (partsL N l) (chkE N l) := by
  have hb0 : Below w.heap.size w (w.alloc (.cells #[.int .i64 N, .slice a l.length cap] 24)) := (Below.refl _ _).alloc (Nat.le_refl _) _
  have hr0 := hr.on hb0
  obtain ⟨T, HT⟩ := named (chkAt N l)
  by_cases hE : chkE N l = 0
  · obtain ⟨hN1, hN2, hlen, hall⟩ := chk_zero hE
    obtain ⟨i4, hi4, hz0, hz1, hz2⟩ := info_parts info4
    rw [show partsL N l = ints (labs (lead l) N.toNat) by simp [partsL, hE], hE]
    obtain ⟨n, rfl⟩ : ∃ n : Nat, N = n := ⟨N.toNat, by omega⟩
    rw [Int.toNat_natCast]
    have hn2 : n ≤ 1024 := by omega
    have HALL := Lib.hid hall
    have HE := Lib.hid hE
    clear hall hN1 hN2 hE
    go_enter Try.func20, Try.ntmps20
    go_wp2_with fail
    refine (rcheck_any n a l cap _ hl hr0).mono ?_
    rintro e w1 ⟨rfl, hb1⟩
    rw [HE.out, HT.out]
    have hg1 := (hb1.block _ (by simp)).trans (heap_top w _)
    have b1 := bthen hb0 hb1 (by simp)
    have s1 := lt_of_block hg1
    clear hb1 hb0 hr0
    obtain ⟨⟨g0, g1⟩, gf0, gf1⟩ := two_cells hg1
    go_wp2_with (at_make; refine wpList_make_full _ rfl (.tmp 18) (.tmp 18) 46 rfl w1.heap.size 4 i4 (.bool false) 1 Try.underlying46 hi4 hz0 hz1 .i64 .i64 l.length l.length l.length rfl rfl rfl rfl (by rw [hz2]; omega) (by unfold maxLen; omega) (Nat.le_refl _) ?_; intro w2 hown2 hgrow2)
    have hown0 := ownB_new hown2
    have hb2 : Below w1.heap.size w1 w2 := (Below.refl _ _).grown hgrow2 (Nat.le_refl _) (by intro k hk; cases hk)
    clear hown2 hgrow2
    go_loopw [7] (fun i wr => ∃ (k : Nat) (X : List Bool), k ≤ l.length ∧ i = .int .i64 (k : Int) ∧ Hid (X.length = l.length) ∧ Hid (∀ j, j < k → X.getD j false = true) ∧ OwnB wr w1.heap.size l.length X ∧ Below w1.heap.size w1 wr) (fun i _ => l.length - (intOf i).toNat)
    case atStart => exact ⟨0, List.replicate l.length false, Nat.zero_le _, rfl, by show _ = _; simp, by intro j hj; omega, hown0, hb2⟩
    case round =>
      obtain ⟨k, X, hk, rfl, HX, HJ, hown, hbel⟩ := hrel
      clear hown0 hb2
      by_cases hlt : k < l.length
      · have cx := hown.cell HX.out k hlt
        have fx := hown.free k
        have hst := hown.set k true
        have HN : Hid (∀ j, j < k + 1 → (X.set k true).getD j false = true) := by
          show ∀ j, _
          intro j hj
          rw [getDB_set _ _ _ _ (by rw [HX.out]; exact hlt)]
          split
          · rfl
          · exact HJ.out j (by omega)
        generalize X.getD k false = x0 at *
        go_wp2_with fail
        exact ⟨⟨k + 1, _, by omega, by go_num, by show _ = _; rw [List.length_set]; exact HX.out, HN, hst, hbel.setCell (Nat.le_refl _) _⟩, by simp [intOf]; omega⟩
      · have hg3 := (hbel.block _ s1).trans hg1
        have hb3 := b1.trans (hbel.mono (by omega))
        have s3 := hbel.size
        have hr3 := hr.on hb3
        have HCN := Lib.hid (rconn_any n a l cap (some ⟨w1.heap.size, 0, none⟩) X l.length l wr hn2 hlen HX.out HALL.out (fun i hi _ => mem_getD hi) (fun x hx => by
          obtain ⟨i, hi, rfl⟩ := List.getElem_of_mem hx
          exact ⟨i, hi, HJ.out i (by omega), by simp [List.getD, List.getElem?_eq_getElem hi]⟩) hr3 (hown.bools HX.out))
        have HLL : Hid ((ints (labs (lead l) n)).length = n) := (by rw [ints_len, labs_len] : (ints (labs (lead l) n)).length = n)
        clear HX HJ hg1 g0 g1 gf0 gf1
        obtain ⟨⟨g0, g1⟩, gf0, gf1⟩ := two_cells hg3
        go_wp2_with fail
        refine HCN.out.mono ?_
        rintro e w8 ⟨g8, rfl, ho8, hg8, hb8⟩
        go_wp2_with fail
        go_ret2
        refine ⟨some ⟨g8, 0, none⟩, n, by rw [HLL.out]; rfl, ?_, bthen hb3 hb8 (by omega)⟩
        rw [HLL.out]
        exact own_base ho8 (by omega)
  · rw [show partsL N l = [] by simp [partsL, hE]]
    obtain ⟨E, HE⟩ := named (chkE N l)
    rw [HE.out] at hE ⊢
    have hE' : (E == 0) = false := beq_eq_false_iff_ne.2 hE
    clear hE
    go_enter Try.func20, Try.ntmps20
    go_wp2_with fail
    refine (rcheck_any N a l cap _ hl hr0).mono ?_
    rintro e w1 ⟨rfl, hb1⟩
    rw [HE.out, HT.out]
    have b1 := bthen hb0 hb1 (by simp)
    go_wp2_with fail
    go_ret2
    exact made_nil b1
end Go.Proofs.Ytkhgnefnmibomaa
