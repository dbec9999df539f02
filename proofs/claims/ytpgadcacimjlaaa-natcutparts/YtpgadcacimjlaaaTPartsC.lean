/-
  Contract of graph.Parts.
-/
import Derived.Test.YtpgadcacimjlaaaTParts
namespace Go.Proofs.Ytpgadcacimjlaaa.T3
open Go.RowKit
/-- The labels that Parts tells. -/
def partsL (N : Int) (l : List A) : List Int := if chkE N l = 0 then ints (labs (lead l) N.toNat) else []
set_option maxRecDepth 100000 in
set_option maxHeartbeats 1600000 in
theorem parts_any (N : Int) (a : Option Addr) (l : List A) (cap : Nat) (w : World) (hl : l.length ≤ 9223372036854775807) (hr : Arcs w a l) :
    Calls Try.prog 15 #[.agg #[.int .i64 N, .slice a l.length cap]] w fun e w' => Made w w' e (partsL N l) (chkE N l) := by
  have hb0 : Below w.heap.size w (w.alloc (.cells #[.int .i64 N, .slice a l.length cap] 24)) := (Below.refl _ _).alloc (Nat.le_refl _) _
  have hr0 := hr.on hb0
  obtain ⟨T, HT⟩ := named (chkAt N l)
  by_cases hE : chkE N l = 0
  · obtain ⟨hN1, hN2, hlen, hall⟩ := chk_zero hE
    obtain ⟨i0, hi, hz0, hz1, hz2⟩ := info_parts info3
    rw [show partsL N l = ints (labs (lead l) N.toNat) by simp [partsL, hE], hE]
    obtain ⟨n, rfl⟩ : ∃ n : Nat, N = n := ⟨N.toNat, by omega⟩
    rw [Int.toNat_natCast]
    have hn1 : 1 ≤ n := by omega
    have hn2 : n ≤ 1024 := by omega
    have HALL := Lib.hid hall
    have HE := Lib.hid hE
    clear hall hN1 hN2 hE
    go_enter Try.func15, Try.ntmps15
    go_wp2_with fail
    refine (check_any n a l cap _ hl hr0).mono ?_
    rintro e w1 ⟨rfl, hb1⟩
    rw [HE.out, HT.out]
    have hg1 := (hb1.block _ (by simp)).trans (heap_top w _)
    have b1 := bthen hb0 hb1 (by simp)
    have s1 := lt_of_block hg1
    clear hb1 hb0 hr0
    obtain ⟨⟨g0, g1⟩, gf0, gf1⟩ := two_cells hg1
    go_wp2_with (at_make; refine wpList_make_full _ rfl (.tmp 19) (.tmp 19) 31 rfl w1.heap.size 3 i0 (.int .i64 0) 1 Try.underlying31 hi hz0 hz1 .i64 .i64 n n n rfl rfl rfl rfl (by rw [hz2]; omega) (by unfold maxLen; omega) (Nat.le_refl _) ?_; intro w2 hown2 hgrow2)
    have hown0 : OwnL w2 w1.heap.size n (List.replicate n 0) := by
      have e : (madeCells (Value.int .i64 0).cells (n * 1)).toList = cellsI (ints (List.replicate n 0)) := by
        show (madeCells #[Value.int .i64 0] (n * 1)).toList = _
        rw [toList_madeCells_one, Nat.mul_one]
        unfold cellsI ints
        simp
      rw [e] at hown2
      exact hown2
    have hb2 : Below w1.heap.size w1 w2 := (Below.refl _ _).grown hgrow2 (Nat.le_refl _) (by intro k hk; cases hk)
    clear hown2 hgrow2
    go_loopw [23] (fun i wr => ∃ (k : Nat) (X : List Nat), k ≤ n ∧ i = .int .i64 (k : Int) ∧ Hid (X.length = n) ∧ Hid (∀ j, j < k → X.getD j 0 = j) ∧ OwnL wr w1.heap.size n X ∧ Below w1.heap.size w1 wr) (fun i _ => n - (intOf i).toNat)
    case atStart => exact ⟨0, List.replicate n 0, Nat.zero_le _, rfl, by show _ = _; simp, by intro j hj; omega, hown0, hb2⟩
    case round =>
      obtain ⟨k, X, hk, rfl, HX, HJ, hown, hbel⟩ := hrel
      by_cases hlt : k < n
      · have cx := hown.cell HX.out k hlt
        have fx := hown.free k
        have hst := hown.set k k
        have HN : Hid (∀ j, j < k + 1 → (X.set k k).getD j 0 = j) := by
          show ∀ j, _
          intro j hj
          rw [getD_set _ _ _ _ (by rw [HX.out]; exact hlt)]
          split
          · rename_i e; exact e.symm
          · exact HJ.out j (by omega)
        generalize X.getD k 0 = x0 at *
        go_wp2_with fail
        exact ⟨⟨k + 1, _, by omega, by go_num, by show _ = _; rw [List.length_set]; exact HX.out, HN, hst, hbel.setCell (Nat.le_refl _) _⟩, by simp [intOf]; omega⟩
      · have HL0 : Hid (Lead n X (lead (l.take 0))) := Lead.start n HX.out (fun j hj => HJ.out j (by omega))
        have hg3 := (hbel.block _ s1).trans hg1
        have hb3 := b1.trans (hbel.mono (by omega))
        have s3 := hbel.size
        clear HX HJ hg1 g0 g1 gf0 gf1 hown0 hb2
        obtain ⟨⟨g0, g1⟩, gf0, gf1⟩ := two_cells hg3
        obtain ⟨b, o, hab⟩ := hr.b.get
        go_wp2_with fail
        go_loopw [34] (fun i wr => ∃ (q : Nat) (M : List Nat), q ≤ l.length ∧ i = .int .i64 (q : Int) ∧ Hid (Lead n M (lead (l.take q))) ∧ OwnL wr w1.heap.size n M ∧ wr.heap[w.heap.size]? = some (.cells #[.int .i64 n, .slice a l.length cap] 24) ∧ Below w.heap.size w wr ∧ w1.heap.size ≤ wr.heap.size) (fun i _ => l.length - (intOf i).toNat)
        case atStart => exact ⟨0, X, Nat.zero_le _, rfl, HL0, hown, hg3, hb3, s3⟩
        case round =>
          obtain ⟨q, M, hq, rfl, HM, ho4, hg4, hb4, s4⟩ := hrel
          clear hown hbel hg3 hb3 s3 g0 g1 gf0 gf1 HL0
          obtain ⟨⟨g0, g1⟩, gf0, gf1⟩ := two_cells hg4
          by_cases hql : q < l.length
          · obtain ⟨rfl, hbl, hat⟩ := hab (by omega)
            obtain ⟨c0, c1, c2⟩ := (hat q hql).onB hbl hb4
            have HS : Hid (lead (l.take (q + 1)) = mg (lead (l.take q)) (l.getD q A.zero).f.toNat (l.getD q A.zero).t.toNat) := lead_take l q hql
            have hx := HALL.out (l.getD q A.zero) (by rw [show l.getD q A.zero = l[q] by simp [List.getD, List.getElem?_eq_getElem hql]]; exact List.getElem_mem hql)
            generalize l.getD q A.zero = x at *
            obtain ⟨xf, xt, xw⟩ := x
            obtain ⟨f, hf⟩ : ∃ f : Nat, xf = f := ⟨xf.toNat, by have := hx.1.1; simp at this; omega⟩
            obtain ⟨t, ht⟩ : ∃ t : Nat, xt = t := ⟨xt.toNat, by have := hx.2.1; simp at this; omega⟩
            subst hf ht
            have hfn : f < n := by have := hx.1.2; simp at this; omega
            have htn : t < n := by have := hx.2.2; simp at this; omega
            simp only [Int.toNat_natCast] at HS
            clear hx
            have ho5 : OwnL (wr.alloc (.cells #[.int .i64 f, .int .i64 t, .int .u32 xw] 49)) w1.heap.size n M := World.ownsRow.alloc ho4 _
            have hg5 := (Below.heap_alloc wr (.cells #[.int .i64 f, .int .i64 t, .int .u32 xw] 49) w.heap.size (by omega)).trans hg4
            have hb5 := hb4.alloc (by omega) (.cells #[.int .i64 f, .int .i64 t, .int .u32 xw] 49)
            go_wp2_with fail
            refine (join_any w1.heap.size n f t M _ _ hfn htn HM.out ho5).mono ?_
            rintro e w6 ⟨rfl, ⟨M6, hM6, ho6⟩, hr6⟩
            have hg6 := (hr6.block w.heap.size (by simp; omega) (by omega)).trans hg5
            have hb6 := hr6.below hb5 (by omega) (by simp; omega)
            have s6 : w1.heap.size ≤ w6.heap.size := by have := hr6.size; simp at this; omega
            have HM6 : Hid (Lead n M6 (lead (l.take (q + 1)))) := by show Lead _ _ _; rw [HS.out]; exact hM6
            clear hM6 hb5 hg5 ho5 hr6
            go_wp2_with fail
            exact ⟨⟨q + 1, M6, by omega, by go_num, HM6, ho6, hg6, hb6, s6⟩, by simp [intOf]; omega⟩
          · have HM7 : Hid (Lead n M (lead l)) := by
              have := HM.out
              rw [List.take_of_length_le (by omega)] at this
              exact this
            go_wp2_with fail
            refine (tidy_any w1.heap.size n M _ _ hn2 HM7.out ho4).mono ?_
            rintro e w8 ⟨rfl, ho8, hb8⟩
            go_wp2_with fail
            go_ret2
            have s8 := hb4.size
            have e8 : (ints (labs (lead l) n)).length = n := by rw [ints_len, labs_len]
            refine ⟨some ⟨wr.heap.size, 0, none⟩, n, by rw [e8]; rfl, ?_, bthen hb4 hb8 s8⟩
            rw [e8]
            exact own_base ho8 s8
  · rw [show partsL N l = [] by simp [partsL, hE]]
    obtain ⟨E, HE⟩ := named (chkE N l)
    rw [HE.out] at hE ⊢
    have hE' : (E == 0) = false := beq_eq_false_iff_ne.2 hE
    clear hE
    go_enter Try.func15, Try.ntmps15
    go_wp2_with fail
    refine (check_any N a l cap _ hl hr0).mono ?_
    rintro e w1 ⟨rfl, hb1⟩
    rw [HE.out, HT.out]
    have b1 := bthen hb0 hb1 (by simp)
    go_wp2_with fail
    go_ret2
    exact made_nil b1
end Go.Proofs.Ytpgadcacimjlaaa.T3
