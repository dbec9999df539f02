/-
  Contract of the reference's Change.
-/
import Derived.Test.YtkhgnefnmibomaaRCopy
import Derived.Test.YtkhgnefnmibomaaChange
namespace Go.Proofs.Ytkhgnefnmibomaa
open Go.RowKit
set_option maxHeartbeats 1600000 in
theorem rchange_any (N : Int) (a : Option Addr) (l : List A) (cap : Nat) (a' : Option Addr) (cs : List Cg) (cap' : Nat) (w : World) (hlen : l.length * 24 ≤ 140737488351232) (hcs : cs.length ≤ 9223372036854775807) (hn : a = none → l = [] ∧ cap = 0) (hr : Arcs w a l) (hu : Cgs w a' cs) :
    Calls Try.prog 29 #[.agg #[.int .i64 N, .slice a l.length cap], .slice a' cs.length cap'] w fun e w' => ChgPost w w' e N l cs (cgE N l cs) := by
  have hl : l.length ≤ 9223372036854775807 := by omega
  have hb0 : Below w.heap.size w ((w.alloc (.cells #[.int .i64 N, .slice a l.length cap] 24)).alloc (.cells #[.int .i64 0, .slice none 0 0] 24)) := ((Below.refl _ _).alloc (Nat.le_refl _) _).alloc (by simp) _
  have hg : ((w.alloc (.cells #[.int .i64 N, .slice a l.length cap] 24)).alloc (.cells #[.int .i64 0, .slice none 0 0] 24)).heap[w.heap.size]? = some (.cells #[.int .i64 N, .slice a l.length cap] 24) := (Below.heap_alloc _ _ _ (by simp)).trans (heap_top w _)
  have h1 := heap_top (w.alloc (.cells #[.int .i64 N, .slice a l.length cap] 24)) (.cells #[.int .i64 0, .slice none 0 0] 24)
  rw [show (w.alloc (.cells #[.int .i64 N, .slice a l.length cap] 24)).heap.size = w.heap.size + 1 by simp] at h1
  generalize hW : (w.alloc (.cells #[.int .i64 N, .slice a l.length cap] 24)).alloc (.cells #[.int .i64 0, .slice none 0 0] 24) = W at *
  obtain ⟨⟨g0, g1⟩, gf0, gf1⟩ := two_cells hg
  obtain ⟨T, HT⟩ := named (chkAt N l)
  have hr0 := hr.on hb0
  by_cases hE : chkE N l = 0
  · have hlen2 := (chk_zero hE).2.2.1
    have HE := Lib.hid hE
    have HN := Lib.hid hn
    by_cases hm : 16384 < cs.length
    · rw [cgE_long hE hm]
      unfold ChgPost
      rw [if_neg (by decide), if_neg (by decide)]
      have hm' : (16384 : Int) < (cs.length : Int) := by omega
      clear hE hn
      go_enter Try.func29, Try.ntmps29
      go_wp2_with fail
      refine (rcheck_any N a l cap _ hl hr0).mono ?_
      rintro e w1 ⟨rfl, hb1⟩
      rw [HE.out, HT.out]
      have hh1 := (hb1.block _ (lt_of_block h1)).trans h1
      have b1 := bthen hb0 hb1 (by have := hb0.size; omega)
      obtain ⟨⟨r0, r1⟩, rf0, rf1⟩ := two_cells hh1
      clear hb1 hb0 hr0 hg h1 g0 g1 gf0 gf1 hW
      go_wp2_with fail
      refine bodyPost_ret (v := .tuple #[.agg #[.int .i64 0, .slice none 0 0], .int .i64 2]) (by simp [results, Try.results29, go_sem, r0, r1]) rfl ⟨none, 0, rfl, OwnA.nil _ _, fun _ => ⟨rfl, rfl⟩, ?_⟩
      exact (b1.setCell (by show _ ≤ w.heap.size + 1; omega) _).setCell (by show _ ≤ w.heap.size + 1; omega) _
    · have hm' : ¬ (16384 : Int) < (cs.length : Int) := by omega
      have HOK := Lib.hid (fun h => cgE_ok (cs := cs) hE hm h)
      have HBAD := Lib.hid (fun h => cgE_bad (cs := cs) hE hm h)
      have HLEN := Lib.hid (fun k => chg_len (cs.take k) l)
      have HSTEP := Lib.hid (fun k hk => chg_take l cs k hk)
      obtain ⟨E, HEE⟩ := named (cgE N l cs)
      rw [HEE.out] at HOK HBAD ⊢
      clear hE hn hm
      go_enter Try.func29, Try.ntmps29
      go_wp2_with fail
      refine (rcheck_any N a l cap _ hl hr0).mono ?_
      rintro e w1 ⟨rfl, hb1⟩
      rw [HE.out, HT.out]
      have hg1 := (hb1.block _ (lt_of_block hg)).trans hg
      have hh1 := (hb1.block _ (lt_of_block h1)).trans h1
      have b1 := bthen hb0 hb1 (by have := hb0.size; omega)
      have s1 := lt_of_block hh1
      have hr1 := hr.on b1
      clear hb1 hb0 hr0 hg h1 g0 g1 gf0 gf1 hW
      obtain ⟨⟨g0, g1⟩, gf0, gf1⟩ := two_cells hg1
      go_wp2_with fail
      refine (rcopy_any N a l cap _ hlen HN.out hr1).mono ?_
      rintro e w2 ⟨g2, c2, rfl, hown2, hb2⟩
      obtain ⟨a2, ha2⟩ : ∃ a2 : Option Addr, a2 = some ⟨g2, 0, none⟩ := ⟨_, rfl⟩
      rw [← ha2] at hown2 ⊢
      have hn2 : a2 = none → l = [] ∧ c2 = 0 := fun h => by rw [ha2] at h; cases h
      have HN2 := Lib.hid hn2
      have hg2 := (hb2.block _ (lt_of_block hg1)).trans hg1
      have hh2 := (hb2.block _ (lt_of_block hh1)).trans hh1
      have b2 := bthen b1 hb2 (by omega)
      have s2 := hb2.size
      clear hb2 hr1 hg1 hh1 g0 g1 gf0 gf1 b1 hn2 ha2
      have hh3 := heap_top w2 (.cells #[.int .i64 N, .slice a2 l.length c2] 24)
      have hg3 := (Below.heap_alloc w2 (.cells #[.int .i64 N, .slice a2 l.length c2] 24) _ (lt_of_block hg2)).trans hg2
      have hq3 := (Below.heap_alloc w2 (.cells #[.int .i64 N, .slice a2 l.length c2] 24) _ (lt_of_block hh2)).trans hh2
      have b3 := b2.alloc (by omega) (.cells #[.int .i64 N, .slice a2 l.length c2] 24)
      have hown3 := hown2.alloc (.cells #[.int .i64 N, .slice a2 l.length c2] 24)
      have s4 := lt_of_block hh2
      obtain ⟨b, o, hab⟩ := hu.get
      go_wp2_with fail
      go_loopw [9] (fun i wr => ∃ (k : Nat), k ≤ cs.length ∧ i = .int .i64 (k : Int) ∧ Hid ((cs.take k).all (cgOk l.length) = true) ∧ wr.ownsRow w1.heap.size 53 3 (.slice a2 l.length c2) l.length (cellsA (chg l (cs.take k))) ∧ wr.heap[w.heap.size]? = some (.cells #[.int .i64 N, .slice a l.length cap] 24) ∧ wr.heap[w.heap.size + 1]? = some (.cells #[.int .i64 0, .slice none 0 0] 24) ∧ wr.heap[w2.heap.size]? = some (.cells #[.int .i64 N, .slice a2 l.length c2] 24) ∧ Below w.heap.size w wr) (fun i _ => cs.length - (intOf i).toNat)
      case atStart => exact ⟨0, Nat.zero_le _, rfl, by show _ = _; simp, hown3, hg3, hq3, hh3, b3⟩
      case round =>
        obtain ⟨k, hk, rfl, HA, hown, hg4, hq4, hh4, b4⟩ := hrel
        obtain ⟨⟨e0, e1⟩, _, _⟩ := two_cells hg4
        clear hg3 hq3 hh3 hown3 hown2 b3 b2 hg2 hh2
        obtain ⟨⟨q0, q1⟩, qf0, qf1⟩ := two_cells hq4
        obtain ⟨⟨h0, h1⟩, hf0, hf1⟩ := two_cells hh4
        have sq := lt_of_block hq4
        have sh := lt_of_block hh4
        by_cases hlt : k < cs.length
        · obtain ⟨rfl, hbl, hat⟩ := hab (by omega)
          obtain ⟨c0, c1⟩ := hat k hlt
          have c0 := (b4.cell (p := ⟨b, o + k * 2, none⟩) hbl).trans c0
          have c1 := (b4.cell (p := ⟨b, o + k * 2 + 1, none⟩) hbl).trans c1
          have HT1 := Lib.hid (fun (h : cgOk l.length (cs.getD k Cg.zero) = true) => allC_take hlt HA.out h)
          have HF1 := Lib.hid (fun (h : cgOk l.length (cs.getD k Cg.zero) = false) => HBAD.out (allC_bad hlt h))
          have HS1 := Lib.hid (HSTEP.out k hlt)
          have HL1 := Lib.hid (HLEN.out k)
          clear hat
          generalize cs.getD k Cg.zero = c at *
          obtain ⟨ca, cw⟩ := c
          by_cases hlo : 0 ≤ ca
          · by_cases hhi : ca < l.length
            · obtain ⟨i, hi⟩ : ∃ i : Nat, ca = i := ⟨ca.toNat, by omega⟩
              subst hi
              have hil : i < l.length := by omega
              have HT2 := Lib.hid (HT1.out (by simp [cgOk]; omega))
              generalize chg l (cs.take k) = X at *
              obtain ⟨g, rfl, hgB, hgs⟩ : ∃ g, a2 = some ⟨g, 0, none⟩ ∧ w1.heap.size ≤ g ∧ g < wr.heap.size := by
                rcases hown.2 with ⟨_, h'⟩ | ⟨g, c', cur, h', hb', hg', _⟩
                · omega
                · injection h' with e1 e2 e3
                  exact ⟨g, e1, hb', lt_of_block hg'⟩
              have hXl : i < X.length := by rw [HL1.out]; exact hil
              have hown' : OwnA wr w1.heap.size (some ⟨g, 0, none⟩) c2 X := by unfold OwnA; rw [HL1.out]; exact hown
              have hne : g ≠ w2.heap.size := by
                intro e
                rcases hown.2 with ⟨h', _⟩ | ⟨g', c', cur, h', _, hg', _⟩
                · cases h'
                · injection h' with e1 e2 e3
                  injection e1 with e1
                  injection e1 with e1
                  rw [← e1, e, hh4] at hg'
                  injection hg' with e5
                  injection e5 with e6 e7 e8
                  cases e7
              obtain ⟨d0, d1, d2⟩ := hown'.at i hXl
              have f2 := hown'.free (i * 3 + 2)
              have H9 := Lib.hid (hown'.chg1 i cw hXl)
              have K0 := Lib.hid ((Below.heap_setCell wr ⟨g, i * 3 + 2, none⟩ (.int .u32 cw) w.heap.size (by show w.heap.size ≠ g; omega)).trans hg4)
              have K1 := Lib.hid ((Below.heap_setCell wr ⟨g, i * 3 + 2, none⟩ (.int .u32 cw) (w.heap.size + 1) (by show w.heap.size + 1 ≠ g; omega)).trans hq4)
              have K2 := Lib.hid ((Below.heap_setCell wr ⟨g, i * 3 + 2, none⟩ (.int .u32 cw) w2.heap.size (by show w2.heap.size ≠ g; omega)).trans hh4)
              have b5 := b4.setCell (p := ⟨g, i * 3 + 2, none⟩) (by show _ ≤ g; omega) (.int .u32 cw)
              generalize X.getD i A.zero = x at *
              have n1 : ¬ b = g := by omega
              have n2 : ¬ w2.heap.size = g := by omega
              have n3 : decide ((i : Int) < 0) = false := decide_eq_false (by omega)
              have n4 : (i : Int) < (l.length : Int) := by omega
              clear hown hown'
              go_wp2_with fail
              go_quiet (fail)
              go_wp2_with fail
              go_region
              go_wp2_with fail
              refine ⟨⟨k + 1, by omega, by go_num, HT2, ?_, ?_, ?_, ?_, ?_⟩, by simp [intOf]; omega⟩
              · rw [HS1.out]
                have h9 := H9.out
                unfold OwnA at h9
                rw [chg1_len, HL1.out] at h9
                exact h9
              · exact K0.out
              · exact K1.out
              · exact K2.out
              · exact ⟨b5.os, b5.tape, b5.output, b5.size, b5.block⟩
            · have hE5 := HF1.out (by simp [cgOk]; omega)
              subst hE5
              have n3 : decide (ca < 0) = false := decide_eq_false (by omega)
              go_wp2_with fail
              go_quiet (fail)
              go_wp2_with fail
              refine bodyPost_ret (v := .tuple #[.agg #[.int .i64 0, .slice none 0 0], .int .i64 5]) (by simp [results, Try.results29, go_sem, q0, q1]) rfl ?_
              unfold ChgPost
              rw [if_neg (by decide), if_neg (by decide)]
              exact ⟨none, 0, rfl, OwnA.nil _ _, fun _ => ⟨rfl, rfl⟩, ((b4.trans (below_drewN _ _ _)).setCell (p := ⟨w.heap.size + 1, 0, none⟩) (by show _ ≤ w.heap.size + 1; omega) _).setCell (p := ⟨w.heap.size + 1, 1, none⟩) (by show _ ≤ w.heap.size + 1; omega) _⟩
          · have hE5 := HF1.out (by simp [cgOk]; omega)
            subst hE5
            have n3 : decide (ca < 0) = true := decide_eq_true (by omega)
            go_wp2_with fail
            go_quiet (fail)
            go_wp2_with fail
            refine bodyPost_ret (v := .tuple #[.agg #[.int .i64 0, .slice none 0 0], .int .i64 5]) (by simp [results, Try.results29, go_sem, q0, q1]) rfl ?_
            unfold ChgPost
            rw [if_neg (by decide), if_neg (by decide)]
            exact ⟨none, 0, rfl, OwnA.nil _ _, fun _ => ⟨rfl, rfl⟩, ((b4.trans (below_drewN _ _ _)).setCell (p := ⟨w.heap.size + 1, 0, none⟩) (by show _ ≤ w.heap.size + 1; omega) _).setCell (p := ⟨w.heap.size + 1, 1, none⟩) (by show _ ≤ w.heap.size + 1; omega) _⟩
        · have hE0 := HOK.out (by have := HA.out; rw [List.take_of_length_le (by omega)] at this; exact this)
          subst hE0
          rw [List.take_of_length_le (by omega)] at hown
          have HCL := Lib.hid (chg_len cs l)
          have HOWN := Lib.hid hown
          clear hown
          go_wp2_with fail
          refine bodyPost_ret (v := .tuple #[.agg #[.int .i64 N, .slice a2 l.length c2], .int .i64 0]) (by simp [results, Try.results29, go_sem, q0, q1]) rfl ?_
          unfold ChgPost
          rw [if_pos rfl, if_pos rfl]
          refine ⟨a2, c2, by rw [HCL.out], ?_, ?_, (b4.setCell (by show _ ≤ w.heap.size + 1; omega) _).setCell (by show _ ≤ w.heap.size + 1; omega) _⟩
          · unfold OwnA
            rw [HCL.out]
            exact own_base (ownsRow_setCell_below (ownsRow_setCell_below HOWN.out (by show w.heap.size + 1 < _; omega) _) (by show w.heap.size + 1 < _; omega) _) (by omega)
          · intro h
            obtain ⟨e1, e2⟩ := HN2.out h
            refine ⟨List.eq_nil_of_length_eq_zero ?_, e2⟩
            rw [HCL.out, e1]; rfl
  · have hE2 : cgE N l cs = chkE N l := by unfold cgE; rw [if_neg hE]
    rw [hE2]
    unfold ChgPost
    rw [if_neg hE, if_neg hE]
    clear hE2
    obtain ⟨E, HE⟩ := named (chkE N l)
    rw [HE.out] at hE ⊢
    have hE' : (E == 0) = false := beq_eq_false_iff_ne.2 hE
    go_enter Try.func29, Try.ntmps29
    go_wp2_with fail
    refine (rcheck_any N a l cap _ hl hr0).mono ?_
    rintro e w1 ⟨rfl, hb1⟩
    rw [HE.out, HT.out]
    have hh1 := (hb1.block _ (lt_of_block h1)).trans h1
    have b1 := bthen hb0 hb1 (by have := hb0.size; omega)
    obtain ⟨⟨r0, r1⟩, rf0, rf1⟩ := two_cells hh1
    clear hb1 hb0 hr0 hg h1 g0 g1 gf0 gf1 hW
    go_wp2_with fail
    refine bodyPost_ret (v := .tuple #[.agg #[.int .i64 0, .slice none 0 0], .int .i64 E]) (by simp [results, Try.results29, go_sem, r0, r1]) rfl ⟨none, 0, rfl, OwnA.nil _ _, fun _ => ⟨rfl, rfl⟩, ?_⟩
    exact (b1.setCell (by show _ ≤ w.heap.size + 1; omega) _).setCell (by show _ ≤ w.heap.size + 1; omega) _
end Go.Proofs.Ytkhgnefnmibomaa
