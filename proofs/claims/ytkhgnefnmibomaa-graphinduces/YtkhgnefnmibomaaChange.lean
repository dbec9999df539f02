/-
  Contract of graph.Change.
-/
import Derived.Test.YtkhgnefnmibomaaWeigh
namespace Go.Proofs.Ytkhgnefnmibomaa
open Go.RowKit
/-- The arc of a change is one. -/
def cgOk (n : Nat) (c : Cg) : Bool := decide (0 ≤ c.a ∧ c.a < n)
/-- Arcs with one weight changed. -/
def chg1 (l : List A) (c : Cg) : List A := l.set c.a.toNat ⟨(l.getD c.a.toNat A.zero).f, (l.getD c.a.toNat A.zero).t, c.w⟩
/-- Arcs with weights changed. -/
def chg (l : List A) (cs : List Cg) : List A := cs.foldl chg1 l
theorem chg1_len (l : List A) (c : Cg) : (chg1 l c).length = l.length := by unfold chg1; rw [List.length_set]
theorem chg_len : ∀ (cs : List Cg) (l : List A), (chg l cs).length = l.length
  | [], _ => rfl
  | c :: r, l => by
    show (chg (chg1 l c) r).length = _
    rw [chg_len r, chg1_len]
theorem chg_take (l : List A) (cs : List Cg) (k : Nat) (hk : k < cs.length) : chg l (cs.take (k + 1)) = chg1 (chg l (cs.take k)) (cs.getD k Cg.zero) := by
  unfold chg
  rw [List.take_add_one, List.foldl_append]
  simp [List.getD, List.getElem?_eq_getElem hk]
theorem allC_take {l : List Cg} {p : Cg → Bool} {k : Nat} (hk : k < l.length) (h : (l.take k).all p = true) (hp : p (l.getD k Cg.zero) = true) : (l.take (k + 1)).all p = true := by
  rw [List.take_succ_eq_append_getElem hk, List.all_append, h]
  have e : l.getD k Cg.zero = l[k] := by simp [List.getD, List.getElem?_eq_getElem hk]
  rw [e] at hp
  simp [hp]
theorem allC_bad {l : List Cg} {p : Cg → Bool} {k : Nat} (hk : k < l.length) (hp : p (l.getD k Cg.zero) = false) : l.all p = false := by
  have e : l.getD k Cg.zero = l[k] := by simp [List.getD, List.getElem?_eq_getElem hk]
  rw [e] at hp
  rw [List.all_eq_false]
  exact ⟨l[k], List.getElem_mem hk, by simp [hp]⟩
def cgE (N : Int) (l : List A) (cs : List Cg) : Int := if chkE N l = 0 then (if 16384 < cs.length then 2 else if cs.all (cgOk l.length) then 0 else 5) else chkE N l
theorem cgE_long {N : Int} {l : List A} {cs : List Cg} (h : chkE N l = 0) (h2 : 16384 < cs.length) : cgE N l cs = 2 := by unfold cgE; rw [if_pos h, if_pos h2]
theorem cgE_ok {N : Int} {l : List A} {cs : List Cg} (h : chkE N l = 0) (h2 : ¬ 16384 < cs.length) (h3 : cs.all (cgOk l.length) = true) : cgE N l cs = 0 := by unfold cgE; rw [if_pos h, if_neg h2, if_pos h3]
theorem cgE_bad {N : Int} {l : List A} {cs : List Cg} (h : chkE N l = 0) (h2 : ¬ 16384 < cs.length) (h3 : cs.all (cgOk l.length) = false) : cgE N l cs = 5 := by unfold cgE; rw [if_pos h, if_neg h2, h3]; rfl
theorem OwnA.chg1 {w : World} {B g c : Nat} {X : List A} (h : OwnA w B (.some ⟨g, 0, none⟩) c X) (j : Nat) (u : Int) (hj : j < X.length) : OwnA (w.setCell ⟨g, j * 3 + 2, none⟩ (.int .u32 u)) B (.some ⟨g, 0, none⟩) c (Go.Proofs.Ytkhgnefnmibomaa.chg1 X ⟨(j : Int), u⟩) := by
  have := h.set2 j u hj
  unfold Go.Proofs.Ytkhgnefnmibomaa.chg1
  simpa using this
theorem res_alloc {w : World} {g : Nat} {x y u v : Value} {t : TypeId} (h : w.heap[g]? = some (.cells #[x, y] t)) (o : Obj) :
    (((w.setCell ⟨g, 0, none⟩ u).setCell ⟨g, 1, none⟩ v).alloc o).cell? ⟨g, 0, none⟩ = some u ∧ (((w.setCell ⟨g, 0, none⟩ u).setCell ⟨g, 1, none⟩ v).alloc o).cell? ⟨g, 1, none⟩ = some v := by
  obtain ⟨⟨h0, h1⟩, _⟩ := two_cells h
  have hs := (((Below.refl 0 w).setCell (p := ⟨g, 0, none⟩) (Nat.zero_le _) u).setCell (p := ⟨g, 1, none⟩) (Nat.zero_le _) v).size
  have hl := Nat.lt_of_lt_of_le (lt_of_block h) hs
  have hb := (Below.refl _ ((w.setCell ⟨g, 0, none⟩ u).setCell ⟨g, 1, none⟩ v)).alloc (Nat.le_refl _) o
  constructor
  · rw [hb.cell (p := ⟨g, 0, none⟩) hl, World.cell?_setCell_other _ _ _ _ (by intro e; cases e)]
    exact World.cell?_setCell_same _ _ _ h0
  · rw [hb.cell (p := ⟨g, 1, none⟩) hl]
    exact World.cell?_setCell_same _ _ _ ((World.cell?_setCell_other _ _ _ _ (by intro e; cases e)).trans h1)
/-- What Change makes. -/
def ChgPost (w w' : World) (e : Ending) (N : Int) (l : List A) (cs : List Cg) (E : Int) : Prop := MadeG w w' e (if E = 0 then N else 0) (if E = 0 then chg l cs else []) E
set_option maxHeartbeats 1600000 in
theorem change_any (N : Int) (a : Option Addr) (l : List A) (cap : Nat) (a' : Option Addr) (cs : List Cg) (cap' : Nat) (w : World) (hlen : l.length * 24 ≤ 140737488351232) (hcs : cs.length ≤ 9223372036854775807) (hn : a = none → l = [] ∧ cap = 0) (hr : Arcs w a l) (hu : Cgs w a' cs) :
    Calls Try.prog 28 #[.agg #[.int .i64 N, .slice a l.length cap], .slice a' cs.length cap'] w fun e w' => ChgPost w w' e N l cs (cgE N l cs) := by
  have hl : l.length ≤ 9223372036854775807 := by omega
  have hb0 : Below w.heap.size w ((w.alloc (.cells #[.int .i64 N, .slice a l.length cap] 24)).alloc (.cells #[.int .i64 0, .slice none 0 0] 24)) := ((Below.refl _ _).alloc (Nat.le_refl _) _).alloc (by simp) _
  have hg : ((w.alloc (.cells #[.int .i64 N, .slice a l.length cap] 24)).alloc (.cells #[.int .i64 0, .slice none 0 0] 24)).heap[w.heap.size]? = some (.cells #[.int .i64 N, .slice a l.length cap] 24) := (Below.heap_alloc _ _ _ (by simp)).trans (heap_top w _)
  have h1 := heap_top (w.alloc (.cells #[.int .i64 N, .slice a l.length cap] 24)) (.cells #[.int .i64 0, .slice none 0 0] 24)
  rw [show (w.alloc (.cells #[.int .i64 N, .slice a l.length cap] 24)).heap.size = w.heap.size + 1 by simp] at h1
  generalize hW : (w.alloc (.cells #[.int .i64 N, .slice a l.length cap] 24)).alloc (.cells #[.int .i64 0, .slice none 0 0] 24) = W at *
  obtain ⟨⟨g0, g1⟩, gf0, gf1⟩ := two_cells hg
  obtain ⟨T, HT⟩ := named (chkAt N l)
  have hr0 := hr.on hb0
  by_cases hE : chkE N l = 0
  · have hlen2 := (chk_zero hE).2.2.1
    have HE := Lib.hid hE
    have HN := Lib.hid hn
    by_cases hm : 16384 < cs.length
    · rw [cgE_long hE hm]
      unfold ChgPost
      rw [if_neg (by decide), if_neg (by decide)]
      have hm' : (16384 : Int) < (cs.length : Int) := by omega
      clear hE hn
      go_enter Try.func28, Try.ntmps28
      go_wp2_with fail
      refine (check_any N a l cap _ hl hr0).mono ?_
      rintro e w1 ⟨rfl, hb1⟩
      rw [HE.out, HT.out]
      have hh1 := (hb1.block _ (lt_of_block h1)).trans h1
      have b1 := bthen hb0 hb1 (by have := hb0.size; omega)
      obtain ⟨⟨r0, r1⟩, rf0, rf1⟩ := two_cells hh1
      clear hb1 hb0 hr0 hg h1 g0 g1 gf0 gf1 hW
      go_wp2_with fail
      refine bodyPost_ret (v := .tuple #[.agg #[.int .i64 0, .slice none 0 0], .int .i64 2]) (by simp [results, Try.results28, go_sem, r0, r1]) rfl ⟨none, 0, rfl, OwnA.nil _ _, fun _ => ⟨rfl, rfl⟩, ?_⟩
      exact (b1.setCell (by show _ ≤ w.heap.size + 1; omega) _).setCell (by show _ ≤ w.heap.size + 1; omega) _
    · have hm' : ¬ (16384 : Int) < (cs.length : Int) := by omega
      have HOK := Lib.hid (fun h => cgE_ok (cs := cs) hE hm h)
      have HBAD := Lib.hid (fun h => cgE_bad (cs := cs) hE hm h)
      have HLEN := Lib.hid (fun k => chg_len (cs.take k) l)
      have HSTEP := Lib.hid (fun k hk => chg_take l cs k hk)
      obtain ⟨E, HEE⟩ := named (cgE N l cs)
      rw [HEE.out] at HOK HBAD ⊢
      clear hE hn hm
      go_enter Try.func28, Try.ntmps28
      go_wp2_with fail
      refine (check_any N a l cap _ hl hr0).mono ?_
      rintro e w1 ⟨rfl, hb1⟩
      rw [HE.out, HT.out]
      have hg1 := (hb1.block _ (lt_of_block hg)).trans hg
      have hh1 := (hb1.block _ (lt_of_block h1)).trans h1
      have b1 := bthen hb0 hb1 (by have := hb0.size; omega)
      have s1 := lt_of_block hh1
      have hr1 := hr.on b1
      clear hb1 hb0 hr0 hg h1 g0 g1 gf0 gf1 hW
      obtain ⟨⟨g0, g1⟩, gf0, gf1⟩ := two_cells hg1
      go_wp2_with fail
      refine (copied_any N a l cap _ hlen HN.out hr1).mono ?_
      rintro e w2 ⟨a2, c2, rfl, hown2, hn2, hb2⟩
      have HN2 := Lib.hid hn2
      have hg2 := (hb2.block _ (lt_of_block hg1)).trans hg1
      have hh2 := (hb2.block _ (lt_of_block hh1)).trans hh1
      have b2 := bthen b1 hb2 (by omega)
      have s2 := hb2.size
      clear hb2 hr1 hg1 hh1 g0 g1 gf0 gf1 b1 hn2
      have hh3 := heap_top w2 (.cells #[.int .i64 N, .slice a2 l.length c2] 24)
      have hq3 := (Below.heap_alloc w2 (.cells #[.int .i64 N, .slice a2 l.length c2] 24) _ (lt_of_block hh2)).trans hh2
      have b3 := b2.alloc (by omega) (.cells #[.int .i64 N, .slice a2 l.length c2] 24)
      have hown3 := hown2.alloc (.cells #[.int .i64 N, .slice a2 l.length c2] 24)
      have s4 := lt_of_block hh2
      obtain ⟨b, o, hab⟩ := hu.get
      go_wp2_with fail
      go_loopw [28] (fun i wr => ∃ (k : Nat), k ≤ cs.length ∧ i = .int .i64 (k : Int) ∧ Hid ((cs.take k).all (cgOk l.length) = true) ∧ wr.ownsRow w1.heap.size 53 3 (.slice a2 l.length c2) l.length (cellsA (chg l (cs.take k))) ∧ wr.heap[w.heap.size + 1]? = some (.cells #[.int .i64 0, .slice none 0 0] 24) ∧ wr.heap[w2.heap.size]? = some (.cells #[.int .i64 N, .slice a2 l.length c2] 24) ∧ Below w.heap.size w wr) (fun i _ => cs.length - (intOf i).toNat)
      case atStart => exact ⟨0, Nat.zero_le _, rfl, by show _ = _; simp, hown3, hq3, hh3, b3⟩
      case round =>
        obtain ⟨k, hk, rfl, HA, hown, hq4, hh4, b4⟩ := hrel
        clear hq3 hh3 hown3 hown2 b3 b2 hg2 hh2
        obtain ⟨⟨q0, q1⟩, qf0, qf1⟩ := two_cells hq4
        obtain ⟨⟨h0, h1⟩, hf0, hf1⟩ := two_cells hh4
        have sq := lt_of_block hq4
        have sh := lt_of_block hh4
        by_cases hlt : k < cs.length
        · obtain ⟨rfl, hbl, hat⟩ := hab (by omega)
          obtain ⟨c0, c1⟩ := hat k hlt
          have c0 := (b4.cell (p := ⟨b, o + k * 2, none⟩) hbl).trans c0
          have c1 := (b4.cell (p := ⟨b, o + k * 2 + 1, none⟩) hbl).trans c1
          have HT1 := Lib.hid (fun (h : cgOk l.length (cs.getD k Cg.zero) = true) => allC_take hlt HA.out h)
          have HF1 := Lib.hid (fun (h : cgOk l.length (cs.getD k Cg.zero) = false) => HBAD.out (allC_bad hlt h))
          have HS1 := Lib.hid (HSTEP.out k hlt)
          have HL1 := Lib.hid (HLEN.out k)
          clear hat
          generalize cs.getD k Cg.zero = c at *
          obtain ⟨ca, cw⟩ := c
          by_cases hlo : 0 ≤ ca
          · by_cases hhi : ca < l.length
            · obtain ⟨i, hi⟩ : ∃ i : Nat, ca = i := ⟨ca.toNat, by omega⟩
              subst hi
              have hil : i < l.length := by omega
              have HT2 := Lib.hid (HT1.out (by simp [cgOk]; omega))
              generalize chg l (cs.take k) = X at *
              obtain ⟨g, rfl, hgB, hgs⟩ : ∃ g, a2 = some ⟨g, 0, none⟩ ∧ w1.heap.size ≤ g ∧ g < wr.heap.size := by
                rcases hown.2 with ⟨_, h'⟩ | ⟨g, c', cur, h', hb', hg', _⟩
                · omega
                · injection h' with e1 e2 e3
                  exact ⟨g, e1, hb', lt_of_block hg'⟩
              have hXl : i < X.length := by rw [HL1.out]; exact hil
              have hown' : OwnA wr w1.heap.size (some ⟨g, 0, none⟩) c2 X := by unfold OwnA; rw [HL1.out]; exact hown
              have hne : g ≠ w2.heap.size := by
                intro e
                rcases hown.2 with ⟨h', _⟩ | ⟨g', c', cur, h', _, hg', _⟩
                · cases h'
                · injection h' with e1 e2 e3
                  injection e1 with e1
                  injection e1 with e1
                  rw [← e1, e, hh4] at hg'
                  injection hg' with e5
                  injection e5 with e6 e7 e8
                  cases e7
              obtain ⟨d0, d1, d2⟩ := hown'.at i hXl
              have f2 := hown'.free (i * 3 + 2)
              have H9 := Lib.hid ((hown'.chg1 i cw hXl).alloc (.cells #[.int .i64 i, .int .u32 cw] 64))
              have K1 := Lib.hid ((Below.heap_setCell wr ⟨g, i * 3 + 2, none⟩ (.int .u32 cw) (w.heap.size + 1) (by show w.heap.size + 1 ≠ g; omega)).trans hq4)
              have K2 := Lib.hid ((Below.heap_setCell wr ⟨g, i * 3 + 2, none⟩ (.int .u32 cw) w2.heap.size (by show w2.heap.size ≠ g; omega)).trans hh4)
              have b5 := b4.setCell (p := ⟨g, i * 3 + 2, none⟩) (by show _ ≤ g; omega) (.int .u32 cw)
              generalize X.getD i A.zero = x at *
              clear hown hown'
              go_wp2_with fail
              refine ⟨⟨k + 1, by omega, by go_num, HT2, ?_, ?_, ?_, ?_⟩, by simp [intOf]; omega⟩
              · rw [HS1.out]
                have h9 := H9.out
                unfold OwnA at h9
                rw [chg1_len, HL1.out] at h9
                exact h9
              · exact (Below.heap_alloc _ _ _ (lt_of_block K1.out)).trans K1.out
              · exact (Below.heap_alloc _ _ _ (lt_of_block K2.out)).trans K2.out
              · exact b5.alloc b5.size _
            · have hE5 := HF1.out (by simp [cgOk]; omega)
              subst hE5
              go_wp2_with fail
              have RA := res_alloc (u := .int .i64 0) (v := .slice none 0 0) hq4 (.cells #[.int .i64 ca, .int .u32 cw] 64)
              refine bodyPost_ret (v := .tuple #[.agg #[.int .i64 0, .slice none 0 0], .int .i64 5]) (by simp [results, Try.results28, go_sem, RA.1, RA.2]) rfl ?_
              unfold ChgPost
              rw [if_neg (by decide), if_neg (by decide)]
              exact ⟨none, 0, rfl, OwnA.nil _ _, fun _ => ⟨rfl, rfl⟩, have b6 := (b4.setCell (p := ⟨w.heap.size + 1, 0, none⟩) (by show _ ≤ w.heap.size + 1; omega) _).setCell (p := ⟨w.heap.size + 1, 1, none⟩) (by show _ ≤ w.heap.size + 1; omega) _; b6.alloc b6.size _⟩
          · have hE5 := HF1.out (by simp [cgOk]; omega)
            subst hE5
            go_wp2_with fail
            have RA := res_alloc (u := .int .i64 0) (v := .slice none 0 0) hq4 (.cells #[.int .i64 ca, .int .u32 cw] 64)
            refine bodyPost_ret (v := .tuple #[.agg #[.int .i64 0, .slice none 0 0], .int .i64 5]) (by simp [results, Try.results28, go_sem, RA.1, RA.2]) rfl ?_
            unfold ChgPost
            rw [if_neg (by decide), if_neg (by decide)]
            exact ⟨none, 0, rfl, OwnA.nil _ _, fun _ => ⟨rfl, rfl⟩, have b6 := (b4.setCell (p := ⟨w.heap.size + 1, 0, none⟩) (by show _ ≤ w.heap.size + 1; omega) _).setCell (p := ⟨w.heap.size + 1, 1, none⟩) (by show _ ≤ w.heap.size + 1; omega) _; b6.alloc b6.size _⟩
        · have hE0 := HOK.out (by have := HA.out; rw [List.take_of_length_le (by omega)] at this; exact this)
          subst hE0
          rw [List.take_of_length_le (by omega)] at hown
          have HCL := Lib.hid (chg_len cs l)
          have HOWN := Lib.hid hown
          clear hown
          go_wp2_with fail
          refine bodyPost_ret (v := .tuple #[.agg #[.int .i64 N, .slice a2 l.length c2], .int .i64 0]) (by simp [results, Try.results28, go_sem, q0, q1]) rfl ?_
          unfold ChgPost
          rw [if_pos rfl, if_pos rfl]
          refine ⟨a2, c2, by rw [HCL.out], ?_, ?_, (b4.setCell (by show _ ≤ w.heap.size + 1; omega) _).setCell (by show _ ≤ w.heap.size + 1; omega) _⟩
          · unfold OwnA
            rw [HCL.out]
            exact own_base (ownsRow_setCell_below (ownsRow_setCell_below HOWN.out (by show w.heap.size + 1 < _; omega) _) (by show w.heap.size + 1 < _; omega) _) (by omega)
          · intro h
            obtain ⟨e1, e2⟩ := HN2.out h
            refine ⟨List.eq_nil_of_length_eq_zero ?_, e2⟩
            rw [HCL.out, e1]; rfl
  · have hE2 : cgE N l cs = chkE N l := by unfold cgE; rw [if_neg hE]
    rw [hE2]
    unfold ChgPost
    rw [if_neg hE, if_neg hE]
    clear hE2
    obtain ⟨E, HE⟩ := named (chkE N l)
    rw [HE.out] at hE ⊢
    have hE' : (E == 0) = false := beq_eq_false_iff_ne.2 hE
    go_enter Try.func28, Try.ntmps28
    go_wp2_with fail
    refine (check_any N a l cap _ hl hr0).mono ?_
    rintro e w1 ⟨rfl, hb1⟩
    rw [HE.out, HT.out]
    have hh1 := (hb1.block _ (lt_of_block h1)).trans h1
    have b1 := bthen hb0 hb1 (by have := hb0.size; omega)
    obtain ⟨⟨r0, r1⟩, rf0, rf1⟩ := two_cells hh1
    clear hb1 hb0 hr0 hg h1 g0 g1 gf0 gf1 hW
    go_wp2_with fail
    refine bodyPost_ret (v := .tuple #[.agg #[.int .i64 0, .slice none 0 0], .int .i64 E]) (by simp [results, Try.results28, go_sem, r0, r1]) rfl ⟨none, 0, rfl, OwnA.nil _ _, fun _ => ⟨rfl, rfl⟩, ?_⟩
    exact (b1.setCell (by show _ ≤ w.heap.size + 1; omega) _).setCell (by show _ ≤ w.heap.size + 1; omega) _
end Go.Proofs.Ytkhgnefnmibomaa
