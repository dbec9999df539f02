/-
  Contract of (*Net).Bag.
-/
import Derived.Test.YtfhlfklgngpklaaNew
import Derived.Deep.DeepCutAuto
import Derived.Deep.CutBlock
import Derived.Deep.CutRange
namespace Go.Proofs.Ytfhlfklgngpklaa
open Go.RowKit Go.Maps
theorem own_below {w w' : World} {b : Nat} {e : TypeId} {s n : Nat} {v : Value} {xs : List Value} (h : w.ownsRow b e s v n xs) (hb : Below w.heap.size w w') : w'.ownsRow b e s v n xs := ownsRow_same h (fun g hg => hb.block g (h.lt g hg).2)
theorem own_le {w : World} {b b' : Nat} {e : TypeId} {s n : Nat} {v : Value} {xs : List Value} (h : w.ownsRow b e s v n xs) (hb : b' ≤ b) : w.ownsRow b' e s v n xs := by
  refine ⟨h.1, ?_⟩
  rcases h.2 with h2 | ⟨g, cap, cur, e0, h2, h3⟩
  · exact Or.inl h2
  · exact Or.inr ⟨g, cap, cur, e0, by omega, h3⟩
theorem own_form {w : World} {b : Nat} {e : TypeId} {s n : Nat} {v : Value} {xs : List Value} (h : w.ownsRow b e s v n xs) (hn : 0 < n) : ∃ g c, v = .slice (some ⟨g, 0, none⟩) n c := by
  rcases h.2 with ⟨_, h0⟩ | ⟨g, c, cur, rfl, _⟩
  · omega
  · exact ⟨g, c, rfl⟩
theorem own_slice {w : World} {b : Nat} {e : TypeId} {s n : Nat} {v : Value} {xs : List Value} (h : w.ownsRow b e s v n xs) : ∃ a c, v = .slice a n c := by
  rcases h.2 with ⟨rfl, rfl⟩ | ⟨g, c, cur, rfl, _⟩
  · exact ⟨none, 0, rfl⟩
  · exact ⟨_, c, rfl⟩
theorem strs_at (l : List ByteArray) (j : Nat) (hj : j < l.length) : (strs l)[j]? = some (.string (l.getD j ⟨#[]⟩)) := by
  unfold strs
  rw [List.getElem?_map, List.getElem?_eq_getElem hj]
  simp [List.getD, List.getElem?_eq_getElem hj]
/-- slices.Clone of a bag. -/
theorem clone_any {w : World} {v : Value} {l : List ByteArray} (h : w.ownsRow 0 9 1 v l.length (strs l)) (hl : l.length ≤ 4096) :
    Calls Try.prog 46 #[v] w fun e w' => ∃ a c, e = .returned (.slice a l.length c) ∧ w'.ownsRow w.heap.size 9 1 (.slice a l.length c) l.length (strs l) ∧ Below w.heap.size w w' := by
  rcases row_form h with ⟨rfl, rfl⟩ | ⟨g, c, rfl, h1, h2, h3, h4⟩
  · refine (Try.slices_Clone_string_nil 0 0 w).mono ?_
    rintro e w' ⟨rfl, rfl⟩
    exact ⟨none, 0, rfl, World.ownsRow_nil _ _ _ _, Below.refl _ _⟩
  · refine (Try.slices_Clone_string g 0 l.length c l w (Nat.le_refl _) (by omega) (fun j hj => by rw [Nat.zero_add]; exact h4 j hj)).mono ?_
    rintro e w' ⟨v', rfl, hr, _, hb⟩
    rw [List.take_length] at hr
    obtain ⟨a, c', rfl⟩ := own_slice hr
    exact ⟨a, c', rfl, hr, hb⟩
/-- What Bag answers. -/
def bgE (S : NS) (p : Pr) : Int := if lkB S.N p = true then 0 else 190
def bgL (S : NS) (p : Pr) : List ByteArray := if lkB S.N p = true then S.bg p else []
section
variable {w : World} {n : Nat} {P : Nat → Prop} {S : NS} {db mb : Nat} {tv : Value} {sv : Pr → Value} {D : DataW Unit} {k : Nat}
set_option maxRecDepth 100000 in
set_option maxHeartbeats 1600000 in
theorem Bag_any (h : NTx w n P S db mb tv sv D k) (p : Pr) :
    Calls Try.prog 21 #[.pointer (some ⟨n, 0, none⟩), .int .i64 p.a, .int .i64 p.b] w fun e w' => ∃ a c, e = .returned (.tuple #[.slice a (bgL S p).length c, .int .i64 (bgE S p)]) ∧
      w'.ownsRow w.heap.size 9 1 (.slice a (bgL S p).length c) (bgL S p).length (strs (bgL S p)) ∧ Below w.heap.size w w' := by
  have hb1 : Below w.heap.size w (w.alloc (.cells #[.int .i64 p.a, .int .i64 p.b] 64)) := (Below.refl _ _).alloc (Nat.le_refl _) _
  have h1 := h.on_ hb1
  have HK := Lib.hid (isLink_any (cells4 h1.hn).1.1 (lt_of_block h1.hn) p)
  have HB1 := Lib.hid hb1
  have HSZ : Hid (w.heap.size < (w.alloc (.cells #[.int .i64 p.a, .int .i64 p.b] 64)).heap.size) := Lib.hid (by simp)
  have H1 := Lib.hid h1
  have HY := Lib.hid (boxed w (.int .i64 p.a) (.int .i64 p.b))
  by_cases hI : In S.N p
  · have hl := lkB_in hI
    rw [hl] at HK
    unfold bgE bgL
    rw [if_pos hl, if_pos hl]
    have HI := Lib.hid hI
    have HSH := Lib.hid (h.short p hI)
    have HCW := Lib.hid (fun (W : World) (hW : NTx W n P S db mb tv sv D k) => clone_any (hW.row p hI) (h.short p hI).1)
    obtain ⟨l, HLL⟩ := named (S.bg p)
    rw [HLL.out] at HCW HSH ⊢
    obtain ⟨N, HNN⟩ := named l.length
    rw [HNN.out] at HCW HSH ⊢
    have HSI := Lib.hid HSH.out.2
    clear h1 h hb1 hl
    go_enter Try.func21, Try.ntmps21
    go_wp2_with fail
    refine HK.out.mono ?_
    rintro e w1 ⟨rfl, hb⟩
    have k1 := H1.out.on_ hb
    obtain ⟨c0, c1, c2, c3⟩ := (cells4 k1.hn).1
    have k2 := k1.keep (w' := w1.drew) (Nat.le_refl _) (fun _ _ _ => rfl)
    have q := k2.look HI.out
    have y0 := (hb.cell (p := ⟨w.heap.size, 0, none⟩) HSZ.out).trans HY.out.1
    have y1 := (hb.cell (p := ⟨w.heap.size, 1, none⟩) HSZ.out).trans HY.out.2
    have HB := Lib.hid (bthen HB1.out hb (by have := HSZ.out; omega)).drew
    have HC := Lib.hid (HCW.out _ k2)
    generalize sv p = vv at *
    have HN : Hid (N ≤ 4096) := Lib.hid HSH.out.1
    clear hb k1 k2 c0 c2 c3 H1 HK HI hI HCW
    go_upto_region 4 with fail
    go_cut [9] (fun s9 wc => ∃ (a : Option Addr) (c : Nat), s9 = .slice a N c ∧ Hid (wc.ownsRow w1.heap.size 9 1 (.slice a N c) N (strs l)) ∧ Hid (Below w1.heap.size w1.drew wc))
    case first =>
      go_region_law (rw [if_pos (by rfl)]; go_simp; go_at_call 46; refine HC.out.mono ?_; rintro e w3 ⟨a, c, rfl, ho3, hb3⟩; have HO := Lib.hid ho3; have HB3 := Lib.hid hb3; clear ho3 hb3)
      all_goals
        go_wp2_with fail
        go_meet
        case rel => exact ⟨a, c, rfl, HO, HB3⟩
    case rest =>
      rename World => W3
      obtain ⟨a, c, rfl, HO, HB3⟩ := hcut
      clear c1 q y0 y1
      have hN4 := HN.out
      go_wp2_with fail
      go_loopw [28] (fun i wr => ∃ j : Nat, j ≤ N ∧ i = .int .i64 j ∧ Hid (wr.ownsRow w1.heap.size 9 1 (.slice a N c) N (strs l)) ∧ Hid (Below w1.heap.size w1.drew wr)) (fun i _ => N - (intOf i).toNat)
      case atStart => exact ⟨0, Nat.zero_le _, rfl, HO, HB3⟩
      case round =>
        clear HO HB3
        obtain ⟨j, hj, rfl, HR, HB3⟩ := hrel
        by_cases hlt : j < N
        · obtain ⟨g, c', hv⟩ := own_form HR.out (show 0 < N by omega)
          injection hv with hv1 hv2 hv3
          subst hv1 hv3
          have hjN : j < l.length := by rw [HNN.out]; exact hlt
          have e0 := (HR.out.cellAt j (by omega)).trans (strs_at l j hjN)
          have e1 := HR.out.frozenAt j
          have hsz : (l.getD j ⟨#[]⟩).size ≤ 262144 := HSI.out _ (getD_mem hjN)
          have hgl : g < wr.heap.size := (HR.out.lt g rfl).2
          have hgB : w1.heap.size ≤ g := (HR.out.lt g rfl).1
          have HSET : Hid ((strs l).set j (.string (l.getD j ⟨#[]⟩)) = strs l) := by
            show _ = _
            apply List.ext_getElem?
            intro k
            rw [List.getElem?_set]
            split
            · rename_i e; subst e; rw [strs_len, if_pos hjN, strs_at l j hjN]
            · rfl
          generalize hs : l.getD j ⟨#[]⟩ = s at *
          clear hs
          go_wp2_with fail
          refine (sclone_any s (by omega) wr).mono ?_
          rintro e w3 ⟨rfl, hb3⟩
          have hr3 : w3.ownsRow w1.heap.size 9 1 (.slice (some ⟨g, 0, none⟩) N c) N (strs l) := own_below HR.out hb3
          have e2 := (hr3.cellAt j (by omega)).trans ((HR.out.cellAt j (by omega)).symm.trans e0)
          have e3 := hr3.frozenAt j
          have HST := Lib.hid (hr3.stored j (.string s))
          rw [HSET.out] at HST
          have HB4 := Lib.hid (bthen HB3.out hb3 HB3.out.size)
          go_wp2_with fail
          exact ⟨⟨j + 1, by omega, by go_num, HST.out.1, HB4.out.grown HST.out.2 (by have := HB4.out.size; exact this) (fun k hk => by injection hk with hk; omega)⟩, by simp [intOf]; omega⟩
        · go_wp2_with fail
          go_ret2
          exact ⟨a, c, rfl, own_le HR.out (by have := HB.out.size; exact this), HB.out.trans (HB3.out.mono (by have := HB.out.size; exact this))⟩
  · have hl := lkB_not hI
    rw [hl] at HK
    have e1 : bgE S p = 190 := by unfold bgE; rw [hl]; rfl
    have e2 : bgL S p = [] := by unfold bgL; rw [hl]; rfl
    rw [e1, e2]
    clear h1 h hb1 H1 hI hl e1 e2
    go_enter Try.func21, Try.ntmps21
    go_wp2_with fail
    refine HK.out.mono ?_
    rintro e w1 ⟨rfl, hb⟩
    have HB := Lib.hid (bthen HB1.out hb (by have := HSZ.out; omega))
    clear hb
    go_wp2_with fail
    go_ret2
    exact ⟨none, 0, rfl, World.ownsRow_nil _ _ _ _, HB.out⟩
end
end Go.Proofs.Ytfhlfklgngpklaa
