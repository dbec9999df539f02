/-
  The law GraphParts: labels of parts are tidy; ends of an arc are of one part; each part is one.
-/
import Derived.Test.YtkhgnefnmibomaaInduced
import Derived.Test.YtkhgnefnmibomaaConn
namespace Go.Proofs.Ytkhgnefnmibomaa
open Go.RowKit
theorem info4 : (Try.prog.info? 4).map (fun i => (i.zero, i.size, i.bytes)) = some (some (.bool false), 1, 1) := by kernel_rfl
/-- Truths as cells. -/
def cellsB (l : List Bool) : List Value := l.map Value.bool
theorem cellsB_len (l : List Bool) : (cellsB l).length = l.length := by unfold cellsB; simp
theorem cellsB_getD (xs : List Bool) (k : Nat) (h : k < xs.length) : (cellsB xs)[k]? = some (.bool (xs.getD k false)) := by
  unfold cellsB
  simp [List.getD, List.getElem?_eq_getElem h]
theorem cellsB_set (xs : List Bool) (k : Nat) (x : Bool) : (cellsB xs).set k (.bool x) = cellsB (xs.set k x) := by
  unfold cellsB
  rw [List.map_set]
theorem getDB_set (L : List Bool) (k j : Nat) (x : Bool) (hk : k < L.length) : (L.set k x).getD j false = if j = k then x else L.getD j false := by
  by_cases h : j = k
  · subst h; simp [List.getD, hk]
  · rw [if_neg h]; simp [List.getD, Ne.symm h]
/-- Truths in a row of our own. -/
def OwnB (w : World) (g n : Nat) (L : List Bool) : Prop := w.ownsRow g 4 1 (.slice (some ⟨g, 0, none⟩) n n) n (cellsB L)
theorem OwnB.cell {w : World} {g n : Nat} {L : List Bool} (h : OwnB w g n L) (hl : L.length = n) (k : Nat) (hk : k < n) : w.cell? ⟨g, k, none⟩ = some (.bool (L.getD k false)) := by
  rw [World.ownsRow.cellAt h k (by omega), cellsB_getD _ k (by omega)]
theorem OwnB.set {w : World} {g n : Nat} {L : List Bool} (h : OwnB w g n L) (k : Nat) (x : Bool) : OwnB (w.setCell ⟨g, k, none⟩ (.bool x)) g n (L.set k x) := by
  have := (World.ownsRow.stored h k (.bool x)).1
  rw [cellsB_set] at this
  exact this
theorem OwnB.free {w : World} {g n : Nat} {L : List Bool} (h : OwnB w g n L) (k : Nat) : w.frozen? ⟨g, k, none⟩ = false := World.ownsRow.frozenAt h k
theorem OwnB.lt {w : World} {g n : Nat} {L : List Bool} (h : OwnB w g n L) : g < w.heap.size := (World.ownsRow.lt h g rfl).2
theorem OwnB.bools {w : World} {g n : Nat} {L : List Bool} (h : OwnB w g n L) (hl : L.length = n) : Bools (· < w.heap.size) w (some ⟨g, 0, none⟩) L :=
  Or.inr ⟨g, 0, rfl, h.lt, fun j hj => by rw [Nat.zero_add]; exact h.cell hl j (by omega)⟩
theorem ownB_new {w : World} {base n : Nat} (h : w.ownsRow base 4 1 (.slice (some ⟨base, 0, none⟩) n n) n (madeCells (Value.bool false).cells (n * 1)).toList) : OwnB w base n (List.replicate n false) := by
  have e : (madeCells (Value.bool false).cells (n * 1)).toList = cellsB (List.replicate n false) := by
    show (madeCells #[Value.bool false] (n * 1)).toList = _
    rw [toList_madeCells_one, Nat.mul_one]
    unfold cellsB
    simp
  rw [e] at h
  exact h
theorem mem_getD {l : List A} {j : Nat} (h : j < l.length) : l.getD j A.zero ∈ l := by
  rw [show l.getD j A.zero = l[j] by simp [List.getD, List.getElem?_eq_getElem h]]; exact List.getElem_mem h
theorem labsI_getD (R : Nat → Nat) (n k : Nat) (h : k < n) : (ints (labs R n)).getD k 0 = ((lab R k : Nat) : Int) := by rw [ints_getD, labs_getD R n k h]
set_option maxHeartbeats 3200000 in
set_option maxRecDepth 100000 in
theorem law_parts (N : Int) (a : Option Addr) (l : List A) (cap : Nat) (w : World) (hlen : l.length * 24 ≤ 140737488351232) (_hn : a = none → l = [] ∧ cap = 0) (hr : Arcs w a l) :
    Calls Try.prog 8 #[.agg #[.int .i64 N, .slice a l.length cap]] w fun e w' => e = .returned (.bool true) ∧ Below w.heap.size w w' := by
  have hl : l.length ≤ 9223372036854775807 := by omega
  have hb0 : Below w.heap.size w (w.alloc (.cells #[.int .i64 N, .slice a l.length cap] 24)) := (Below.refl _ _).alloc (Nat.le_refl _) _
  by_cases hE : chkE N l = 0
  · obtain ⟨hN1, hN2, hlen2, hall⟩ := chk_zero hE
    obtain ⟨n, rfl⟩ : ∃ n : Nat, N = n := ⟨N.toNat, by omega⟩
    obtain ⟨i4, hi4, hz0, hz1, hz2⟩ := info_parts info4
    have hn1 : 1 ≤ n := by omega
    have hn2 : n ≤ 1024 := by omega
    have HALL := Lib.hid hall
    have HE := Lib.hid hE
    have hP : partsL n l = ints (labs (lead l) n) := by unfold partsL; rw [if_pos hE, Int.toNat_natCast]
    have HRT := Lib.hid (lead_RT l)
    have HARC := Lib.hid (fun j (h : j < l.length) => lab_arc (mem_getD h))
    have HPL : Hid ((ints (labs (lead l) n)).length = n) := (by rw [ints_len, labs_len] : (ints (labs (lead l) n)).length = n)
    have HGET := Lib.hid (fun k (h : k < n) => labsI_getD (lead l) n k h)
    have HP := Lib.hid (fun W' (h : Arcs W' a l) => parts_any n a l cap W' hl h)
    rw [hP, hE] at HP
    clear hall hE hN1 hN2 hP
    obtain ⟨R, HR⟩ := named (lead l)
    rw [HR.out] at HRT HARC HPL HGET HP
    generalize ints (labs R n) = L at *
    go_enter Try.func8, Try.ntmps8
    go_wp2_with fail
    refine (works_any _).mono ?_
    rintro e w1 ⟨rfl, hb1⟩
    have hg1 := (hb1.block _ (by simp)).trans (heap_top w _)
    have b1 := bthen hb0 hb1 (by simp)
    have s1 := lt_of_block hg1
    have hr1 := hr.on b1
    clear hb1 hb0
    obtain ⟨⟨g0, g1⟩, gf0, gf1⟩ := two_cells hg1
    go_wp2_with fail
    refine (HP.out _ hr1).mono ?_
    rintro e w2 ⟨a2, c2, rfl, hown2, hb2⟩
    have hi2 := ints_own hown2
    have hg2 := (hb2.block _ s1).trans hg1
    have b2 := bthen b1 hb2 (by omega)
    have s2 := lt_of_block hg2
    have hr2 := hr.on b2
    rw [HPL.out]
    clear hb2 hg1 g0 g1 gf0 gf1 hr1 b1 hown2
    obtain ⟨⟨g0, g1⟩, gf0, gf1⟩ := two_cells hg2
    obtain ⟨p, o, hpo⟩ := hi2.get
    rw [HPL.out] at hpo
    obtain ⟨rfl, hpl, hpc⟩ := hpo (by omega)
    have HPC : Hid (∀ k, k < n → w2.cell? ⟨p, o + k, none⟩ = some (.int .i64 ((lab R k : Nat) : Int))) := fun k hk => by rw [← HGET.out k hk]; exact hpc k hk
    clear hpc hi2
    obtain ⟨b, oa, hab⟩ := hr2.b.get
    go_wp2_with fail
    go_loop [5, 36] (fun x i => ∃ k : Nat, k ≤ n ∧ i = .int .i64 (k : Int) ∧ x = .int .i64 ((cnt R k : Nat) : Int)) (fun _ i => n - (intOf i).toNat)
    case atStart => exact ⟨0, Nat.zero_le _, rfl, rfl⟩
    case round =>
      obtain ⟨k, hk, rfl, rfl⟩ := hrel
      have hck := cnt_le R k
      by_cases hkn : k < n
      · have ck := HPC.out k hkn
        rcases lab_step HRT.out k with ⟨e1, e2⟩ | ⟨e1, e2⟩
        · rw [e1] at ck
          have HE2 : Hid (cnt R (k + 1) = cnt R k + 1) := e2
          clear e1 e2
          generalize cnt R k = c at *
          go_wp2_with fail
          exact ⟨⟨k + 1, by omega, by go_num, by rw [HE2.out]; go_num⟩, by simp [intOf]; omega⟩
        · have HE2 : Hid (cnt R (k + 1) = cnt R k) := e2
          have e3 : (((lab R k : Nat) : Int) == ((cnt R k : Nat) : Int)) = false := beq_eq_false_iff_ne.2 (by omega)
          clear e2
          generalize cnt R k = c at *
          generalize lab R k = z at *
          go_wp2_with fail
          exact ⟨⟨k + 1, by omega, by go_num, by rw [HE2.out]⟩, by simp [intOf]; omega⟩
      · rw [show k = n by omega]
        have hcn := cnt_le R n
        have HFIND := Lib.hid (fun t (h : t < cnt R n) => cnt_find (R := R) h)
        generalize cnt R n = C at *
        go_wp2_with fail
        go_loopw [56] (fun i wr => ∃ j : Nat, j ≤ l.length ∧ i = .int .i64 (j : Int) ∧ Below w2.heap.size w2 wr) (fun i _ => l.length - (intOf i).toNat)
        case atStart => exact ⟨0, Nat.zero_le _, rfl, Below.refl _ _⟩
        case round =>
          obtain ⟨j, hj, rfl, hb3⟩ := hrel
          have hg3 := (hb3.block _ s2).trans hg2
          clear g0 g1 gf0 gf1
          obtain ⟨⟨g0, g1⟩, gf0, gf1⟩ := two_cells hg3
          have s3 := hb3.size
          by_cases hjl : j < l.length
          · obtain ⟨rfl, hbl, hat⟩ := hab (by omega)
            obtain ⟨c0, c1, c2'⟩ := (hat j hjl).onB hbl hb3
            have hx := HALL.out _ (mem_getD hjl)
            have hla := HARC.out j hjl
            generalize l.getD j A.zero = x at *
            obtain ⟨xf, xt, xw⟩ := x
            obtain ⟨f, hf⟩ : ∃ f : Nat, xf = f := ⟨xf.toNat, by have := hx.1.1; simp at this; omega⟩
            obtain ⟨t, ht⟩ : ∃ t : Nat, xt = t := ⟨xt.toNat, by have := hx.2.1; simp at this; omega⟩
            subst hf ht
            have hfn : f < n := by have := hx.1.2; simp at this; omega
            have htn : t < n := by have := hx.2.2; simp at this; omega
            simp only [Int.toNat_natCast] at hla
            have d0 := (hb3.cell (p := ⟨p, o + f, none⟩) hpl).trans (HPC.out f hfn)
            have d1 := (hb3.cell (p := ⟨p, o + t, none⟩) hpl).trans (HPC.out t htn)
            rw [hla] at d0
            clear hx hla
            generalize lab R t = z at *
            go_wp2_with fail
            have m0 := (((Below.refl wr.heap.size wr).alloc (Nat.le_refl _) (.cells #[.int .i64 f, .int .i64 t, .int .u32 xw] 53)).cell (p := ⟨p, o + f, none⟩) (by show p < wr.heap.size; omega)).trans d0
            have m1 := (((Below.refl wr.heap.size wr).alloc (Nat.le_refl _) (.cells #[.int .i64 f, .int .i64 t, .int .u32 xw] 53)).cell (p := ⟨p, o + t, none⟩) (by show p < wr.heap.size; omega)).trans d1
            obtain ⟨z0, z1, z2⟩ := three_cells (heap_top wr (.cells #[.int .i64 f, .int .i64 t, .int .u32 xw] 53))
            have b5 := hb3.alloc s3 (.cells #[.int .i64 f, .int .i64 t, .int .u32 xw] 53)
            generalize hW5 : wr.alloc (.cells #[.int .i64 f, .int .i64 t, .int .u32 xw] 53) = W5 at *
            clear hW5 c0 c1 c2' d0 d1 g0 g1 gf0 gf1 hg3
            go_quiet (fail)
            go_wp2_with fail
            exact ⟨⟨j + 1, by omega, by go_num, b5.trans (below_drewN _ _ _)⟩, by simp [intOf]; omega⟩
          · by_cases hbig : 60 < n
            · have hbig' : (60 : Int) < (n : Int) := by omega
              go_wp2_with fail
              go_ret
              exact ⟨rfl, bthen b2 hb3 (by omega)⟩
            · have hbig' : ¬ (60 : Int) < (n : Int) := by omega
              go_wp2_with fail
              go_loopw [10] (fun i wr => ∃ t : Nat, t ≤ C ∧ i = .int .i64 (t : Int) ∧ Below w2.heap.size w2 wr) (fun i _ => C - (intOf i).toNat)
              case atStart => exact ⟨0, Nat.zero_le _, rfl, hb3⟩
              case round =>
                obtain ⟨t, ht, rfl, hb4⟩ := hrel
                obtain ⟨w4, hw4⟩ : ∃ x, x = wr := ⟨wr, rfl⟩
                subst hw4
                have hg4 := (hb4.block _ s2).trans hg2
                clear g0 g1 gf0 gf1 hb3 hg3 s3
                obtain ⟨⟨g0, g1⟩, gf0, gf1⟩ := two_cells hg4
                have s4 := hb4.size
                by_cases htC : t < C
                · obtain ⟨v0, hv0, hR0, hc0⟩ := HFIND.out t htC
                  go_wp2_with (at_make; refine wpList_make_full _ rfl (.tmp 86) (.tmp 86) 46 rfl w4.heap.size 4 i4 (.bool false) 1 Try.underlying46 hi4 hz0 hz1 .i64 .i64 n n n rfl rfl rfl rfl (by rw [hz2]; omega) (by unfold maxLen; omega) (Nat.le_refl _) ?_; intro w5 hown5 hgrow5)
                  have hown0 := ownB_new hown5
                  have hb5 : Below w4.heap.size w4 w5 := (Below.refl _ _).grown hgrow5 (Nat.le_refl _) (by intro k hk; cases hk)
                  clear hown5 hgrow5
                  go_loopw [90] (fun i wr => ∃ (k : Nat) (X : List Bool), k ≤ n ∧ i = .int .i64 (k : Int) ∧ Hid (X.length = n) ∧ Hid (∀ j, j < k → X.getD j false = decide (lab R j = t)) ∧ OwnB wr w4.heap.size n X ∧ Below w4.heap.size w4 wr) (fun i _ => n - (intOf i).toNat)
                  case atStart => exact ⟨0, List.replicate n false, Nat.zero_le _, rfl, by show _ = _; simp, by intro j hj; omega, hown0, hb5⟩
                  case round =>
                    obtain ⟨k, X, hk, rfl, HX, HJ, hown, hbel⟩ := hrel
                    have b6 := bthen hb4 hbel s4
                    by_cases hkn : k < n
                    · have cp := (b6.cell (p := ⟨p, o + k, none⟩) hpl).trans (HPC.out k hkn)
                      have cx := hown.cell HX.out k hkn
                      have fx := hown.free k
                      have hXl : k < X.length := by rw [HX.out]; exact hkn
                      have HN : Hid (∀ b, b = decide (lab R k = t) → ∀ j, j < k + 1 → (X.set k b).getD j false = decide (lab R j = t)) := by
                        show ∀ b, _
                        intro b hb j hj
                        rw [getDB_set _ _ _ _ hXl]
                        split
                        · rename_i e; rw [e, hb]
                        · exact HJ.out j (by omega)
                      generalize X.getD k false = x0 at *
                      by_cases hz : lab R k = t
                      · have hz' : (((lab R k : Nat) : Int) == (t : Int)) = true := by rw [hz]; simp
                        have HN' := Lib.hid (HN.out true (by simp [hz]))
                        have hst := hown.set k true
                        rw [hz] at cp
                        clear hz hz' HN
                        go_wp2_with fail
                        exact ⟨⟨k + 1, _, by omega, by go_num, by show _ = _; rw [List.length_set]; exact HX.out, HN', hst, hbel.setCell (Nat.le_refl _) _⟩, by simp [intOf]; omega⟩
                      · have hz' : (((lab R k : Nat) : Int) == (t : Int)) = false := beq_eq_false_iff_ne.2 (by omega)
                        have HN' := Lib.hid (HN.out false (by simp [hz]))
                        have hst := hown.set k false
                        clear HN
                        generalize lab R k = z at *
                        go_wp2_with fail
                        exact ⟨⟨k + 1, _, by omega, by go_num, by show _ = _; rw [List.length_set]; exact HX.out, HN', hst, hbel.setCell (Nat.le_refl _) _⟩, by simp [intOf]; omega⟩
                    · have hq : ∀ v, v < n → mk X v = inPart l t v := fun v hv => by
                        unfold mk inPart
                        rw [HJ.out v (by omega), HR.out]
                      have hH : hits (mk X) n ≠ [] := hits_some hv0 (by rw [hq v0 hv0]; unfold inPart lab; rw [HR.out, hR0, hc0]; simp)
                      have hC2 := chk_ind HE.out hH
                      have hone := part_one n l t (mk X) hq HALL.out
                      have hg6 := (hbel.block _ (lt_of_block hg4)).trans hg4
                      have hr6 := hr2.on b6
                      have hIND := induced_ok n a l cap (some ⟨w4.heap.size, 0, none⟩) X n wr HE.out HX.out hH hr6 (hown.bools HX.out)
                      have hZl : (indA (mk X) l).length ≤ 8192 := by
                        have : (indI (mk X) l).length ≤ l.length := hits_len _ _
                        rw [indA_len]; omega
                      have HPZ := Lib.hid (fun ah ch W' (h : Arcs W' ah (indA (mk X) l)) => parts_any ((hits (mk X) n).length : Nat) ah (indA (mk X) l) ch W' (by omega) h)
                      have hPZ : partsL ((hits (mk X) n).length : Nat) (indA (mk X) l) = ints (labs (lead (indA (mk X) l)) (hits (mk X) n).length) := by unfold partsL; rw [if_pos hC2, Int.toNat_natCast]
                      have HZ0 : Hid (∀ j, j < (hits (mk X) n).length → (ints (labs (lead (indA (mk X) l)) (hits (mk X) n).length)).getD j 0 = 0) := by
                        show ∀ j, _
                        intro j hj
                        rw [labsI_getD _ _ _ hj]
                        unfold lab
                        rw [hone j hj]
                        rfl
                      have HZL : Hid ((ints (labs (lead (indA (mk X) l)) (hits (mk X) n).length)).length = (hits (mk X) n).length) := (by rw [ints_len, labs_len] : (ints (labs (lead (indA (mk X) l)) (hits (mk X) n).length)).length = (hits (mk X) n).length)
                      have hml : (hits (mk X) n).length ≤ n := hits_len _ _
                      rw [hPZ, hC2] at HPZ
                      have HIND := Lib.hid hIND
                      have s6 := hbel.size
                      clear hIND hPZ hC2 hone hq hH g0 g1 gf0 gf1
                      generalize ints (labs (lead (indA (mk X) l)) (hits (mk X) n).length) = L2 at *
                      generalize hits (mk X) n = vs at *
                      generalize indA (mk X) l = Z at *
                      generalize indI (mk X) l = is at *
                      obtain ⟨⟨g0, g1⟩, gf0, gf1⟩ := two_cells hg6
                      go_wp2_with fail
                      refine HIND.out.mono ?_
                      rintro e w7 ⟨ah, ch, av, cv, ai, ci, rfl, hown7, _, _, _, hb7⟩
                      have hr7 := hown7.arcs
                      have b7 := bthen b6 hb7 (by have := b6.size; omega)
                      have hr8 := hr7.on ((Below.refl w7.heap.size w7).alloc (Nat.le_refl _) (.cells #[.int .i64 (vs.length : Int), .slice ah Z.length ch] 24))
                      have b8 := b7.alloc b7.size (.cells #[.int .i64 (vs.length : Int), .slice ah Z.length ch] 24)
                      clear hown7 hb7 hr7 g0 g1 gf0 gf1
                      go_wp2_with fail
                      refine (HPZ.out ah ch _ hr8).mono ?_
                      rintro e w9 ⟨a9, c9, rfl, hown9, hb9⟩
                      have hi9 := ints_own hown9
                      have b9 := bthen b8 hb9 b8.size
                      rw [HZL.out]
                      obtain ⟨p9, o9, h9⟩ := hi9.get
                      rw [HZL.out] at h9
                      clear hown9 hb9 hi9
                      go_wp2_with fail
                      go_loop [123] (fun i => ∃ j : Nat, j ≤ vs.length ∧ i = .int .i64 (j : Int)) (fun i => vs.length - (intOf i).toNat)
                      case atStart => exact ⟨0, Nat.zero_le _, rfl⟩
                      case round =>
                        obtain ⟨j, hj, rfl⟩ := hrel
                        by_cases hjl : j < vs.length
                        · obtain ⟨rfl, _, d9⟩ := h9 (by omega)
                          have dj := d9 j hjl
                          rw [HZ0.out j hjl] at dj
                          clear d9
                          go_wp2_with fail
                          exact ⟨⟨j + 1, by omega, by go_num⟩, by simp [intOf]; omega⟩
                        · go_wp2_with fail
                          exact ⟨⟨t + 1, by omega, by go_num, b9⟩, by simp [intOf]; omega⟩
                · go_wp2_with fail
                  go_ret
                  exact ⟨rfl, bthen b2 hb4 (by omega)⟩
  · obtain ⟨E, HE⟩ := named (chkE N l)
    have hP : partsL N l = [] := by unfold partsL; rw [if_neg hE]
    have HP := Lib.hid (fun W' (h : Arcs W' a l) => parts_any N a l cap W' hl h)
    rw [hP, HE.out] at HP
    rw [HE.out] at hE
    have hE' : (E == 0) = false := beq_eq_false_iff_ne.2 hE
    go_enter Try.func8, Try.ntmps8
    go_wp2_with fail
    refine (works_any _).mono ?_
    rintro e w1 ⟨rfl, hb1⟩
    have hg1 := (hb1.block _ (by simp)).trans (heap_top w _)
    have b1 := bthen hb0 hb1 (by simp)
    have s1 := lt_of_block hg1
    have hr1 := hr.on b1
    clear hb1 hb0
    obtain ⟨⟨g0, g1⟩, gf0, gf1⟩ := two_cells hg1
    go_wp2_with fail
    refine (HP.out _ hr1).mono ?_
    rintro e w2 ⟨a2, c2, rfl, hown2, hb2⟩
    have b2 := bthen b1 hb2 (by omega)
    clear hown2
    go_wp2_with fail
    go_ret
    exact ⟨rfl, b2⟩
end Go.Proofs.Ytkhgnefnmibomaa
