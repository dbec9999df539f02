/-
  Contracts of near.chained and near.begin.
-/
import Derived.Test.YtgkpmcpkobphpaaNSrch
import Derived.BigRegion
import Derived.Deep.DeepCutAuto
namespace Go.Proofs.Ytgkpmcpkobphpaa.N5
open Go.RowKit
open Hp (HR HRto Fr upd upd_self upd_ne TopIs)
theorem heap_top_at (w : World) (o : Obj) (k : Nat) (h : w.heap.size = k) : (w.alloc o).heap[k]? = some o := by rw [← h]; exact heap_top w o
theorem below_base {W v w : World} (h : Below v.heap.size v w) (hb : Below W.heap.size W v) : Below W.heap.size W w := hb.trans (h.mono hb.size)
theorem cell_set2 {w : World} {p1 p2 q : Addr} {u1 u2 v : Value} (h : w.cell? q = some v) (h1 : q.block ≠ p1.block) (h2 : q.block ≠ p2.block) : ((w.setCell p1 u1).setCell p2 u2).cell? q = some v :=
  (World.cell?_of_block (a := q) ((Below.heap_setCell _ p2 u2 q.block h2).trans (Below.heap_setCell w p1 u1 q.block h1))).trans h
theorem cell_al {w : World} {q : Addr} {v : Value} {o : Obj} {k : Nat} (h : w.cell? q = some v) (_ : q.block ≠ k) : (w.alloc o).cell? q = some v :=
  (World.cell?_of_block (a := q) (Below.heap_alloc w o q.block (World.block_lt_of_cell? w _ h))).trans h
theorem Tb.alloc {w : World} {b n : Nat} {ty : TypeId} {K : IntKind} {F : Nat → Int} (h : Tb w b n ty K F) (o : Obj) : Tb (w.alloc o) b n ty K F := h.same (Below.heap_alloc w o b h.lt)
theorem set2_other {w : World} {c b : Nat} {u1 u2 : Value} (h : b ≠ c) : ((w.setCell ⟨c, 0, none⟩ u1).setCell ⟨c, 1, none⟩ u2).heap[b]? = w.heap[b]? :=
  (Below.heap_setCell _ _ _ b h).trans (Below.heap_setCell w _ _ b h)
theorem set2_same {w : World} {c : Nat} {a b u1 u2 : Value} {t : TypeId} (h : w.heap[c]? = some (.cells #[a, b] t)) : ((w.setCell ⟨c, 0, none⟩ u1).setCell ⟨c, 1, none⟩ u2).heap[c]? = some (.cells #[u1, u2] t) := by
  rw [heap_setCell_same _ c 1 _ _ _ (heap_setCell_same w c 0 _ _ _ h)]
  simp
theorem tb1 {W w1 : World} {o : Obj} (h : Below (W.alloc o).drew.heap.size (W.alloc o).drew w1) : w1.heap[W.heap.size]? = some o :=
  (h.block W.heap.size (by show _ < (W.alloc o).heap.size; simp)).trans (heap_top W o)
theorem tb2 {W w1 : World} {o p : Obj} (h : Below ((W.alloc o).alloc p).drew.heap.size ((W.alloc o).alloc p).drew w1) : w1.heap[W.heap.size]? = some o :=
  (h.block W.heap.size (by show _ < ((W.alloc o).alloc p).heap.size; simp; omega)).trans ((Below.heap_alloc (W.alloc o) p _ (by simp)).trans (heap_top W o))
theorem tb3 {W w1 : World} {o p : Obj} (h : Below ((W.alloc p).alloc o).drew.heap.size ((W.alloc p).alloc o).drew w1) : w1.heap[W.heap.size + 1]? = some o :=
  (h.block (W.heap.size + 1) (by show _ < ((W.alloc p).alloc o).heap.size; simp)).trans (heap_top_at (W.alloc p) o _ (by simp))
set_option maxHeartbeats 1600000 in
set_option maxRecDepth 100000 in
theorem chained_any (n : Nat) (a : Option Addr) (l : List A) (cap : Nat) (w : World) (g : RG n l) (hr : Arcs w a l) :
    Calls Try.prog 60 #[.agg #[.int .i64 n, .slice a l.length cap]] w fun e w' => ∃ b1 b2, e = .returned (.agg #[.slice (some ⟨b1, 0, none⟩) n n, .slice (some ⟨b2, 0, none⟩) l.length l.length]) ∧ b1 ≠ b2 ∧ w.heap.size ≤ b1 ∧ w.heap.size ≤ b2 ∧
      Tb w' b1 n 3 .i64 (fun v => lastAt l v l.length) ∧ Tb w' b2 l.length 3 .i64 (fun j => lastAt l (src (ar l j)) j) ∧ Below w.heap.size w w' := by
  obtain ⟨i0, hi, hz0, hz1, hz2⟩ := info_parts info3
  have hnb := g.nb
  have hlb := g.lb
  have HM := Lib.hid (made_int l.length)
  have hb0 : Below w.heap.size w ((w.alloc (.cells #[.int .i64 n, .slice a l.length cap] 24)).alloc (.cells #[.slice none 0 0, .slice none 0 0] 93)) := ((Below.refl _ _).alloc (Nat.le_refl _) _).alloc (by simp) _
  have hg : ((w.alloc (.cells #[.int .i64 n, .slice a l.length cap] 24)).alloc (.cells #[.slice none 0 0, .slice none 0 0] 93)).heap[w.heap.size]? = some (.cells #[.int .i64 n, .slice a l.length cap] 24) := (Below.heap_alloc _ _ _ (by simp)).trans (heap_top w _)
  have h1 := heap_top (w.alloc (.cells #[.int .i64 n, .slice a l.length cap] 24)) (.cells #[.slice none 0 0, .slice none 0 0] 93)
  rw [show (w.alloc (.cells #[.int .i64 n, .slice a l.length cap] 24)).heap.size = w.heap.size + 1 by simp] at h1
  have hmS : ∀ w, (Instr.makeSlice 28 (.int .i64 l.length) (.int .i64 l.length)).run Try.prog w = .ok (.slice (some ⟨w.heap.size, 0, none⟩) l.length l.length) (w.alloc (.cells ((List.range l.length).map (fun _ => Value.int .i64 0)).toArray 3)) := fun w => by
    have := run_make (P := Try.prog) w 28 3 i0 (.int .i64 0) Try.underlying28 hi hz0 .i64 .i64 l.length l.length (by omega) (by omega) (by rw [hz2]; omega) (by omega)
    rw [hz1] at this
    rw [this, Int.toNat_natCast, ← HM.out, Array.toArray_toList]
  go_enter Try.func60, Try.ntmps60
  go_wp2_with fail
  generalize hW : (w.alloc (.cells #[.int .i64 n, .slice a l.length cap] 24)).alloc (.cells #[.slice none 0 0, .slice none 0 0] 93) = W at *
  obtain ⟨⟨g0, g1⟩, gf0, gf1⟩ := two_cells hg
  have HSZ := Lib.hid (lt_of_block hg)
  have HNB : Hid (n ≤ 8192) := by show _ ≤ _; omega
  go_cut [3] (fun s3 wc => ∃ b1 b2 c, s3 = .pointer (some ⟨c, 0, none⟩) ∧ wc.heap[c]? = some (.cells #[.slice (some ⟨b1, 0, none⟩) n n, .slice (some ⟨b2, 0, none⟩) l.length l.length] 93) ∧ Tb wc b1 n 3 .i64 (fun _ => -1) ∧ Tb wc b2 l.length 3 .i64 (fun _ => 0) ∧ W.heap.size ≤ b1 ∧ W.heap.size ≤ b2 ∧ W.heap.size ≤ c ∧ b1 ≠ b2 ∧ b1 ≠ c ∧ b2 ≠ c ∧ Below W.heap.size W wc)
  case first =>
    have G0 := Lib.hid g0
    have G1 := Lib.hid g1
    have hn1 : w.heap.size ≠ W.heap.size := Nat.ne_of_lt HSZ.out
    have hn2 : w.heap.size ≠ W.heap.size + 1 := Nat.ne_of_lt (Nat.lt_succ_of_lt HSZ.out)
    have hn3 := hn1.symm
    have hn4 := hn2.symm
    clear hW hb0 hg h1 hr g hi hz0 hz1 hz2 HM gf0 gf1 hnb hlb
    clear i0
    go_region_held3 (fun w' => w'.cell? ⟨w.heap.size, 0, none⟩ = some (.int .i64 n) ∧ w'.cell? ⟨w.heap.size, 1, none⟩ = some (.slice a l.length cap)) (go_keep) (((go_at_call 70; refine (filledI_any n HNB.out (-1) _).mono ?_; rintro e w1 ⟨b1, rfl, ht1, hb1, hbe⟩; have BE : Below W.heap.size W w1 := below_base hbe (by first | exact (Below.refl _ _).drew | exact ((Below.refl _ _).drew).alloc (Nat.le_refl _) _ | exact ((((Below.refl _ _).drew).alloc (Nat.le_refl _) _).alloc (by rw [World.size_alloc]; exact Nat.le_succ _) _)); have s1 : w.heap.size ≠ w1.heap.size := Nat.ne_of_lt (Nat.lt_of_lt_of_le HSZ.out BE.size); have s2 : w.heap.size ≠ w1.heap.size + 1 := Nat.ne_of_lt (Nat.lt_succ_of_lt (Nat.lt_of_lt_of_le HSZ.out BE.size)); have s3 := s1.symm; have s4 := s2.symm; have y0 := (BE.cell (p := ⟨w.heap.size, 0, none⟩) HSZ.out).trans G0.out; have y1 := (BE.cell (p := ⟨w.heap.size, 1, none⟩) HSZ.out).trans G1.out); first | (have zz : w1.heap[W.heap.size]? = some (.cells #[.slice none 0 0, .slice none 0 0] 93) := tb2 hbe; have mm : w1.heap[W.heap.size + 1]? = some (.cells ((List.range l.length).map (fun _ => Value.int .i64 0)).toArray 3) := tb3 hbe; obtain ⟨⟨z0, z1⟩, zf0, zf1⟩ := two_cells zz; have zlt := lt_of_block zz; have zne := Nat.ne_of_lt zlt) | (have zz : w1.heap[W.heap.size + 1]? = some (.cells #[.slice none 0 0, .slice none 0 0] 93) := tb3 hbe; have mm : w1.heap[W.heap.size]? = some (.cells ((List.range l.length).map (fun _ => Value.int .i64 0)).toArray 3) := tb2 hbe; obtain ⟨⟨z0, z1⟩, zf0, zf1⟩ := two_cells zz; have zlt := lt_of_block zz; have zne := Nat.ne_of_lt zlt) | (have zz : w1.heap[W.heap.size]? = some (.cells #[.slice none 0 0, .slice none 0 0] 93) := tb1 hbe; obtain ⟨⟨z0, z1⟩, zf0, zf1⟩ := two_cells zz; have zlt := lt_of_block zz; have zne := Nat.ne_of_lt zlt) | (have mm : w1.heap[W.heap.size]? = some (.cells ((List.range l.length).map (fun _ => Value.int .i64 0)).toArray 3) := tb1 hbe) | skip))
    · go_wp2_with fail
      go_meet
      case rel =>
        have q1 : W.heap.size ≤ b1 := hb1
        have q2 := ht1.lt
        have q3 := BE.size
        exact ⟨b1, w1.heap.size, w1.heap.size + 1, rfl, heap_top_at _ _ _ (by simp), (ht1.alloc _).alloc _, (Below.heap_alloc _ _ _ (by simp)).trans (heap_top w1 _), by omega, by omega, by omega, by omega, by omega, by omega, (BE.alloc q3 _).alloc (by simp; omega) _⟩
    · go_wp2_with fail
      go_meet
      case rel =>
        have q1 : W.heap.size ≤ b1 := hb1
        have q2 := ht1.lt
        have q3 := BE.size
        exact ⟨b1, w1.heap.size + 1, w1.heap.size, rfl, (Below.heap_alloc _ _ _ (by simp)).trans (heap_top w1 _), (ht1.alloc _).alloc _, heap_top_at _ _ _ (by simp), by omega, by omega, by omega, by omega, by omega, by omega, (BE.alloc q3 _).alloc (by simp; omega) _⟩
    · go_wp2_with fail
      go_meet
      case rel =>
        have q1 : W.heap.size + 1 ≤ b1 := by have := hb1; rw [show (W.alloc (.cells ((List.range l.length).map (fun _ => Value.int .i64 0)).toArray 3)).drew.heap.size = W.heap.size + 1 by show (W.alloc _).heap.size = _; simp] at this; exact this
        have q2 := ht1.lt
        have q3 := BE.size
        have q4 := lt_of_block mm
        exact ⟨b1, W.heap.size, w1.heap.size, rfl, heap_top w1 _, ht1.alloc _, (Below.heap_alloc _ _ _ q4).trans mm, by omega, by omega, by omega, by omega, by omega, by omega, BE.alloc q3 _⟩
    · go_wp2_with fail
      go_meet
      case rel =>
        have q1 : W.heap.size + 2 ≤ b1 := by have := hb1; rw [show ((W.alloc (.cells ((List.range l.length).map (fun _ => Value.int .i64 0)).toArray 3)).alloc (.cells #[.slice none 0 0, .slice none 0 0] 93)).drew.heap.size = W.heap.size + 2 by show ((W.alloc _).alloc _).heap.size = _; simp] at this; exact this
        have q2 := ht1.lt
        have q3 := BE.size
        exact ⟨b1, W.heap.size, W.heap.size + 1, rfl, set2_same zz, ht1.same (set2_other (by omega)), (set2_other (by omega)).trans mm, by omega, by omega, by omega, by omega, by omega, by omega, (BE.setCell (by show W.heap.size ≤ W.heap.size + 1; omega) _).setCell (by show W.heap.size ≤ W.heap.size + 1; omega) _⟩
    · go_wp2_with fail
      go_meet
      case rel =>
        have q1 : W.heap.size + 1 ≤ b1 := by have := hb1; rw [show (W.alloc (.cells #[.slice none 0 0, .slice none 0 0] 93)).drew.heap.size = W.heap.size + 1 by show (W.alloc _).heap.size = _; simp] at this; exact this
        have q2 := ht1.lt
        have q3 := BE.size
        exact ⟨b1, w1.heap.size, W.heap.size, rfl, (Below.heap_alloc _ _ _ (by simp; exact zlt)).trans (set2_same zz), Tb.alloc (ht1.same (set2_other (by omega))) _, heap_top_at _ _ _ (by simp), by omega, by omega, by omega, by omega, by omega, by omega, ((BE.setCell (by show W.heap.size ≤ W.heap.size; omega) _).setCell (by show W.heap.size ≤ W.heap.size; omega) _).alloc (by simp; exact q3) _⟩
    · go_wp2_with fail
      go_meet
      case rel =>
        have q1 : W.heap.size + 2 ≤ b1 := by have := hb1; rw [show ((W.alloc (.cells #[.slice none 0 0, .slice none 0 0] 93)).alloc (.cells ((List.range l.length).map (fun _ => Value.int .i64 0)).toArray 3)).drew.heap.size = W.heap.size + 2 by show ((W.alloc _).alloc _).heap.size = _; simp] at this; exact this
        have q2 := ht1.lt
        have q3 := BE.size
        exact ⟨b1, W.heap.size + 1, W.heap.size, rfl, set2_same zz, ht1.same (set2_other (by omega)), (set2_other (by omega)).trans mm, by omega, by omega, by omega, by omega, by omega, by omega, (BE.setCell (by show W.heap.size ≤ W.heap.size; omega) _).setCell (by show W.heap.size ≤ W.heap.size; omega) _⟩
  case rest =>
    obtain ⟨b1, b2, c, hs3, hc, ht1, ht2, p1, p2, p3, p4, p5, p6, hbc⟩ := hcut
    subst hs3
    have hgc := (hbc.block _ (lt_of_block hg)).trans hg
    have h1c := (hbc.block _ (lt_of_block h1)).trans h1
    have hbw : Below w.heap.size w wc := hb0.trans (hbc.mono hb0.size)
    have s0 := lt_of_block hg
    have s1 := lt_of_block h1
    have HRA := Lib.hid hr
    have HG := Lib.hid g
    obtain ⟨ba, oa, hab⟩ := hr.b.get
    clear hg h1 g0 g1 gf0 gf1 hbc hb0 hmS HM hW hr
    clear hi hz0 hz1 hz2 i0
    obtain ⟨⟨g0, g1⟩, gf0, gf1⟩ := two_cells hgc
    go_wp2_with fail
    go_loopw [17] (fun i wr => ∃ k : Nat, k ≤ l.length ∧ i = .int .i64 k ∧ Tb wr b1 n 3 .i64 (fun v => lastAt l v k) ∧ Tb wr b2 l.length 3 .i64 (fun j => if j < k then lastAt l (src (ar l j)) j else 0) ∧ wr.heap[c]? = some (.cells #[.slice (some ⟨b1, 0, none⟩) n n, .slice (some ⟨b2, 0, none⟩) l.length l.length] 93) ∧ wr.heap[w.heap.size + 1]? = some (.cells #[.slice none 0 0, .slice none 0 0] 93) ∧ Below w.heap.size w wr) (fun i _ => l.length - (intOf i).toNat)
    case atStart => exact ⟨0, Nat.zero_le _, rfl, ht1, ht2.congr (fun v _ => by simp), hc, h1c, hbw⟩
    case round =>
      obtain ⟨k, hk, rfl, t1, t2, hcr, h1r, hbr⟩ := hrel
      clear g0 g1 gf0 gf1 hgc ht1 ht2 hc h1c hbw
      obtain ⟨⟨c0, c1⟩, cf0, cf1⟩ := two_cells hcr
      by_cases hlt : k < l.length
      · obtain ⟨rfl, hbl, hat⟩ := hab (by omega)
        obtain ⟨q0, q1, q2⟩ := (hat k hlt).on hbr
        have hlt' : (k : Int) < l.length := by omega
        have hmem := ar_mem hlt
        have hse := HG.out.f_eq hmem
        have hsl := HG.out.src_lt hmem
        obtain ⟨x, HX⟩ := named (ar l k)
        have q0' : wr.cell? ⟨ba, oa + k * 3, none⟩ = some (.int .i64 (ar l k).f) := q0
        have q1' : wr.cell? ⟨ba, oa + k * 3 + 1, none⟩ = some (.int .i64 (ar l k).t) := q1
        have q2' : wr.cell? ⟨ba, oa + k * 3 + 2, none⟩ = some (.int .u32 (ar l k).w) := q2
        rw [hse] at q0'
        rw [HX.out] at q0' q1' q2' hsl
        clear q0 q1 q2 hmem hse hat
        have hsl' : ((src x : Nat) : Int) < n := by omega
        have d1 := t1.cell hsl
        have d2 := t2.cell hlt
        have f1 := t1.free (src x)
        have f2 := t2.free k
        have z1 := t1.lt
        have z2 := t2.lt
        have z3 := lt_of_block hcr
        have z4 := lt_of_block h1r
        go_wp2_with fail
        have T1 := Lib.hid (t1.alloc (.cells #[.int .i64 (src x), .int .i64 x.t, .int .u32 x.w] 42))
        have T2 := Lib.hid (t2.alloc (.cells #[.int .i64 (src x), .int .i64 x.t, .int .u32 x.w] 42))
        have hca := (Below.heap_alloc wr (.cells #[.int .i64 (src x), .int .i64 x.t, .int .u32 x.w] 42) _ z3).trans hcr
        have HCA := Lib.hid hca
        have H1A := Lib.hid ((Below.heap_alloc wr (.cells #[.int .i64 (src x), .int .i64 x.t, .int .u32 x.w] 42) _ z4).trans h1r)
        have HBA := Lib.hid (hbr.alloc hbr.size (.cells #[.int .i64 (src x), .int .i64 x.t, .int .u32 x.w] 42))
        obtain ⟨x0, x1, x2⟩ := three_cells (heap_top wr (.cells #[.int .i64 (src x), .int .i64 x.t, .int .u32 x.w] 42))
        clear c0 c1 cf0 cf1 d1 d2 f1 f2 q0' q1' q2' t1 t2 hcr h1r hbr
        have zx1 : b1 ≠ wr.heap.size := by omega
        have zx2 : b2 ≠ wr.heap.size := by omega
        have zx3 : c ≠ wr.heap.size := by omega
        generalize wr.heap.size = Z at *
        generalize wr.alloc (.cells #[.int .i64 (src x), .int .i64 x.t, .int .u32 x.w] 42) = W5 at *
        obtain ⟨⟨c0, c1⟩, cf0, cf1⟩ := two_cells hca
        have d1 := T1.out.cell hsl
        have d2 := T2.out.cell hlt
        have f1 := T1.out.free (src x)
        have f2 := T2.out.free k
        have p4' := p4.symm
        have p5' := p5.symm
        have p6' := p6.symm
        clear hca
        obtain ⟨la, HLA⟩ := named (lastAt l (src x) k)
        rw [HLA.out] at d1
        rw [if_neg (Nat.lt_irrefl k)] at d2
        go_region
        go_wp2_with fail
        refine ⟨⟨k + 1, by omega, by go_num, ?_, ?_, ?_, ?_, ?_⟩, by simp [intOf]; omega⟩
        · refine Tb.congr (F := updI (fun v => lastAt l v k) (src x) k) (Tb.set (T1.out.same (Below.heap_setCell _ _ _ _ p4)) (src x) k) (fun v _ => ?_)
          show (if v = src x then (k : Int) else lastAt l v k) = (if src (ar l k) = v then (k : Int) else lastAt l v k)
          rw [HX.out]
          by_cases e : v = src x
          · subst e; simp
          · rw [if_neg e, if_neg (fun h => e h.symm)]
        · refine Tb.congr (F := updI (fun j => if j < k then lastAt l (src (ar l j)) j else 0) k la) (Tb.same (T2.out.set k la) (Below.heap_setCell _ _ _ _ p4')) (fun v _ => ?_)
          unfold updI
          by_cases e : v = k
          · subst e; rw [if_pos rfl, if_pos (by omega), HX.out, HLA.out]
          · rw [if_neg e]
            show (if v < k then lastAt l (src (ar l v)) v else 0) = _
            by_cases e2 : v < k
            · rw [if_pos e2, if_pos (by omega)]
            · rw [if_neg e2, if_neg (by omega)]
        · exact (Below.heap_setCell _ _ _ _ p5').trans ((Below.heap_setCell _ _ _ _ p6').trans HCA.out)
        · exact (Below.heap_setCell _ _ _ _ (by show w.heap.size + 1 ≠ b1; omega)).trans ((Below.heap_setCell _ _ _ _ (by show w.heap.size + 1 ≠ b2; omega)).trans H1A.out)
        · exact ((HBA.out.setCell (by show w.heap.size ≤ b2; omega) _).setCell (by show w.heap.size ≤ b1; omega) _).drew
      · have hkl : k = l.length := by omega
        have hlt' : ¬ (k : Int) < l.length := by omega
        obtain ⟨⟨r0, r1⟩, rf0, rf1⟩ := two_cells h1r
        have T1 := Lib.hid t1
        have T2 := Lib.hid t2
        clear t1 t2 hab
        subst hkl
        go_wp2_with fail
        refine bodyPost_ret (v := .agg #[.slice (some ⟨b1, 0, none⟩) n n, .slice (some ⟨b2, 0, none⟩) l.length l.length]) (by simp [results, Try.results60, go_sem, r0, r1]) rfl ⟨b1, b2, rfl, p4, by omega, by omega, ?_, ?_, ?_⟩
        · exact T1.out.same ((Below.heap_setCell _ _ _ _ (by show b1 ≠ w.heap.size + 1; omega)).trans (Below.heap_setCell _ _ _ _ (by show b1 ≠ w.heap.size + 1; omega)))
        · refine (T2.out.same ((Below.heap_setCell _ _ _ _ (by show b2 ≠ w.heap.size + 1; omega)).trans (Below.heap_setCell _ _ _ _ (by show b2 ≠ w.heap.size + 1; omega)))).congr (fun j hj => by rw [if_pos hj])
        · exact (hbr.setCell (by show w.heap.size ≤ w.heap.size + 1; omega) _).setCell (by show w.heap.size ≤ w.heap.size + 1; omega) _
end Go.Proofs.Ytgkpmcpkobphpaa.N5
