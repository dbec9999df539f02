/-
  GrowNearest holds.
-/
import Derived.Test.YtgkpmcpkobphpaaNrMath
import Derived.Test.YtgkpmcpkobphpaaMarked
import Derived.Test.YtgkpmcpkobphpaaWorks
import Derived.Test.YtgkpmcpkobphpaaLarge
namespace Go.Proofs.Ytgkpmcpkobphpaa
open Go.RowKit
theorem below_t3 {p : Nat} {w w1 w2 : World} (h : Below p w w1) (hp : w.heap.size = p) (h2 : Below w1.heap.size w1 w2) : Below p w w2 := h.trans (h2.mono (hp ▸ h.size))
/-- The arcs both ways as they are gathered. -/
structure Db (W0 wr : World) (r n : Nat) (q : List A) (ab : Option Addr) (cb : Nat) : Prop where
  hd : wr.heap[r]? = some (.cells #[.int .i64 (n : Int), .slice ab q.length cb] 24 (0, 0))
  ow : OwnA wr (r + 1) ab cb q
  be : Below r W0 wr
theorem db_add {W0 wr w6 : World} {r n : Nat} {q : List A} {x y : A} {ab : Option Addr} {cb g6 c6 : Nat} {o1 o2 : Obj} (h : Db W0 wr r n q ab cb) (hr : W0.heap.size = r)
    (hgr : ((wr.alloc o1).alloc o2).grownBy w6 (Value.slice ab q.length cb).ownBlock) (hown6 : w6.ownsRow (r + 1) 42 3 (.slice (some ⟨g6, 0, none⟩) (q.length + 2) c6) (q.length + 2) (cellsA q ++ cellsA [x, y])) :
    w6.heap[r]? = some (.cells #[.int .i64 (n : Int), .slice ab q.length cb] 24 (0, 0)) ∧ Db W0 (w6.setCell ⟨r, 1, none⟩ (.slice (some ⟨g6, 0, none⟩) (q.length + 2) c6)) r n (q ++ [x, y]) (some ⟨g6, 0, none⟩) c6 := by
  have hob : ∀ b, (Value.slice ab q.length cb).ownBlock = some b → r + 1 ≤ b := fun b hb => (World.ownsRow.lt h.ow b hb).1
  have f1 : Fr (fun j => some j = (Value.slice ab q.length cb).ownBlock) wr w6 := (((Fr.refl _ wr).alloc o1).alloc o2).trans ⟨hgr.os, hgr.tape, hgr.output, hgr.size, fun k hk hn => hgr.block k hk hn⟩
  have e1 := (f1.block r (lt_of_block h.hd) (fun e => by have := hob r e.symm; omega)).trans h.hd
  have f2 : Fr (fun j => j = r) w6 (w6.setCell ⟨r, 1, none⟩ (.slice (some ⟨g6, 0, none⟩) (q.length + 2) c6)) := (Fr.refl _ w6).setCell ⟨r, 1, none⟩ _ rfl
  refine ⟨e1, ?_, ?_, ?_⟩
  · rw [heap_setCell_same w6 r 1 _ _ _ e1]
    simp
  · unfold OwnA
    rw [List.length_append, cellsA_append]
    exact ownsRow_setCell_below hown6 (show r < r + 1 by omega) _
  · refine ⟨f2.os.trans (f1.os.trans h.be.os), f2.tape.trans (f1.tape.trans h.be.tape), f2.output.trans (f1.output.trans h.be.output), Nat.le_trans h.be.size (Nat.le_trans f1.size f2.size), fun k hk => ?_⟩
    have hs := h.be.size
    rw [f2.block k (by have := f1.size; omega) (fun e => by have e : k = r := e; omega), f1.block k (by omega) (fun e => by have := hob k e.symm; omega), h.be.block k hk]
theorem two_news (w : World) (f t : Int) : ∀ j u, (cellsA [⟨f, t, 1⟩, ⟨t, f, 1⟩])[j]? = some u → (w.alloc (.cells #[.int .i64 f, .int .i64 t, .int .u32 1, .int .i64 t, .int .i64 f, .int .u32 1] 42)).cell? ((⟨w.heap.size, 0, none⟩ : Addr).add j) = some u := by
  intro j u hu
  have h := heap_top w (.cells #[.int .i64 f, .int .i64 t, .int .u32 1, .int .i64 t, .int .i64 f, .int .u32 1] 42)
  rw [Go.WideShapes.add_plain, Nat.zero_add]
  generalize w.alloc (.cells #[.int .i64 f, .int .i64 t, .int .u32 1, .int .i64 t, .int .i64 f, .int .u32 1] 42) = W at *
  generalize w.heap.size = b at *
  match j, hu with
  | 0, hu => simp [cellsA] at hu; subst hu; simp [World.cell?, h]
  | 1, hu => simp [cellsA] at hu; subst hu; simp [World.cell?, h]
  | 2, hu => simp [cellsA] at hu; subst hu; simp [World.cell?, h]
  | 3, hu => simp [cellsA] at hu; subst hu; simp [World.cell?, h]
  | 4, hu => simp [cellsA] at hu; subst hu; simp [World.cell?, h]
  | 5, hu => simp [cellsA] at hu; subst hu; simp [World.cell?, h]
  | j + 6, hu => simp [cellsA] at hu
theorem Ints.take {w : World} {a : Option Addr} {xs : List Int} (h : Ints w a xs) (k : Nat) : Ints w a (xs.take k) := by
  rcases h with rfl | ⟨b, o, rfl, hl, hc⟩
  · exact .inl (by simp)
  · refine .inr ⟨b, o, rfl, hl, fun j hj => ?_⟩
    rw [List.length_take] at hj
    rw [hc j (by omega)]
    have hjk : j < k := by omega
    simp [List.getD, hjk]
theorem take_snocD {p : List A} {k : Nat} (h : k < p.length) : dbl (p.take (k + 1)) = dbl (p.take k) ++ [⟨(p.getD k A.zero).f, (p.getD k A.zero).t, 1⟩, ⟨(p.getD k A.zero).t, (p.getD k A.zero).f, 1⟩] := by
  rw [List.take_succ_eq_append_getElem h, dbl_snoc]
  simp [List.getD, List.getElem?_eq_getElem h]
theorem reg_sub3 {n c m : Nat} {l : List A} (hc : c < n) : (reg n l c m).Nodup ∧ (∀ u, u ∈ reg n l c m → u < n) ∧ (reg n l c m).length ≤ n := by
  unfold reg whole
  have hi := gro_inv (E := edl l) (M := 2 * l.length) (S := fun _ => false) hc n
  refine ⟨hi.nd.sublist (List.take_sublist _ _), fun u hu => hi.lt u (List.mem_of_mem_take hu), ?_⟩
  rw [List.length_take]
  have := gro_short (E := edl l) (M := 2 * l.length) (S := fun _ => false) hc n
  omega
/-- What the law's two loops are told of a region: its members as numbers, and how far they lie. -/
structure Rf (n m : Nat) (F : Nat → Int) (XI : List Int) : Prop where
  nd : XI.Nodup
  mem : ∀ x, x ∈ XI → ∃ u : Nat, u < n ∧ x = u
  up : ∀ k, k < XI.length → 0 < k → F (XI.getD (k - 1) 0).toNat ≤ F (XI.getD k 0).toNat
  fi : ∀ k, k < XI.length → F (XI.getD k 0).toNat < N5.Inf
  out : ∀ v : Nat, v < n → ¬ (v : Int) ∈ XI → F (XI.getD (XI.length - 1) 0).toNat ≤ F v ∧ (F v < N5.Inf → m ≤ XI.length)
theorem Rf.of {n c m : Nat} {l : List A} {F : Nat → Int} (hc : c < n) (hm : 1 ≤ m) (h : Fd (edl l) (2 * l.length) n c F) : Rf n m F (ints (reg n l c m)) := by
  obtain ⟨h1, h2⟩ := reg_near (m := m) hc h
  obtain ⟨r1, r2, r3⟩ := reg_sub3 (m := m) (l := l) hc
  obtain ⟨h0, _⟩ := reg_head (n := n) (c := c) (l := l) hm
  have hg : ∀ k, k < (reg n l c m).length → ((ints (reg n l c m)).getD k 0).toNat = (reg n l c m).getD k 0 := fun k hk => by rw [ints_getD hk, Int.toNat_natCast]
  refine ⟨?_, ?_, ?_, ?_, ?_⟩
  · unfold ints
    rw [List.Nodup, List.pairwise_map]
    exact r1.imp fun {a b} h => by omega
  · intro x hx
    unfold ints at hx
    obtain ⟨u, hu, rfl⟩ := List.mem_map.1 hx
    exact ⟨u, r2 u hu, rfl⟩
  · intro k hk h3
    rw [ints_len] at hk
    rw [hg k hk, hg (k - 1) (by omega)]
    exact (h1 k hk).2.1 h3
  · intro k hk
    rw [ints_len] at hk
    rw [hg k hk]
    exact (h1 k hk).2.2
  · intro v hv hn
    have hn' : v ∉ reg n l c m := fun e => hn (by unfold ints; exact List.mem_map.2 ⟨v, e, rfl⟩)
    rw [ints_len, hg _ (by omega)]
    exact ⟨(h2 v hv hn').1 h0, (h2 v hv hn').2⟩
/-- How far the last of the first k lies. -/
def lastF (F : Nat → Int) (XI : List Int) (k : Nat) : Int := if k = 0 then 0 else F (XI.getD (k - 1) 0).toNat
theorem lastF_le {n m : Nat} {F : Nat → Int} {XI : List Int} (h : Rf n m F XI) (hlo : ∀ v, 0 ≤ F v) {k : Nat} (hk : k < XI.length) : lastF F XI k ≤ F (XI.getD k 0).toNat := by
  unfold lastF
  split
  · exact hlo _
  · exact h.up k hk (by omega)
theorem gchk_less {n : Nat} {c : Int} {m : Nat} {l : List A} (h : gchk n c m l = 0) (hm : 1 < m) : gchk n c ((m : Int) - 1) l = 0 := by
  obtain ⟨h1, h2, h3, h4⟩ := gchk_zero h
  unfold gchk
  rw [if_neg (by rw [h1]; simp), if_neg (by simpa using h2), if_neg (by omega)]
theorem own_cap {w : World} {base n c : Nat} {a : Option Addr} {xs : List Value} (h : w.ownsRow base 3 1 (.slice a n c) n xs) : n ≤ c ∧ c ≤ 9223372036854775807 := by
  rcases h.2 with ⟨e, h0⟩ | ⟨g, c', cur, e, _, _, h4, h5, _⟩
  · injection e with e1 e2 e3; omega
  · injection e with e1 e2 e3; subst e3; exact ⟨h4, h5⟩
set_option maxRecDepth 100000 in
set_option maxHeartbeats 6400000 in
theorem nearest_any (N c m : Int) (a : Option Addr) (l : List A) (cap : Nat) (w : World) (hlen : l.length * 24 ≤ 140737488351232) (hr : Arcs w a l) :
    Calls Try.prog 5 #[.agg #[.int .i64 N, .slice a l.length cap], .int .i64 c, .int .i64 m] w fun e w' => e = .returned (.bool true) ∧ Below w.heap.size w w' := by
  have hl : l.length ≤ 9223372036854775807 := by omega
  have hb0 : Below w.heap.size w (w.alloc (.cells #[.int .i64 N, .slice a l.length cap] 24)) := (Below.refl _ _).alloc (Nat.le_refl _) _
  have hg := heap_top w (.cells #[.int .i64 N, .slice a l.length cap] 24)
  have HAR := Lib.hid hr
  clear hr
  obtain ⟨E, HE⟩ := named (gchk N c m l)
  generalize hp : w.heap.size = p at *
  go_enter Try.func5, Try.ntmps5
  go_wp2_with fail
  generalize hW : w.alloc (.cells #[.int .i64 N, .slice a l.length cap] 24) = W at *
  refine (works_any W).mono ?_
  rintro e w1 ⟨rfl, hb1⟩
  have hg1 := (hb1.block _ (lt_of_block hg)).trans hg
  have HB1 := Lib.hid (below_t3 hb0 hp hb1)
  obtain ⟨⟨g0, g1⟩, _⟩ := two_cells hg1
  clear hb1 hg hb0 hW
  go_wp2_with fail
  refine (large_any N a l.length cap w1 hl).mono ?_
  rintro e w2 ⟨rfl, hb2⟩
  have hg2 := (hb2.block _ (lt_of_block hg1)).trans hg1
  have HB2 := Lib.hid (below_t3 HB1.out hp hb2)
  clear hb2 hg1 g0 g1
  obtain ⟨⟨g0, g1⟩, _⟩ := two_cells hg2
  by_cases hla : 200 < N ∧ 500 < l.length
  · rw [decide_eq_true hla]
    go_wp2_with fail
    go_ret
    exact ⟨rfl, HB2.out⟩
  · rw [decide_eq_false hla]
    go_wp2_with fail
    refine (region_any N c m a l cap w2 hl (HAR.out.on (by rw [hp]; exact HB2.out))).mono ?_
    rintro e w3 ⟨v1, xs, rfl, hown, hx, hb3⟩
    rw [HE.out] at hx ⊢
    obtain ⟨a1, c1, rfl⟩ := own_slice hown
    have hg3 := (hb3.block _ (lt_of_block hg2)).trans hg2
    have HB3 := Lib.hid (below_t3 HB2.out hp hb3)
    clear hb3 hg2 g0 g1
    obtain ⟨⟨g0, g1⟩, _⟩ := two_cells hg3
    by_cases he : E = 0
    · have he2 : (E != 0) = false := by simp [he]
      obtain ⟨hC, ⟨hc0, hc1⟩, hm1, hm2⟩ := gchk_zero (HE.out.trans he)
      obtain ⟨hN1, hN2, hlb, hpo⟩ := chk_zero hC
      obtain ⟨n, rfl⟩ : ∃ n : Nat, N = n := ⟨N.toNat, by omega⟩
      obtain ⟨cc, rfl⟩ : ∃ cc : Nat, c = cc := ⟨c.toNat, by omega⟩
      obtain ⟨mm, rfl⟩ : ∃ mm : Nat, m = mm := ⟨m.toNat, by omega⟩
      rw [if_pos he, Int.toNat_natCast, Int.toNat_natCast, Int.toNat_natCast] at hx
      have hn : n ≤ 1024 := by omega
      have hccn : cc < n := by omega
      have HX := Lib.hid hx
      have HOWN := Lib.hid hown
      have HC := Lib.hid hC
      have hpw3 : p < w3.heap.size := lt_of_block hg3
      have hg3b := (Below.heap_alloc w3 (.cells #[.int .i64 (n : Int), .slice none 0 0] 24) p hpw3).trans hg3
      have HD0 : Hid (Db w3 (w3.alloc (.cells #[.int .i64 (n : Int), .slice none 0 0] 24)) w3.heap.size n (dbl (l.take 0)) none 0) := by
        refine ⟨heap_top w3 _, OwnA.nil _ _, (Below.refl _ _).alloc (Nat.le_refl _) _⟩
      obtain ⟨⟨y0, y1⟩, _⟩ := two_cells hg3b
      have hne3 : p ≠ w3.heap.size := by omega
      have hne3' := hne3.symm
      obtain ⟨i0, hi, hz0, hz1, hz2⟩ := info_parts info53
      obtain ⟨ba, oa, hab⟩ := HAR.out.b.get
      have HAB := Lib.hid hab
      clear hown hx hpo hab
      go_wp2_with fail
      generalize hV : w3.alloc (.cells #[.int .i64 (n : Int), .slice none 0 0] 24) = V at *
      generalize hr3 : w3.heap.size = r at *
      clear hV
      go_loopw [43] (fun i wr => ∃ (k : Nat) (ab : Option Addr) (cb : Nat), k ≤ l.length ∧ i = .int .i64 k ∧ Hid (Db w3 wr r n (dbl (l.take k)) ab cb)) (fun i _ => l.length - (intOf i).toNat)
      case atStart => exact ⟨0, none, 0, Nat.zero_le _, rfl, HD0⟩
      case round =>
        obtain ⟨k, ab, cb, hk, rfl, HD⟩ := hrel
        have hgk := (HD.out.be.block p (by omega)).trans hg3
        have HBk : Hid (Below p w wr) := HB3.out.trans (HD.out.be.mono (by omega))
        by_cases hlt : k < l.length
        · have hq := HD.out.hd
          obtain ⟨⟨q0, q1⟩, qf0, qf1⟩ := two_cells hq
          obtain ⟨rfl, hbl, hat⟩ := HAB.out (by omega)
          have hlt' : (k : Int) < l.length := by omega
          obtain ⟨x0, x1, x2⟩ := (hat k hlt).onB (by rw [hp] at hbl; exact hbl) HBk.out
          have HTS := Lib.hid (take_snocD hlt)
          have HDL := Lib.hid (dbl_len (l.take k))
          have hdl : (dbl (l.take k)).length ≤ 16384 := by rw [dbl_len, List.length_take]; omega
          clear hat
          generalize l.getD k A.zero = x at *
          generalize dbl (l.take k) = q at *
          have HNW : Hid (∀ j u, (cellsA [⟨x.f, x.t, 1⟩, ⟨x.t, x.f, 1⟩])[j]? = some u → ((wr.alloc (.cells #[.int .i64 x.f, .int .i64 x.t, .int .u32 x.w] 42)).alloc (.cells #[.int .i64 x.f, .int .i64 x.t, .int .u32 1, .int .i64 x.t, .int .i64 x.f, .int .u32 1] 42)).cell? ((⟨wr.heap.size + 1, 0, none⟩ : Addr).add j) = some u) := by
            have := two_news (wr.alloc (.cells #[.int .i64 x.f, .int .i64 x.t, .int .u32 x.w] 42)) x.f x.t
            rw [World.size_alloc] at this
            exact this
          have HOW2 : Hid (((wr.alloc (.cells #[.int .i64 x.f, .int .i64 x.t, .int .u32 x.w] 42)).alloc (.cells #[.int .i64 x.f, .int .i64 x.t, .int .u32 1, .int .i64 x.t, .int .i64 x.f, .int .u32 1] 42)).ownsRow (r + 1) 42 3 (.slice ab q.length cb) q.length (cellsA q)) := World.ownsRow.alloc (HD.out.ow.alloc _) _
          have hrw : r < wr.heap.size := lt_of_block hq
          have HBS : Hid (r + 1 ≤ ((wr.alloc (.cells #[.int .i64 x.f, .int .i64 x.t, .int .u32 x.w] 42)).alloc (.cells #[.int .i64 x.f, .int .i64 x.t, .int .u32 1, .int .i64 x.t, .int .i64 x.f, .int .u32 1] 42)).heap.size) := by show _ ≤ _; simp; omega
          go_wp2_with (at_builtin; refine wpList_append_own _ rfl (.tmp 48) (.tmp 59) 22 rfl (r + 1) 42 i0 _ 3 24 Try.underlying22 hi hz0 hz1 hz2 rfl (by decide) (.slice ab q.length cb) q.length (cellsA q) rfl HOW2.out ⟨wr.heap.size + 1, 0, none⟩ 2 2 (cellsA [⟨x.f, x.t, 1⟩, ⟨x.t, x.f, 1⟩]) rfl rfl HNW.out (cellsA_one _) (by unfold maxLen; omega) (by omega) HBS.out ?_; intro v1 w1' hown1 hgrow1 hnil1; obtain ⟨g1', c1', hv1, hg1, hc1', hs1, hm1'⟩ := own_shape hown1 (fun e => by have := hnil1.1 e; simp at this); rw [hv1] at hown1 ⊢; clear hnil1 hv1; obtain ⟨hq6, hd6⟩ := db_add HD.out hr3 hgrow1 hown1; have HD6 := Lib.hid hd6; clear hd6 hown1 hgrow1; obtain ⟨⟨q60, q61⟩, qf60, qf61⟩ := two_cells hq6)
          refine ⟨⟨k + 1, some ⟨g1', 0, none⟩, c1', by omega, by simp, ?_⟩, by simp [intOf]; omega⟩
          rw [HTS.out]
          exact HD6
        · have e0 : l.take k = l := List.take_of_length_le (by omega)
          rw [e0] at HD
          have hlt' : ¬ (k : Int) < l.length := by omega
          have hq := HD.out.hd
          obtain ⟨⟨q0, q1⟩, qf0, qf1⟩ := two_cells hq
          obtain ⟨⟨k0, k1⟩, _⟩ := two_cells hgk
          clear g0 g1 y0 y1 hg3b e0
          by_cases hbig : 8192 < (dbl l).length
          · have hbig' : (8192 : Int) < (dbl l).length := by omega
            go_wp2_with fail
            go_ret
            exact ⟨rfl, HBk.out⟩
          · have hbig' : ¬ (8192 : Int) < (dbl l).length := by omega
            obtain ⟨hRG, hNC⟩ := dbl_RG HC.out (by rw [dbl_len] at hbig; omega)
            have hNE : N5.nearE n ((dbl l).map toN) [(cc : Int)] = 0 := by unfold N5.nearE; rw [if_pos hNC, if_pos (by simp [N5.okV]; omega)]
            have HFR := Lib.hid (N5.from_ok n ab ((dbl l).map toN) cb cc wr hRG hccn hNE (arcs_N HD.out.ow.arcs))
            rw [List.length_map] at HFR
            clear hRG hNC hNE
            go_wp2_with fail
            refine HFR.out.mono ?_
            rintro e w5 ⟨bf, rfl, F, htF, hIs, hbd, hlf, hb5⟩
            have HFD := Lib.hid (Fd.of HC.out hIs hbd)
            have HLO := Lib.hid hIs.lo
            have HHI := Lib.hid hIs.hi
            have HRF := Lib.hid (Rf.of (m := mm) hccn (by omega) HFD.out)
            obtain ⟨hh1, hh2⟩ := reg_head (n := n) (c := cc) (l := l) (m := mm) (by omega)
            have hxl2 := reg_len n l cc mm
            rw [← HX.out] at HRF hh1 hh2 hxl2
            have HB5 : Hid (Below p w w5) := below_t3 HBk.out hp hb5
            have hg5 := (hb5.block _ (lt_of_block hgk)).trans hgk
            have HIX := Lib.hid (((own_ints HOWN.out rfl).on (by rw [hr3]; exact HD.out.be)).on hb5)
            obtain ⟨hcp1, hcp2⟩ := own_cap HOWN.out
            have HTF := Lib.hid htF
            have hXL : xs.length = (ints xs).length := by rw [ints_len]
            have hX0 : (ints xs).getD 0 0 = (cc : Int) := by rw [ints_getD hh1, hh2]
            have HXI : Hid (ints xs = ints (reg n l cc mm)) := by show _ = _; rw [HX.out]
            clear hIs hbd htF hb5 HFR hgk k0 k1 q0 q1 qf0 qf1 hq hh2 HX HOWN
            rw [hXL] at hh1 hxl2 hcp1 ⊢
            clear hXL
            generalize ints xs = XI at *
            have hx1 : ¬ (XI.length : Int) < 1 := by omega
            have hx2 : ¬ (mm : Int) < XI.length := by omega
            obtain ⟨ix, ox, hix⟩ := HIX.out.get
            obtain ⟨rfl, hixl, hcx⟩ := hix hh1
            have cx0 := hcx 0 hh1
            rw [hX0, Nat.add_zero] at cx0
            have HCX := Lib.hid hcx
            have hne : ((cc : Int) != (cc : Int)) = false := by simp
            have hx3 : (0 : Int) < XI.length := by omega
            obtain ⟨⟨k0, k1⟩, _⟩ := two_cells hg5
            obtain ⟨i4, hi4, hz4, hs4, hb4⟩ := info_parts info4
            have hmkB : ∀ w, (Instr.makeSlice 48 (.int .i64 n) (.int .i64 n)).run Try.prog w = .ok (.slice (some ⟨w.heap.size, 0, none⟩) n n) (w.alloc (.cells ((List.range n).map (fun _ => Value.bool false)).toArray 4)) := fun w => by
              have := run_make (P := Try.prog) w 48 4 i4 (.bool false) Try.underlying48 hi4 hz4 .i64 .i64 n n (by omega) (by omega) (by rw [hb4]; omega) (by omega)
              rw [this, Int.toNat_natCast, hs4, made_bool]
            clear hi4 hz4 hs4 hb4 hix hcx
            clear i4
            have hgv := (Below.heap_alloc w5 (.cells ((List.range n).map (fun _ => Value.bool false)).toArray 4) p (lt_of_block hg5)).trans hg5
            have HT0 : Hid (TbV (w5.alloc (.cells ((List.range n).map (fun _ => Value.bool false)).toArray 4)) w5.heap.size n 4 (fun _ => .bool false)) := heap_top w5 _
            have HTFV := Lib.hid ((Below.heap_alloc w5 (.cells ((List.range n).map (fun _ => Value.bool false)).toArray 4) bf HTF.out.lt).trans HTF.out)
            have HBV : Hid (Below w5.heap.size w5 (w5.alloc (.cells ((List.range n).map (fun _ => Value.bool false)).toArray 4))) := (Below.refl _ _).alloc (Nat.le_refl _) _
            have hbf5 : bf < w5.heap.size := HTF.out.lt
            have hp5 : p < w5.heap.size := lt_of_block hg5
            go_wp2_with fail
            generalize hV : w5.alloc (.cells ((List.range n).map (fun _ => Value.bool false)).toArray 4) = V at *
            generalize hb : w5.heap.size = b at *
            clear hmkB hV k0 k1
            go_loopw [14, 98] (fun s14 s98 wr => ∃ k : Nat, k ≤ XI.length ∧ s98 = .int .i64 k ∧ s14 = .int .u64 (lastF F XI k) ∧ TbV wr b n 4 (marks (XI.take k)) ∧ Hid (Fr (fun j => j = b) V wr)) (fun _ i _ => XI.length - (intOf i).toNat)
            case atStart => exact ⟨0, Nat.zero_le _, rfl, rfl, HT0.out.congr (fun v _ => by simp [marks]), Fr.refl _ _⟩
            case round =>
              obtain ⟨k, hk, rfl, rfl, htb, HF⟩ := hrel
              have hgr := (HF.out.block p (lt_of_block hgv) (fun e => by have e : p = b := e; omega)).trans hgv
              obtain ⟨⟨g0, g1⟩, _⟩ := two_cells hgr
              have htF : N5.Tb wr bf n 47 .u64 F := (HF.out.block bf (N5.Tb.lt HTFV.out) (fun e => by have e : bf = b := e; omega)).trans HTFV.out
              by_cases hlt : k < XI.length
              · have hlt' : (k : Int) < XI.length := by omega
                have cx := (World.cell?_of_block (a := ⟨ix, ox + k, none⟩) (HF.out.block ix (Nat.lt_of_lt_of_le hixl (hb ▸ HBV.out.size)) (fun e => by have e : ix = b := e; omega))).trans ((HBV.out.cell (p := ⟨ix, ox + k, none⟩) hixl).trans (HCX.out k hlt))
                have HTS := Lib.hid (take_snocI hlt)
                obtain ⟨u, hun, hu⟩ := HRF.out.mem (XI.getD k 0) (by simp [List.getD, List.getElem?_eq_getElem hlt])
                have hL1 := lastF_le HRF.out HLO.out hlt
                have hL2 := HRF.out.fi k hlt
                have HL3 : Hid (lastF F XI (k + 1) = F (XI.getD k 0).toNat) := by show _ = _; unfold lastF; rw [if_neg (by omega)]; rfl
                have hnd : ¬ (u : Int) ∈ XI.take k := by
                  have h2 : (XI.take (k + 1)).Nodup := HRF.out.nd.sublist (List.take_sublist _ _)
                  rw [HTS.out, nodup_snoc, hu] at h2
                  exact h2.2
                rw [hu] at cx HTS hL1 hL2 HL3
                rw [Int.toNat_natCast] at hL1 hL2 HL3
                have hun' : (u : Int) < n := by omega
                have hun2 : ¬ (n : Int) ≤ u := by omega
                have d1 := htb.cell hun
                have d2 := htb.free u
                have d3 := htF.cell hun
                unfold marks at d1
                rw [decide_eq_false hnd] at d1
                unfold N5.Inf at hL2
                clear hu
                obtain ⟨L, HLK⟩ := named (lastF F XI k)
                rw [HLK.out] at hL1 ⊢
                generalize hdu : F u = d at *
                have hd1 : ¬ d < L := by omega
                have hd2 : (d == 18446744073709551615) = false := by simp; omega
                go_wp2_with fail
                refine ⟨⟨_, .int .u64 d, .int .i64 u, .int .i64 ((k : Int) + 1), ⟨k + 1, by omega, by simp, by rw [HL3.out], (htb.set u (.bool true)).congr (fun v _ => ?_), HF.out.setCell ⟨b, u, none⟩ _ rfl⟩, rfl, rfl, rfl, rfl⟩, by simp [intOf]; omega⟩
                rw [HTS.out]; exact marks_snoc _ u v
              · obtain rfl : k = XI.length := by omega
                have hlt' : ¬ (XI.length : Int) < XI.length := by omega
                rw [List.take_length] at htb
                have HB6 : Hid (Below p w wr) := (HB5.out.trans (HBV.out.mono (by omega))).trans (HF.out.below (B := p) (Nat.le_trans (Nat.le_of_lt (hb ▸ hp5)) HBV.out.size) (fun k e => by have e : k = b := e; omega))
                have HTX := Lib.hid htb
                have HTFr := Lib.hid htF
                have HIXr : Hid (∀ j, j < XI.length → wr.cell? ⟨ix, ox + j, none⟩ = some (.int .i64 (XI.getD j 0))) := fun j hj => (World.cell?_of_block (a := ⟨ix, ox + j, none⟩) (HF.out.block ix (Nat.lt_of_lt_of_le hixl (hb ▸ HBV.out.size)) (fun e => by have e : ix = b := e; omega))).trans ((HBV.out.cell (p := ⟨ix, ox + j, none⟩) (hb ▸ hixl)).trans (HCX.out j hj))
                have hixr : ix < wr.heap.size := Nat.lt_of_lt_of_le (Nat.lt_of_lt_of_le hixl (hb ▸ HBV.out.size)) HF.out.size
                obtain ⟨L, HLK⟩ := named (lastF F XI XI.length)
                rw [HLK.out]
                clear htb htF HF hlt hk
                go_wp2_with fail
                generalize wr = w7 at *
                go_loopw [141] (fun i wr => ∃ k : Nat, k ≤ n ∧ i = .int .i64 k ∧ wr = w7) (fun i _ => n - (intOf i).toNat)
                case atStart => exact ⟨0, Nat.zero_le _, rfl, rfl⟩
                case round =>
                  obtain ⟨k, hk, rfl, rfl⟩ := hrel
                  by_cases hlt : k < n
                  · have hltn : (k : Int) < n := by omega
                    have d1 := HTX.out.cell hlt
                    have d2 := HTFr.out.cell hlt
                    unfold marks at d1
                    by_cases hin : (k : Int) ∈ XI
                    · rw [decide_eq_true hin] at d1
                      generalize hdu : F k = d at *
                      go_wp2_with fail
                      exact ⟨⟨k + 1, by omega, by simp, trivial⟩, by simp [intOf]; omega⟩
                    · rw [decide_eq_false hin] at d1
                      obtain ⟨ho1, ho2⟩ := HRF.out.out k hlt hin
                      have HLL : Hid (L ≤ F k) := by
                        show L ≤ F k
                        rw [← HLK.out]
                        unfold lastF
                        rw [if_neg (by omega)]
                        exact ho1
                      unfold N5.Inf at ho2
                      have hLd := HLL.out
                      generalize hdu : F k = d at *
                      have hd1 : ¬ d < L := by omega
                      by_cases hd2 : d < 18446744073709551615
                      · have hd3 := ho2 hd2
                        have hd4 : ¬ (XI.length : Int) < mm := by omega
                        clear ho1 ho2
                        go_wp2_with fail
                        exact ⟨⟨k + 1, by omega, by simp, trivial⟩, by simp [intOf]; omega⟩
                      · clear ho1 ho2
                        go_wp2_with fail
                        exact ⟨⟨k + 1, by omega, by simp, trivial⟩, by simp [intOf]; omega⟩
                  · obtain rfl : k = n := by omega
                    have hltn : ¬ (k : Int) < k := by omega
                    by_cases hmm : 1 < mm
                    · have hmm' : (1 : Int) < mm := by omega
                      have hG2 := gchk_less (HE.out.trans he) hmm
                      have e3 : ((mm : Int) - 1).toNat = mm - 1 := by omega
                      have HI7 : Hid (Ints wr (some ⟨ix, ox, none⟩) XI) := .inr ⟨ix, ox, rfl, hixr, HIXr.out⟩
                      go_wp2_with fail
                      refine (region_any k cc ((mm : Int) - 1) a l cap wr hl (HAR.out.on (by rw [hp]; exact HB6.out))).mono ?_
                      rintro e w8 ⟨v2, xs2, rfl, hown2, hx2, hb8⟩
                      rw [hG2] at hx2 ⊢
                      rw [if_pos rfl, Int.toNat_natCast, Int.toNat_natCast, e3] at hx2
                      obtain ⟨l1, l2⟩ := reg_less (n := k) (c := cc) (m := mm) (l := l)
                      rw [← hx2] at l1 l2
                      have hxx : ints xs2 = XI.take (ints xs2).length := by
                        rw [HXI.out, ints_len]
                        conv => lhs; rw [l1]
                        unfold ints
                        rw [List.map_take]
                      have hll : (ints xs2).length ≤ XI.length := by rw [HXI.out, ints_len, ints_len]; exact l2
                      obtain ⟨a2, c2, rfl⟩ := own_slice hown2
                      have HI2 := Lib.hid (own_ints hown2 rfl)
                      have HI1 := Lib.hid ((HI7.out.on hb8).take (ints xs2).length)
                      rw [← hxx] at HI1
                      have HB8 := Lib.hid (below_t3 HB6.out hp hb8)
                      rw [show xs2.length = (ints xs2).length by rw [ints_len]]
                      clear hown2 hx2 hb8 l1 l2 hxx HXI hG2 e3
                      generalize ints xs2 = YI at *
                      have hll' : (YI.length : Int) ≤ XI.length := by omega
                      have hsl : (YI.length : Int) ≤ c1 := by omega
                      have hsl0 : (0 : Int) ≤ (YI.length : Int) := by omega
                      go_wp2_with fail
                      refine (sameInts_any a2 (some ⟨ix, ox, none⟩) c2 c1 YI w8 (by omega) HI2.out HI1.out).mono ?_
                      rintro e w9 ⟨rfl, hb9⟩
                      have HB9 := Lib.hid (below_t3 HB8.out hp hb9)
                      clear hb9
                      go_wp2_with fail
                      go_ret
                      exact ⟨rfl, HB9.out⟩
                    · have hmm' : ¬ (1 : Int) < mm := by omega
                      go_wp2_with fail
                      go_ret
                      exact ⟨rfl, HB6.out⟩
    · have he2 : (E != 0) = true := by simp [he]
      rw [if_neg he] at hx
      subst hx
      go_wp2_with fail
      go_ret
      exact ⟨rfl, HB3.out⟩
end Go.Proofs.Ytgkpmcpkobphpaa
