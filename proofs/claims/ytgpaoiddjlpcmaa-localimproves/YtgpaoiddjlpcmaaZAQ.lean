/-
  The contract of local.Gain. The contracts of local.look and of slices.Max. Cells that are made better: a move is carried out. The contract of local.lookUnder. The contract of local.Next. The contract of local.Improve. The chapter's examples: the mathematics.
-/
import Derived.Test.YtgpaoiddjlpcmaaZCd
import Derived.Test.YtgpaoiddjlpcmaaZAP
import Derived.Test.YtgpaoiddjlpcmaaZAO
import Derived.Test.YtgpaoiddjlpcmaaZAJ
import Derived.Test.YtgpaoiddjlpcmaaZAL
namespace Go.Proofs.Ytgpaoiddjlpcmaa
open Go.RowKit Go.Maps
theorem sz_count {L : List Nat} (h : tdy (ints L) 0 = true) (lb : Nat) : ∀ k, k ≤ L.length → (szL (ints (L.take k))).getD lb 0 = (L.take k).count lb
  | 0, _ => by simp [szL, ints]
  | k + 1, hk => by
    have hk' : k < L.length := by omega
    have ih := sz_count h lb k (by omega)
    have h1 := right_next h k (by rw [ints_len]; exact hk')
    rw [ints_getD hk', Int.toNat_natCast, ints_take] at h1
    have e0 : L.take (k + 1) = L.take k ++ [L.getD k 0] := by rw [List.take_succ_eq_append_getElem hk']; simp [List.getD, List.getElem?_eq_getElem hk']
    have e : ints (L.take (k + 1)) = ints (L.take k) ++ [((L.getD k 0 : Nat) : Int)] := by rw [e0, ints_snoc]
    rw [e, szL_snoc, Int.toNat_natCast, szS_at h1.2, ih, e0, List.count_append]
    congr 1
    by_cases e2 : lb = L.getD k 0
    · rw [if_pos e2, e2]; simp
    · rw [if_neg e2, List.count_singleton]
      have : (L.getD k 0 == lb) = false := by simp only [beq_eq_false_iff_ne]; exact fun e => e2 e.symm
      rw [this]; rfl
theorem sz_cnt {L : List Nat} (h : tdy (ints L) 0 = true) (lb : Nat) : (szL (ints L)).getD lb 0 = L.count lb := by
  have h1 := sz_count h lb L.length (Nat.le_refl _)
  rw [List.take_length] at h1
  exact h1
theorem ints_back {xs : List Int} (h : tdy xs 0 = true) : xs = ints (xs.map Int.toNat) := by
  refine List.ext_getElem (by simp [ints]) (fun i h1 h2 => ?_)
  have h3 := (right_next h i h1).1
  simp only [ints, List.getElem_map]
  simp [List.getD, h1] at h3
  omega
/-- What look leaves. -/
def Looked (W wr : World) (cb n : Nat) (L : List Nat) (P : List Pr) : Prop := ∃ (k lg lc sg sc eg ec bg pg fg : Nat) (mb nn : Nat → Nat) (rv : Nat → Value) (S : List Nat) (Le : List Int), CQ W wr cb n k lg lc sg sc eg ec bg pg fg mb nn rv (besd P) (cv P L) L S Le (2 * P.length) ∧ LP L n n S Le ∧ S.length = k ∧ lg ≠ sg ∧ lg ≠ eg ∧ sg ≠ eg
theorem CQ.base {W W' wr : World} {cb n k lg lc sg sc eg ec bg pg fg : Nat} {mb nn : Nat → Nat} {rv : Nat → Value} {R : Nat → List Nat} {F : Nat → Nat → Nat} {L S : List Nat} {Le : List Int} {m : Nat} (h : CQ W' wr cb n k lg lc sg sc eg ec bg pg fg mb nn rv R F L S Le m) (hb : Below W.heap.size W W') : CQ W wr cb n k lg lc sg sc eg ec bg pg fg mb nn rv R F L S Le m :=
  ⟨h.X, h.l, h.s, h.e, h.rr, h.ra, fun v hv g e => ⟨Nat.le_trans hb.size (h.rl v hv g e).1, (h.rl v hv g e).2⟩, h.mj, fun v hv => Nat.le_trans hb.size (h.ml v hv), h.nb, h.rb, h.fb, Nat.le_trans hb.size h.bl, hb.trans (h.bel.mono hb.size), ⟨Nat.le_trans hb.size h.lo.1, Nat.le_trans hb.size h.lo.2.1, Nat.le_trans hb.size h.lo.2.2.1, Nat.le_trans hb.size h.lo.2.2.2.1, Nat.le_trans hb.size h.lo.2.2.2.2⟩⟩
theorem prs_own {w : World} {B : Nat} {v : Option Addr} {c : Nat} {xs : List Pr} (h : OwnP w B v c xs) : Prs w v xs := by
  rcases Nat.eq_zero_or_pos xs.length with h0 | h0
  · exact .inl (List.eq_nil_of_length_eq_zero h0)
  · obtain ⟨g, cap, hv, _, hlt⟩ := World.ownsRow.form h h0
    injection hv with e1 e2 e3
    subst e1
    refine .inr ⟨g, 0, rfl, hlt, fun j hj => ?_⟩
    obtain ⟨h1, h2⟩ := cellsP_at xs j hj
    exact ⟨by rw [Nat.zero_add]; exact (World.ownsRow.cellAt h (j * 2) (by omega)).trans h1, by rw [Nat.zero_add]; exact (World.ownsRow.cellAt h (j * 2 + 1) (by omega)).trans h2⟩
set_option maxRecDepth 100000 in
set_option maxHeartbeats 1600000 in
theorem look_any (N : Int) (a : Option Addr) (l : List A) (cap : Nat) (b : Option Addr) (xs : List Int) (bc : Nat) (w : World) (hl : l.length ≤ 9223372036854775807) (hx : xs.length ≤ 9223372036854775807) (hr : Arcs w a l) (hi : Ints w b xs) :
    Calls Try.prog 25 #[.agg #[.int .i64 N, .slice a l.length cap], .slice b xs.length bc] w fun e w' => ∃ pv : Value, e = .returned (.tuple #[pv, .int .i64 (cntE N l xs)]) ∧ Below w.heap.size w w' ∧ Hid (cntE N l xs = 0 → ∃ (cb : Nat) (L : List Nat), pv = .pointer (some ⟨cb, 0, none⟩) ∧ xs = ints L ∧ N = (L.length : Int) ∧ Looked w w' cb L.length L (prl l)) ∧ Hid (cntE N l xs ≠ 0 → pv = .pointer none) := by
  have hb0 : Below w.heap.size w (w.alloc (.cells #[.int .i64 N, .slice a l.length cap] 24)) := (Below.refl _ _).alloc (Nat.le_refl _) _
  have hg := heap_top w (.cells #[.int .i64 N, .slice a l.length cap] 24)
  have HI := Lib.hid (hi.on hb0)
  have HR := Lib.hid (hr.on hb0)
  have HB0 := Lib.hid hb0
  have hwz : w.heap.size ≤ (w.alloc (.cells #[.int .i64 N, .slice a l.length cap] 24)).heap.size := hb0.size
  have HCK := Lib.hid (natCount_any N a l cap b xs bc (w.alloc (.cells #[.int .i64 N, .slice a l.length cap] 24)) hl hx (hr.on hb0) (hi.on hb0))
  obtain ⟨E, HE⟩ := named (cntE N l xs)
  rw [HE.out] at HCK ⊢
  obtain ⟨K, HK⟩ := named (if E = 0 then ((cntB xs (prl l) : Nat) : Int) else 0)
  have HCK2 : Hid (Calls Try.prog 23 #[.agg #[.int .i64 N, .slice a l.length cap], .slice b xs.length bc] (w.alloc (.cells #[.int .i64 N, .slice a l.length cap] 24)) fun e w' => e = .returned (.tuple #[.int .i64 K, .int .i64 E]) ∧ Below (w.alloc (.cells #[.int .i64 N, .slice a l.length cap] 24)).heap.size (w.alloc (.cells #[.int .i64 N, .slice a l.length cap] 24)) w') := by
    refine HCK.out.mono ?_
    rintro e w' ⟨rfl, hb⟩
    refine ⟨?_, hb⟩
    rw [← HK.out]
  obtain ⟨⟨c0, c1⟩, _⟩ := two_cells hg
  have HHL := Lib.hid hl
  clear hb0 hr hi HCK HK hl hx
  generalize hp : w.heap.size = p at *
  go_enter Try.func25, Try.ntmps25
  go_wp2_with fail
  generalize hW : w.alloc (.cells #[.int .i64 N, .slice a l.length cap] 24) = W at *
  clear hW
  refine HCK2.out.mono ?_
  rintro e w1 ⟨rfl, hb1⟩
  have HB1 : Hid (Below p w w1) := HB0.out.trans (hb1.mono hwz)
  have hg1 := (hb1.block p (lt_of_block hg)).trans hg
  have HI1 := Lib.hid (HI.out.on hb1)
  have HR1 := Lib.hid (HR.out.on hb1)
  have hwz1 : p ≤ w1.heap.size := Nat.le_trans hwz hb1.size
  clear hb1 HCK2 c0 c1 hg
  obtain ⟨⟨c0, c1⟩, _⟩ := two_cells hg1
  by_cases hE : E ≠ 0
  · have e1 : (E != 0) = true := by simpa using hE
    go_wp2_with fail
    refine bodyPost_ret (v := .tuple #[.pointer none, .int .i64 E]) (by simp [results, Try.results25, go_sem]) rfl ?_
    exact ⟨_, rfl, HB1.out, fun h => absurd h hE, fun _ => rfl⟩
  have hE0 : E = 0 := by simpa using hE
  have e1 : (E != 0) = false := by simpa using hE0
  have HE0 := Lib.hid hE0
  clear hE hE0
  have hz := HE.out
  rw [HE0.out] at hz
  unfold cntE at hz
  have hc0 : chkE N l = 0 := by
    by_cases c : chkE N l ≠ 0
    · rw [if_pos c] at hz; exact hz
    · simpa using c
  rw [if_neg (by simp [hc0])] at hz
  have hxt : ¬ ((xs.length : Int) ≠ N ∨ tdy xs 0 = false) := fun c => by rw [if_pos c] at hz; cases hz
  have hxn : (xs.length : Int) = N := Classical.byContradiction (fun c => hxt (.inl c))
  have htd : tdy xs 0 = true := by cases q : tdy xs 0 with
    | true => rfl
    | false => exact absurd (.inr q) hxt
  obtain ⟨hN1, hN2, hll, hoa⟩ := chk_zero hc0
  obtain ⟨L, HL⟩ := named (xs.map Int.toNat)
  have HXL := Lib.hid (ints_back htd)
  rw [HL.out] at HXL
  have HPA := Lib.hid (pairs_any N a l cap w1 HHL.out HR1.out)
  have HC0 := Lib.hid hc0
  rw [hc0] at HPA
  have HOA := Lib.hid hoa
  have HTD := Lib.hid htd
  have hln : L.length = xs.length := by rw [← HL.out, List.length_map]
  clear hz hxt hc0 hoa htd
  go_wp2_with fail
  refine HPA.out.mono ?_
  rintro e w2 ⟨v, c, ps, rfl, hop, hps, hb2⟩
  rw [if_pos trivial] at hps
  subst hps
  obtain ⟨ix, ox, hix⟩ := (HI1.out.on hb2).get
  obtain ⟨rfl, _, _⟩ := hix (by omega)
  have hNl : N = (L.length : Int) := by omega
  have HCD := Lib.hid (counted_any ix ox xs L bc v (prl l) c xs.length w2 rfl HXL.out (by rw [← HXL.out]; exact HTD.out) (by omega) (by omega) (HI1.out.on hb2) (prs_own hop) (Nat.le_trans (prl_len l) hll) (fun p hp => prl_lt (n := xs.length) (by rw [hxn]; exact HOA.out) hp) (fun p hp => by
    have := ((prl_mem (fun x hx => ⟨(HOA.out x hx).1.1, (HOA.out x hx).2.1⟩)).1 hp).1
    omega))
  have HB2 : Hid (Below p w w2) := HB1.out.trans (hb2.mono hwz1)
  have hz2 : p ≤ w2.heap.size := Nat.le_trans hwz1 hb2.size
  have HNL := Lib.hid hNl
  have HLN := Lib.hid hln
  clear hix hop hb2 c0 c1 hNl hln hxn
  go_wp2_with fail
  refine HCD.out.mono ?_
  rintro e w3 ⟨cb, k, lg, lc, sg, sc, eg, ec, bg, pg, fg, mb, nn, rv, S, Le, rfl, hq, hlp, hk, hls, hle, hse⟩
  have HLK : Hid (Looked w w3 cb L.length L (prl l)) := by
    show Looked w w3 cb L.length L (prl l)
    rw [HLN.out]
    exact ⟨k, lg, lc, sg, sc, eg, ec, bg, pg, fg, mb, nn, rv, S, Le, hq.base (by rw [hp]; exact HB2.out), hlp, hk, hls, hle, hse⟩
  have HB3 : Hid (Below p w w3) := HB2.out.trans (hq.bel.mono hz2)
  clear hq hlp hk hls hle hse
  go_wp2_with fail
  refine bodyPost_ret (v := .tuple #[.pointer (some ⟨cb, 0, none⟩), .int .i64 0]) (by simp [results, Try.results25, go_sem]) rfl ?_
  exact ⟨_, by rw [HE0.out], HB3.out, fun _ => ⟨cb, L, rfl, HXL.out, HNL.out, HLK.out⟩, fun h => absurd HE0.out h⟩
end Go.Proofs.Ytgpaoiddjlpcmaa
namespace Go.Proofs.Ytgpaoiddjlpcmaa
open Go.RowKit Go.Maps
theorem besd_count {v u : Nat} : ∀ P : List Pr, (∀ p, p ∈ P → p.a ≠ p.b) → (besd P v).count u = nb P v u
  | [], _ => rfl
  | p :: P, hp => by
    have ih := besd_count (v := v) (u := u) P (fun q hq => hp q (List.mem_cons_of_mem _ hq))
    have hne := hp p (List.mem_cons_self ..)
    have c3 : nb (p :: P) v u = nb P v u + if joinB v u p = true then 1 else 0 := by unfold nb; rw [List.countP_cons]
    have jb : joinB v u p = true ↔ (p.a = v ∧ p.b = u) ∨ (p.a = u ∧ p.b = v) := by
      unfold joinB
      simp only [Bool.or_eq_true, Bool.and_eq_true, decide_eq_true_eq]
    rw [c3, ← ih]
    unfold besd
    rw [List.filterMap_cons]
    by_cases a1 : p.a = v
    · have b1 : p.b ≠ v := fun e => hne (a1.trans e.symm)
      rw [if_pos a1]
      show (p.b :: _).count u = _
      rw [List.count_cons]
      by_cases c : p.b = u
      · rw [if_pos (by simp [c]), if_pos (jb.2 (.inl ⟨a1, c⟩))]
      · rw [if_neg (by simpa using c), if_neg (fun q => (jb.1 q).elim (fun q => c q.2) (fun q => b1 q.2))]
    · rw [if_neg a1]
      by_cases b1 : p.b = v
      · rw [if_pos b1]
        show (p.a :: _).count u = _
        rw [List.count_cons]
        by_cases c : p.a = u
        · rw [if_pos (by simp [c]), if_pos (jb.2 (.inr ⟨c, b1⟩))]
        · rw [if_neg (by simpa using c), if_neg (fun q => (jb.1 q).elim (fun q => a1 q.1) (fun q => c q.1))]
      · rw [if_neg b1, if_neg (fun q => (jb.1 q).elim (fun q => a1 q.1) (fun q => b1 q.2))]
        rfl
theorem nb_le (P : List Pr) (L : List Nat) (v u : Nat) : nb P v u ≤ cv P L u (L.getD v 0) := by
  unfold nb cv
  refine List.countP_mono_left (fun p _ h => ?_)
  have jb : (p.a = v ∧ p.b = u) ∨ (p.a = u ∧ p.b = v) := by
    unfold joinB at h
    simpa only [Bool.or_eq_true, Bool.and_eq_true, decide_eq_true_eq] using h
  rcases jb with ⟨h1, h2⟩ | ⟨h1, h2⟩
  · exact hit_iff.2 (.inr ⟨h2, by rw [h1]⟩)
  · exact hit_iff.2 (.inl ⟨h1, by rw [h2]⟩)
theorem besd_in {P : List Pr} {n v : Nat} (hP : PIn P n) {u : Nat} (h : u ∈ besd P v) : u < n := by
  unfold besd at h
  rw [List.mem_filterMap] at h
  obtain ⟨p, hp, h⟩ := h
  have := hP p hp
  by_cases a1 : p.a = v
  · rw [if_pos a1] at h; injection h with h; omega
  · rw [if_neg a1] at h
    by_cases b1 : p.b = v
    · rw [if_pos b1] at h; injection h with h; omega
    · rw [if_neg b1] at h; cases h
theorem mv_cv {P : List Pr} {L : List Nat} {v x : Nat} (hv : v < L.length) (hx : x ≠ L.getD v 0) (hd : ∀ p, p ∈ P → p.a ≠ p.b) : mvF (cv P L) (besd P v) x (L.getD v 0) = cv P (L.set v x) := by
  funext t y
  have h := cv_set (w := t) (y := y) hv hx P hd
  have hc := besd_count (v := v) (u := t) P hd
  have hle := nb_le P L v t
  unfold mvF
  rw [hc]
  by_cases c1 : y = x
  · rw [if_pos c1] at h ⊢
    rw [if_neg (fun e => hx (c1.symm.trans e))] at h ⊢
    omega
  · rw [if_neg c1] at h ⊢
    by_cases c2 : y = L.getD v 0
    · rw [if_pos c2] at h ⊢
      rw [c2] at h ⊢
      omega
    · rw [if_neg c2] at h ⊢
      omega
theorem count_set_at {L : List Nat} {v x : Nat} (hv : v < L.length) (hx : x ≠ L.getD v 0) : (L.set v x).count x = L.count x + 1 ∧ (L.set v x).count (L.getD v 0) + 1 = L.count (L.getD v 0) := by
  have h1 := List.count_set (a := x) (b := x) (l := L) (i := v) hv
  have h2 := List.count_set (a := x) (b := L.getD v 0) (l := L) (i := v) hv
  have e : L[v] = L.getD v 0 := (getD_in hv).symm
  have pos : 0 < L.count (L.getD v 0) := List.count_pos_iff.2 (by rw [← e]; exact List.getElem_mem hv)
  rw [e] at h1 h2
  have n1 : (L.getD v 0 == x) = false := by simp only [beq_eq_false_iff_ne]; exact fun e => hx e.symm
  have n2 : (x == L.getD v 0) = false := by simp only [beq_eq_false_iff_ne]; exact hx
  rw [n1] at h1
  rw [n2] at h2
  simp at h1 h2
  have h1' : (L.set v x).count x = L.count x + 1 := h1
  refine ⟨h1', ?_⟩
  have h2' : (L.set v x).count (L.getD v 0) = L.count (L.getD v 0) - 1 := by simpa [List.getD] using h2
  omega
theorem range_getD (n : Nat) (Fi : Nat → M) {w : Nat} (h : w < n) : ((List.range n).map Fi).getD w M.zero = Fi w := by simp [List.getD, h]
structure CS (W wr : World) (cb n k B lg lc sg sc eg ec bg pg fg : Nat) (mb nn : Nat → Nat) (rv : Nat → Value) (P : List Pr) (L S : List Nat) (Le : List Int) (Fi : Nat → M) (N : Nat) : Prop where
  X : CX wr cb n k (B : Int) lg lc sg sc eg ec bg pg fg mb nn rv (besd P) (cv P L) Fi
  l : OwI wr lg lc (ints L)
  s : OwI wr sg sc (ints S)
  e : OwI wr eg ec Le
  st : St cb n k lg sg eg bg pg fg mb rv
  Ln : L.length = n
  Sn : S.length = k
  En : Le.length = k
  ct : ∀ y, S.getD y 0 = L.count y
  fs : FsL P L k B (fun y => Le.getD y 0) ((List.range n).map Fi)
  nb : ∀ v, v < n → nn v ≤ N
  lo : W.heap.size ≤ lg ∧ W.heap.size ≤ sg ∧ W.heap.size ≤ eg ∧ W.heap.size ≤ fg ∧ ∀ v, v < n → W.heap.size ≤ mb v
  bel : Below W.heap.size W wr
theorem CS.on {W wr wr' : World} {cb n k B lg lc sg sc eg ec bg pg fg : Nat} {mb nn : Nat → Nat} {rv : Nat → Value} {P : List Pr} {L S : List Nat} {Le : List Int} {Fi : Nat → M} {N : Nat} (h : CS W wr cb n k B lg lc sg sc eg ec bg pg fg mb nn rv P L S Le Fi N) (hb : Below wr.heap.size wr wr') : CS W wr' cb n k B lg lc sg sc eg ec bg pg fg mb nn rv P L S Le Fi N :=
  ⟨h.X.on hb, h.l.on hb, h.s.on hb, h.e.on hb, h.st, h.Ln, h.Sn, h.En, h.ct, h.fs, h.nb, h.lo, h.bel.trans (hb.mono h.bel.size)⟩
theorem getD_setI {l : List Int} {k j : Nat} {x : Int} (hk : k < l.length) : (l.set k x).getD j 0 = if j = k then x else l.getD j 0 := by
  unfold List.getD
  by_cases e : j = k
  · subst e
    rw [if_pos rfl, List.getElem?_set_self hk]
    rfl
  · rw [if_neg e, List.getElem?_set_ne (fun q => e q.symm)]
theorem CS.carry {W wr : World} {cb n k B lg lc sg sc eg ec bg pg fg : Nat} {mb nn : Nat → Nat} {rv : Nat → Value} {P : List Pr} {L S : List Nat} {Le : List Int} {Fi : Nat → M} {N : Nat} {m : M} (h : CS W wr cb n k B lg lc sg sc eg ec bg pg fg mb nn rv P L S Le Fi N) (hP : PIn P n) (hd : ∀ p, p ∈ P → p.a ≠ p.b) (hPl : P.length ≤ 8192) (hm : pickM ((List.range n).map Fi) ((List.range n).map Fi).length = m) (hg : 0 < m.g) (hN : N + 16384 < maxLen) :
    Calls Try.prog 35 #[.pointer (some ⟨cb, 0, none⟩), m.val] wr fun e w' => e = .returned (.tuple #[]) ∧ ∃ (nn' : Nat → Nat) (S' : List Nat) (Le' : List Int) (Fi' : Nat → M), CS W w' cb n k B lg lc sg sc eg ec bg pg fg mb nn' rv P (L.set m.v m.l) S' Le' Fi' (N + 16384) := by
  have hPL : PIn P L.length := by rw [h.Ln]; exact hP
  obtain ⟨f, hnx, hf1, hf2, hlk, hgn⟩ := h.fs.next hPL (by rw [hm]; exact hg)
  rw [hm] at hnx hf1 hf2 hlk hgn
  have hv : m.v < L.length := hnx.1.1
  have hvn : m.v < n := by rw [← h.Ln]; exact hv
  have hgv : (cv P L m.v m.l : Int) - (cv P L m.v (L.getD m.v 0) : Int) = m.g := by
    rw [hgn]
    unfold gn
    rw [hf1]
  have hne : m.l ≠ L.getD m.v 0 := fun e => by rw [e] at hgv; omega
  have hpos : 0 < cv P L m.v m.l := by omega
  have cle : ∀ y, L.count y ≤ 1024 := fun y => Nat.le_trans List.count_le_length (by rw [h.Ln]; exact h.st.n2)
  have hlab := h.fs.lab
  obtain ⟨mv, ml, mg⟩ := m
  simp only at *
  have cs := count_set_at hv hne
  have hmv := mv_cv hv hne hd
  refine (carryOut_any cb n k (B : Int) lg lc sg sc eg ec bg pg fg mb nn rv (besd P) (cv P L) Fi L S Le mv ml N (L.getD mv 0) mg wr h.X h.l h.s h.e h.st h.Ln h.Sn h.En (fun v hv => hlab v (by rw [h.Ln]; exact hv)) hvn hlk rfl hne (by rw [h.ct]; omega) (fun y => by rw [h.ct]; exact cle y) (fun u hu => besd_in hP hu) (Nat.le_trans (besd_len P mv) hPl) (fun u => by rw [besd_count P hd]; exact nb_le P L mv u) (fun t y => Nat.le_trans (cv_le P L t y) (by omega)) h.nb hN).mono ?_
  rintro e w' ⟨rfl, nn', Fi', r, hr, hX, hl, hs, he, hnb, hag, hfr⟩
  rw [hmv] at hX hag
  have hfk : L.getD mv 0 < k := hlab mv hv
  have ct' : ∀ y, ((S.set (L.getD mv 0) (S.getD (L.getD mv 0) 0 - 1)).set ml (S.getD ml 0 + 1)).getD y 0 = (L.set mv ml).count y := fun y => by
    rw [getD_setN' (by rw [List.length_set, h.Sn]; exact hlk)]
    by_cases c1 : y = ml
    · rw [if_pos c1, c1, cs.1, h.ct]
    · rw [if_neg c1, getD_setN' (by rw [h.Sn]; exact hfk)]
      by_cases c2 : y = L.getD mv 0
      · rw [if_pos c2, h.ct, c2]
        omega
      · rw [if_neg c2, h.ct, count_set_far hv c1 c2]
  have le' : ∀ y, y < k → LstAt (fun u => (L.set mv ml).getD u 0) L.length y (((Le.set (L.getD mv 0) r).set ml (min (Le.getD ml 0) mv)).getD y 0) := fun y hy => by
    rw [getD_setI (by rw [List.length_set, h.En]; exact hlk)]
    by_cases c1 : y = ml
    · rw [if_pos c1, c1]
      have q := h.fs.le ml hlk
      have hf2' : Le.getD ml 0 = (f : Int) := hf2
      obtain ⟨u, e1, e2, e3, e4⟩ := q.some (by rw [hf2']; omega)
      have e1' : Le.getD ml 0 = (u : Int) := e1
      have e3' : L.getD u 0 = ml := e3
      rw [e1']
      refine ⟨fun c => by omega, fun _ => ?_⟩
      by_cases c : u ≤ mv
      · refine ⟨u, by omega, e2, ?_, fun z hz => ?_⟩
        · show (L.set mv ml).getD u 0 = ml
          rw [getD_setN' hv]
          by_cases c3 : u = mv
          · rw [if_pos c3]
          · rw [if_neg c3]; exact e3'
        · show (L.set mv ml).getD z 0 ≠ ml
          rw [getD_setN' hv, if_neg (by omega)]
          exact e4 z hz
      · refine ⟨mv, by omega, hv, ?_, fun z hz => ?_⟩
        · show (L.set mv ml).getD mv 0 = ml
          rw [getD_setN' hv, if_pos rfl]
        · show (L.set mv ml).getD z 0 ≠ ml
          rw [getD_setN' hv, if_neg (by omega)]
          exact e4 z (by omega)
    · rw [if_neg c1, getD_setI (by rw [h.En]; exact hfk)]
      by_cases c2 : y = L.getD mv 0
      · rw [if_pos c2, c2, h.Ln]
        exact hr
      · rw [if_neg c2]
        have q := h.fs.le y hy
        have far : ∀ u, u < L.length → ((L.set mv ml).getD u 0 = y ↔ L.getD u 0 = y) := fun u hu => by
          rw [getD_setN' hv]
          by_cases c3 : u = mv
          · rw [if_pos c3, c3]
            exact ⟨fun e => absurd e.symm c1, fun e => absurd e.symm c2⟩
          · rw [if_neg c3]
        refine ⟨fun c u hu e => q.none c u hu ((far u hu).1 e), fun c => ?_⟩
        obtain ⟨u, e1, e2, e3, e4⟩ := q.some c
        exact ⟨u, e1, e2, (far u e2).2 e3, fun z hz e => e4 z hz ((far z (by omega)).1 e)⟩
  have hct : (fun y => ((S.set (L.getD mv 0) (S.getD (L.getD mv 0) 0 - 1)).set ml (S.getD ml 0 + 1)).getD y 0) = fun y => (L.set mv ml).count y := funext ct'
  rw [hct] at hag
  refine ⟨rfl, nn', _, _, Fi', hX, hl, hs, he, h.st, by rw [List.length_set]; exact h.Ln, by rw [List.length_set, List.length_set]; exact h.Sn, by rw [List.length_set, List.length_set]; exact h.En, ct', ?_, hnb, h.lo, ?_⟩
  · refine h.fs.step hd hv hne hlk hpos le' (by rw [List.length_map, List.length_range, h.Ln]) (fun w hw => ?_)
    have hwn : w < n := by rw [← h.Ln]; exact hw
    rw [range_getD n Fi' hwn, range_getD n Fi hwn]
    exact hag w hwn
  · refine h.bel.trans (hfr.below h.bel.size (fun b hb => ?_))
    rcases hb with q | q | q | q | ⟨v, hv, q⟩
    · rw [q]; exact h.lo.1
    · rw [q]; exact h.lo.2.1
    · rw [q]; exact h.lo.2.2.1
    · rw [q]; exact h.lo.2.2.2.1
    · rw [q]; exact h.lo.2.2.2.2 v hv
end Go.Proofs.Ytgpaoiddjlpcmaa
namespace Go.Proofs.Ytgpaoiddjlpcmaa
open Go.RowKit Go.Maps
/-- The greatest of the first numbers. -/
def mxL (S : List Nat) : Nat → Nat
  | 0 => S.getD 0 0
  | k + 1 => max (mxL S k) (S.getD (k + 1) 0)
theorem mxL_le (S : List Nat) : ∀ k j, j ≤ k → S.getD j 0 ≤ mxL S k
  | 0, j, h => by
    obtain rfl : j = 0 := by omega
    exact Nat.le_refl _
  | k + 1, j, h => by
    show _ ≤ max (mxL S k) (S.getD (k + 1) 0)
    by_cases e : j = k + 1
    · subst e; omega
    · have := mxL_le S k j (by omega); omega
theorem mxL_at (S : List Nat) : ∀ k, ∃ j, j ≤ k ∧ mxL S k = S.getD j 0
  | 0 => ⟨0, Nat.le_refl _, rfl⟩
  | k + 1 => by
    obtain ⟨j, hj, e⟩ := mxL_at S k
    show ∃ j, _ ∧ max (mxL S k) (S.getD (k + 1) 0) = _
    by_cases h : mxL S k ≤ S.getD (k + 1) 0
    · exact ⟨k + 1, Nat.le_refl _, Nat.max_eq_right h⟩
    · exact ⟨j, by omega, by rw [Nat.max_eq_left (by omega)]; exact e⟩
set_option maxRecDepth 100000 in
set_option maxHeartbeats 1600000 in
theorem max_any (b : Option Addr) (S : List Nat) (bc : Nat) (w : World) (hn : 0 < S.length) (hS : S.length ≤ 1024) (hi : Ints w b (ints S)) :
    Calls Try.prog 45 #[.slice b S.length bc] w fun e w' => e = .returned (.int .i64 ((mxL S (S.length - 1) : Nat) : Int)) ∧ Below w.heap.size w w' := by
  obtain ⟨ix, ox, hix⟩ := hi.get
  obtain ⟨rfl, hbl, hat⟩ := hix (by rw [ints_len]; exact hn)
  have HAT : Hid (∀ j, j < S.length → w.cell? ⟨ix, ox + j, none⟩ = some (.int .i64 ((S.getD j 0 : Nat) : Int))) := fun j hj => by rw [← ints_getD hj]; exact hat j (by rw [ints_len]; exact hj)
  have y0 := HAT.out 0 hn
  rw [Nat.add_zero] at y0
  have HX0 : Hid (mxL S 0 = S.getD 0 0) := rfl
  obtain ⟨m0, HM0⟩ := named (S.getD 0 0)
  rw [HM0.out] at y0 HX0
  have hn' : ¬ (S.length : Int) < 1 := by omega
  have hn2 : (0 : Int) < S.length := by omega
  obtain ⟨R, HR⟩ := named (mxL S (S.length - 1))
  rw [HR.out]
  clear hix hat hi
  go_enter Try.func45, Try.ntmps45
  go_wp2_with fail
  clear y0
  go_loopw [3, 4] (fun s3 i wr => ∃ k m : Nat, k < S.length ∧ s3 = .int .i64 m ∧ i = .int .i64 ((k : Int) + 1) ∧ Hid (mxL S k = m) ∧ Hid (wr = w)) (fun _ i _ => S.length - (intOf i).toNat)
  case atStart => exact ⟨0, m0, hn, rfl, rfl, HX0, rfl⟩
  case round =>
    obtain ⟨k, m, hk, rfl, rfl, HM, HW⟩ := hrel
    by_cases hlk : k + 1 < S.length
    · have hlk' : (k : Int) + 1 < S.length := by omega
      have y0 := HAT.out (k + 1) hlk
      have HNX : Hid (mxL S (k + 1) = max m (S.getD (k + 1) 0)) := by show _ = _; rw [← HM.out]; rfl
      obtain ⟨x, HX⟩ := named (S.getD (k + 1) 0)
      rw [HX.out] at y0 HNX
      rw [← HW.out] at y0
      have e1 : ((k : Int) + 1).toNat = k + 1 := by omega
      have e2 : (0 : Int) ≤ (k : Int) + 1 := by omega
      go_wp2_with fail
      exact ⟨⟨k + 1, max m x, hlk, by congr 1; omega, by simp, HNX, HW⟩, by simp [intOf]; omega⟩
    · have hlk' : ¬ (k : Int) + 1 < S.length := by omega
      obtain rfl : R = m := by rw [← HR.out, ← HM.out]; congr 1; omega
      go_wp2_with fail
      go_ret
      refine ⟨rfl, ?_⟩
      rw [HW.out]
      exact Below.refl _ _
/-- The cells under a bound. -/
def Under (W wr : World) (cb n : Nat) (L : List Nat) (P : List Pr) (B : Nat) : Prop := ∃ (k lg lc sg sc eg ec bg pg fg : Nat) (mb nn : Nat → Nat) (rv : Nat → Value) (S : List Nat) (Le : List Int) (Fi : Nat → M), CS W wr cb n k B lg lc sg sc eg ec bg pg fg mb nn rv P L S Le Fi (2 * P.length)
/-- What lookUnder tells. -/
def luE (N : Int) (l : List A) (xs : List Int) (bd : Int) : Int := if cntE N l xs ≠ 0 then cntE N l xs else if bd < 1 ∨ 1024 < bd then 1 else if bd < ((mxL (szL xs) ((szL xs).length - 1) : Nat) : Int) then 90 else 0
/-- The bound is set. -/
theorem CQ.under {W wr : World} {cb n k lg lc sg sc eg ec bg pg fg : Nat} {mb nn : Nat → Nat} {rv : Nat → Value} {P : List Pr} {L S : List Nat} {Le : List Int} (h : CQ W wr cb n k lg lc sg sc eg ec bg pg fg mb nn rv (besd P) (cv P L) L S Le (2 * P.length)) (hlp : LP L n n S Le) (hk : S.length = k) (hls : lg ≠ sg) (hle : lg ≠ eg) (hse : sg ≠ eg) (Ln : L.length = n) (n0 : 0 < n) (n2 : n ≤ 1024) (hPl : P.length ≤ 8192) (htd : tdy (ints L) 0 = true) (B : Nat) :
    Calls Try.prog 46 #[.pointer (some ⟨cb, 0, none⟩), .int .i64 (B : Int)] wr fun e w' => e = .returned (.tuple #[]) ∧ Under W w' cb n L P B := by
  have k2 : k ≤ 1024 := by have := hlp.lj; omega
  have k0 : 0 < k := by have := hlp.lv 0 n0; omega
  have En : Le.length = k := by rw [hlp.ll, hk]
  have st := St.of h.X h.l h.s h.e n2 k0 k2 hls hle hse h.ra h.mj
  have hcv := h.X.cv h.l h.s h.e Ln hk En k0 k2 (fun v hv => by rw [← hk]; exact hlp.lv v hv) (fun v y => by have := h.fb v y; omega)
  refine (setBound_any cb n k 0 (B : Int) lg lc sg sc eg ec bg n pg n fg n _ _ _ mb nn _ _ wr hcv h.X.ob (st.apt h.X.cp) h.X.ft n2).mono ?_
  rintro e w' ⟨Fi', rfl, hcv', hob', hft', hfst, hfr⟩
  have hS : szL (ints L) = S := by
    have q := hlp.s
    rw [List.take_of_length_le (by rw [ints_len]; omega)] at q
    exact q
  have ct : ∀ y, S.getD y 0 = L.count y := fun y => by rw [← hS]; exact sz_cnt htd y
  have hct : (fun y => S.getD y 0) = fun y => L.count y := funext ct
  rw [hct] at hfst
  have o2 : wr.heap[bg]? = _ := h.X.be
  have bc : bg ≠ cb := fun e => by have o1 := h.X.ob; rw [e, o1] at o2; injection o2 with o2; unfold cellsO at o2; injection o2 with _ o2 _; cases o2
  refine ⟨rfl, k, lg, lc, sg, sc, eg, ec, bg, pg, fg, mb, nn, rv, S, Le, Fi', ⟨hob', h.X.be.fr hfr (fun q => q.elim bc st.fb.symm), fun v hv => own_fr (h.X.ro v hv) hfr (fun g e q => ?_), h.X.pa.fr hfr (fun q => q.elim h.X.cp st.fp.symm), hcv'.mi, hft'⟩, h.l.fr hfr (fun q => q.elim st.fl.1 st.fl.2.2.2.1), h.s.fr hfr (fun q => q.elim st.fs.1 st.fs.2.2.2.1), h.e.fr hfr (fun q => q.elim st.fe.1 st.fe.2.2.2.1), st, Ln, hk, En, ct, ⟨by rw [List.length_map, List.length_range, Ln], fun v hv => by rw [← hk]; exact hlp.lv v (by omega), fun y hy => by rw [Ln]; exact hlp.le y (by omega), fun v hv => ?_⟩, h.nb, ⟨h.lo.2.1, h.lo.2.2.1, h.lo.2.2.2.1, h.lo.2.2.2.2, h.ml⟩, ?_⟩
  · rcases q with q | q
    · exact own_ne (h.X.ro v hv) h.X.ob (fun cs fz e => by unfold cellsO at e; injection e with _ e _; cases e) (by rw [e, q])
    · exact st.fr v hv (by rw [e, q])
  · rw [range_getD n Fi' (by omega)]
    exact hfst v (by omega)
  · refine h.bel.trans (hfr.below h.bel.size (fun b hb => ?_))
    rcases hb with q | q
    · rw [q]; exact h.lo.1
    · rw [q]; exact h.lo.2.2.2.2
set_option maxRecDepth 100000 in
set_option maxHeartbeats 1600000 in
theorem lookUnder_any (N : Int) (a : Option Addr) (l : List A) (cap : Nat) (b : Option Addr) (xs : List Int) (bc : Nat) (bd : Int) (w : World) (hl : l.length ≤ 9223372036854775807) (hx : xs.length ≤ 9223372036854775807) (hr : Arcs w a l) (hi : Ints w b xs) :
    Calls Try.prog 30 #[.agg #[.int .i64 N, .slice a l.length cap], .slice b xs.length bc, .int .i64 bd] w fun e w' => ∃ pv : Value, e = .returned (.tuple #[pv, .int .i64 (luE N l xs bd)]) ∧ Below w.heap.size w w' ∧ Hid (luE N l xs bd = 0 → ∃ (cb : Nat) (L : List Nat) (B : Nat), pv = .pointer (some ⟨cb, 0, none⟩) ∧ xs = ints L ∧ N = (L.length : Int) ∧ bd = (B : Int) ∧ chkE N l = 0 ∧ tdy (ints L) 0 = true ∧ Under w w' cb L.length L (prl l) B) := by
  have hb0 : Below w.heap.size w (w.alloc (.cells #[.int .i64 N, .slice a l.length cap] 24)) := (Below.refl _ _).alloc (Nat.le_refl _) _
  have hg := heap_top w (.cells #[.int .i64 N, .slice a l.length cap] 24)
  have HB0 := Lib.hid hb0
  have hwz : w.heap.size ≤ (w.alloc (.cells #[.int .i64 N, .slice a l.length cap] 24)).heap.size := hb0.size
  have HCK := Lib.hid (look_any N a l cap b xs bc (w.alloc (.cells #[.int .i64 N, .slice a l.length cap] 24)) hl hx (hr.on hb0) (hi.on hb0))
  obtain ⟨E, HE⟩ := named (cntE N l xs)
  obtain ⟨V, HV⟩ := named (luE N l xs bd)
  rw [HE.out] at HCK
  rw [HV.out]
  obtain ⟨⟨c0, c1⟩, _⟩ := two_cells hg
  clear hb0 hr hi hl hx
  generalize hp : w.heap.size = p at *
  go_enter Try.func30, Try.ntmps30
  go_wp2_with fail
  generalize hW : w.alloc (.cells #[.int .i64 N, .slice a l.length cap] 24) = W at *
  clear hW
  refine HCK.out.mono ?_
  rintro e w1 ⟨pv, rfl, hb1, HQ, HQ0⟩
  have HB1 : Hid (Below p w w1) := HB0.out.trans (hb1.mono hwz)
  clear hb1 HCK c0 c1 hg
  by_cases hE : E ≠ 0
  · have e1 : (E != 0) = true := by simpa using hE
    obtain rfl : V = E := by rw [← HV.out]; unfold luE; rw [HE.out, if_pos hE]
    go_wp2_with fail
    refine bodyPost_ret (v := .tuple #[.pointer none, .int .i64 V]) (by simp [results, Try.results30, go_sem]) rfl ?_
    exact ⟨_, rfl, HB1.out, fun h => absurd h hE⟩
  have hE0 : E = 0 := by simpa using hE
  have e1 : (E != 0) = false := by simpa using hE0
  have HE0 := Lib.hid hE0
  clear hE hE0
  have HV2 : Hid ((if bd < 1 ∨ 1024 < bd then 1 else if bd < ((mxL (szL xs) ((szL xs).length - 1) : Nat) : Int) then 90 else 0) = V) := by
    show _ = V
    rw [← HV.out]
    unfold luE
    rw [HE.out, HE0.out, if_neg (show ¬ ((0 : Int) ≠ 0) by simp)]
  obtain ⟨cb, L, rfl, hxL, hNl, hLk⟩ := HQ.out HE0.out
  have HXL := Lib.hid hxL
  have HLK := Lib.hid hLk
  have HNL := Lib.hid hNl
  clear hxL hLk HQ HQ0 hNl
  by_cases h1 : bd < 1
  · have HVV : Hid (V = 1) := by show V = 1; rw [← HV2.out, if_pos (.inl h1)]
    go_wp2_with fail
    refine bodyPost_ret (v := .tuple #[.pointer none, .int .i64 1]) (by simp [results, Try.results30, go_sem]) rfl ?_
    exact ⟨_, by rw [HVV.out], HB1.out, fun h => absurd (HVV.out.symm.trans h) (by decide)⟩
  by_cases h2 : 1024 < bd
  · have HVV : Hid (V = 1) := by show V = 1; rw [← HV2.out, if_pos (.inr h2)]
    go_wp2_with fail
    refine bodyPost_ret (v := .tuple #[.pointer none, .int .i64 1]) (by simp [results, Try.results30, go_sem]) rfl ?_
    exact ⟨_, by rw [HVV.out], HB1.out, fun h => absurd (HVV.out.symm.trans h) (by decide)⟩
  have HV3 : Hid ((if bd < ((mxL (szL xs) ((szL xs).length - 1) : Nat) : Int) then 90 else 0) = V) := by
    show _ = V
    rw [← HV2.out, if_neg (show ¬ (bd < 1 ∨ 1024 < bd) by omega)]
  have hz := HE.out
  rw [HE0.out] at hz
  unfold cntE at hz
  have hc0 : chkE N l = 0 := by
    by_cases c : chkE N l ≠ 0
    · rw [if_pos c] at hz; exact hz
    · simpa using c
  rw [if_neg (by simp [hc0])] at hz
  have hxt : ¬ ((xs.length : Int) ≠ N ∨ tdy xs 0 = false) := fun c => by rw [if_pos c] at hz; cases hz
  have htd : tdy (ints L) 0 = true := by cases q : tdy (ints L) 0 with
    | true => rfl
    | false => exact absurd (.inr (by rw [HXL.out]; exact q)) hxt
  obtain ⟨hN1, hN2, hll, _⟩ := chk_zero hc0
  have HC0 := Lib.hid hc0
  have HTD := Lib.hid htd
  clear hz hxt hc0 htd
  have hNl := HNL.out
  obtain ⟨k, lg, lc, sg, sc, eg, ec, bg, pg, fg, mb, nn, rv, S, Le, hq, hlp, hk, hls, hle, hse⟩ := HLK.out
  have hS : szL xs = S := by
    have q := hlp.s
    rw [List.take_of_length_le (by rw [ints_len]; exact Nat.le_refl _), ← HXL.out] at q
    exact q
  have k0 : 0 < S.length := by have := hlp.lv 0 (by omega); omega
  have k2 : S.length ≤ 1024 := by have := hlp.lj; omega
  have c2 : w1.cell? ⟨cb, 2, none⟩ = some (.slice (some ⟨sg, 0, none⟩) S.length sc) := by rw [hk]; simp [World.cell?, hq.X.ob, cellsO]
  have HMX := Lib.hid (max_any (some ⟨sg, 0, none⟩) S sc w1 k0 k2 (own_ints (by have q := hq.s; unfold OwI at q; rw [ints_len] at q; exact q) rfl))
  obtain ⟨mx, HMM⟩ := named (mxL S (S.length - 1))
  rw [HMM.out] at HMX
  rw [hS, HMM.out] at HV3
  obtain ⟨B, HB⟩ : ∃ B : Nat, Hid (bd = (B : Int)) := ⟨bd.toNat, by show bd = _; omega⟩
  have HQQ := Lib.hid (hq.base (by rw [hp]; exact HB0.out))
  have HLP := Lib.hid hlp
  have HW := Lib.hid HV3.out
  have hmx : Hid (S.length = k) := hk
  have hL0 : 0 < L.length ∧ L.length ≤ 1024 := by omega
  clear hq hlp hS HLK k0 k2 hk hNl
  go_wp2_with fail
  refine HMX.out.mono ?_
  rintro e w2 ⟨rfl, hb2⟩
  have HQ2 := Lib.hid (HQQ.out.on hb2)
  have HB2 : Hid (Below p w w2) := HB1.out.trans (hb2.mono (by rw [← hp]; exact HB1.out.size))
  clear hb2 c2
  by_cases h3 : bd < (mx : Int)
  · have HVV : Hid (V = 90) := by show V = 90; rw [← HV3.out, if_pos h3]
    go_wp2_with fail
    refine bodyPost_ret (v := .tuple #[.pointer none, .int .i64 90]) (by simp [results, Try.results30, go_sem]) rfl ?_
    exact ⟨_, by rw [HVV.out], HB2.out, fun h => absurd (HVV.out.symm.trans h) (by decide)⟩
  · have HVV : Hid (V = 0) := by show V = 0; rw [← HV3.out, if_neg h3]
    have HSB := Lib.hid (HQ2.out.under HLP.out hmx.out hls hle hse rfl hL0.1 hL0.2 (Nat.le_trans (prl_len l) hll) HTD.out B)
    have HBB := HB.out
    rw [← HBB] at HSB
    clear HBB
    go_wp2_with fail
    refine HSB.out.mono ?_
    rintro e w3 ⟨rfl, hu⟩
    have HU := Lib.hid hu
    have HB3 : Hid (Below p w w3) := by
      obtain ⟨_, _, _, _, _, _, _, _, _, _, _, _, _, _, _, _, q⟩ := hu
      rw [← hp]
      exact q.bel
    clear hu
    go_wp2_with fail
    refine bodyPost_ret (v := .tuple #[.pointer (some ⟨cb, 0, none⟩), .int .i64 0]) (by simp [results, Try.results30, go_sem]) rfl ?_
    exact ⟨_, by rw [HVV.out], HB3.out, fun _ => ⟨cb, L, B, rfl, HXL.out, HNL.out, HB.out, HC0.out, HTD.out, HU.out⟩⟩
end Go.Proofs.Ytgpaoiddjlpcmaa
namespace Go.Proofs.Ytgpaoiddjlpcmaa
open Go.RowKit Go.Maps
theorem CS.nextC {W wr : World} {cb n k B lg lc sg sc eg ec bg pg fg : Nat} {mb nn : Nat → Nat} {rv : Nat → Value} {P : List Pr} {L S : List Nat} {Le : List Int} {Fi : Nat → M} {N : Nat} (h : CS W wr cb n k B lg lc sg sc eg ec bg pg fg mb nn rv P L S Le Fi N) :
    Calls Try.prog 31 #[.pointer (some ⟨cb, 0, none⟩)] wr fun e w' => e = .returned (.tuple #[(pickM ((List.range n).map Fi) ((List.range n).map Fi).length).val, .bool (decide (0 < (pickM ((List.range n).map Fi) ((List.range n).map Fi).length).g))]) ∧ Below wr.heap.size wr w' := by
  have hlen : ((List.range n).map Fi).length = n := by rw [List.length_map, List.length_range]
  refine next_any cb fg n ((List.range n).map Fi) wr (by rw [hlen]; have := h.st.n2; omega) ?_ (lt_of_block h.X.ob) (TbV.lt h.X.ft) (fun j hj => ?_)
  · rw [hlen]; exact cellsO_c6 h.X.ob
  · rw [hlen] at hj
    rw [range_getD n Fi hj]
    exact h.X.ft.at hj
/-- A move is chosen, or none is open. -/
def NxM (P : List Pr) (L : List Nat) (B : Nat) (v x : Nat) (some : Bool) : Prop := (some = true ∧ ∃ f, Nxt P L B v f ∧ L.getD f 0 = x) ∨ (some = false ∧ v = 0 ∧ x = 0 ∧ ∀ v f, ¬ Open P L B v f)
theorem CS.nxm {W wr : World} {cb n k B lg lc sg sc eg ec bg pg fg : Nat} {mb nn : Nat → Nat} {rv : Nat → Value} {P : List Pr} {L S : List Nat} {Le : List Int} {Fi : Nat → M} {N : Nat} (h : CS W wr cb n k B lg lc sg sc eg ec bg pg fg mb nn rv P L S Le Fi N) (hP : PIn P L.length) {m : M} (hm : pickM ((List.range n).map Fi) ((List.range n).map Fi).length = m) : NxM P L B m.v m.l (decide (0 < m.g)) := by
  by_cases hg : 0 < m.g
  · obtain ⟨f, h1, h2, _⟩ := h.fs.next hP (by rw [hm]; exact hg)
    rw [hm] at h1 h2
    exact .inl ⟨decide_eq_true hg, f, h1, h2⟩
  · have hs := h.fs.stop (by rw [hm]; exact hg)
    have hz : m = M.zero := by
      rcases pickM_spec ((List.range n).map Fi) ((List.range n).map Fi).length with ⟨q, _⟩ | ⟨q, _⟩
      · rw [← hm]; exact q
      · rw [hm] at q; exact absurd q hg
    refine .inr ⟨decide_eq_false hg, ?_, ?_, hs⟩
    · rw [hz]; rfl
    · rw [hz]; rfl
theorem prl_PIn {N : Int} {l : List A} {L : List Nat} (hc : chkE N l = 0) (hN : N = (L.length : Int)) : PIn (prl l) L.length := fun p hp => by
  obtain ⟨_, _, _, hoa⟩ := chk_zero hc
  exact prl_lt (n := L.length) (by rw [← hN]; exact hoa) hp
theorem prl_ne {N : Int} {l : List A} (hc : chkE N l = 0) : ∀ p, p ∈ prl l → p.a ≠ p.b := fun p hp => by
  obtain ⟨_, _, _, hoa⟩ := chk_zero hc
  have := ((prl_mem (fun x hx => ⟨(hoa x hx).1.1, (hoa x hx).2.1⟩)).1 hp).1
  omega
set_option maxRecDepth 100000 in
set_option maxHeartbeats 1600000 in
theorem next_top (N : Int) (a : Option Addr) (l : List A) (cap : Nat) (b : Option Addr) (xs : List Int) (bc : Nat) (bd : Int) (w : World) (hl : l.length ≤ 9223372036854775807) (hx : xs.length ≤ 9223372036854775807) (hr : Arcs w a l) (hi : Ints w b xs) :
    Calls Try.prog 14 #[.agg #[.int .i64 N, .slice a l.length cap], .slice b xs.length bc, .int .i64 bd] w fun e w' => ∃ (v x : Nat) (so : Bool), e = .returned (.tuple #[.int .i64 (v : Int), .int .i64 (x : Int), .bool so, .int .i64 (luE N l xs bd)]) ∧ Below w.heap.size w w' ∧ Hid (luE N l xs bd = 0 → ∃ (L : List Nat) (B : Nat), xs = ints L ∧ N = (L.length : Int) ∧ bd = (B : Int) ∧ chkE N l = 0 ∧ tdy (ints L) 0 = true ∧ NxM (prl l) L B v x so) ∧ Hid (luE N l xs bd ≠ 0 → v = 0 ∧ x = 0 ∧ so = false) := by
  have hb0 : Below w.heap.size w (w.alloc (.cells #[.int .i64 N, .slice a l.length cap] 24)) := (Below.refl _ _).alloc (Nat.le_refl _) _
  have hg := heap_top w (.cells #[.int .i64 N, .slice a l.length cap] 24)
  have HB0 := Lib.hid hb0
  have hwz : w.heap.size ≤ (w.alloc (.cells #[.int .i64 N, .slice a l.length cap] 24)).heap.size := hb0.size
  have HCK := Lib.hid (lookUnder_any N a l cap b xs bc bd (w.alloc (.cells #[.int .i64 N, .slice a l.length cap] 24)) hl hx (hr.on hb0) (hi.on hb0))
  obtain ⟨V, HV⟩ := named (luE N l xs bd)
  rw [HV.out] at HCK ⊢
  obtain ⟨⟨c0, c1⟩, _⟩ := two_cells hg
  clear hb0 hr hi hl hx
  generalize hp : w.heap.size = p at *
  go_enter Try.func14, Try.ntmps14
  go_wp2_with fail
  generalize hW : w.alloc (.cells #[.int .i64 N, .slice a l.length cap] 24) = W at *
  clear hW
  refine HCK.out.mono ?_
  rintro e w1 ⟨pv, rfl, hb1, HQ⟩
  have HB1 : Hid (Below p w w1) := HB0.out.trans (hb1.mono hwz)
  have hz1 : p ≤ w1.heap.size := by rw [← hp]; exact (show Below w.heap.size w w1 by rw [hp]; exact HB1.out).size
  clear hb1 HCK c0 c1 hg
  by_cases hE : V ≠ 0
  · have e1 : (V != 0) = true := by simpa using hE
    go_wp2_with fail
    refine bodyPost_ret (v := .tuple #[.int .i64 0, .int .i64 0, .bool false, .int .i64 V]) (by simp [results, Try.results14, go_sem]) rfl ?_
    exact ⟨0, 0, false, rfl, HB1.out, fun h => absurd h hE, fun _ => ⟨rfl, rfl, rfl⟩⟩
  have hE0 : V = 0 := by simpa using hE
  have e1 : (V != 0) = false := by simpa using hE0
  have HE0 := Lib.hid hE0
  clear hE hE0
  obtain ⟨cb, L, B, rfl, hxL, hNl, hbB, hc0, htd, hU⟩ := HQ.out HE0.out
  obtain ⟨k, lg, lc, sg, sc, eg, ec, bg, pg, fg, mb, nn, rv, S, Le, Fi, hcs⟩ := hU
  have HCN := Lib.hid hcs.nextC
  obtain ⟨m, HM⟩ := named (pickM ((List.range L.length).map Fi) ((List.range L.length).map Fi).length)
  rw [HM.out] at HCN
  have HNM := Lib.hid (hcs.nxm (prl_PIn hc0 hNl) HM.out)
  have HX := Lib.hid hxL
  have HNL := Lib.hid hNl
  have HBB := Lib.hid hbB
  have HC0 := Lib.hid hc0
  have HTD := Lib.hid htd
  clear hxL hNl hbB hc0 htd hcs HQ HM
  obtain ⟨mv, ml, mg⟩ := m
  have HVV : Hid ((⟨mv, ml, mg⟩ : M).val = .agg #[.int .i64 (mv : Int), .int .i64 (ml : Int), .int .i64 mg]) := rfl
  rw [HVV.out] at HCN
  simp only at HNM HCN
  obtain ⟨so, HSO⟩ := named (decide (0 < mg))
  rw [HSO.out] at HNM HCN
  clear HSO HVV
  go_wp2_with fail
  refine HCN.out.mono ?_
  rintro e w2 ⟨rfl, hb2⟩
  have HB2 : Hid (Below p w w2) := HB1.out.trans (hb2.mono hz1)
  have hz2 : p ≤ w2.heap.size := Nat.le_trans hz1 hb2.size
  have hg3 := heap_top w2 (.cells #[.int .i64 (mv : Int), .int .i64 (ml : Int), .int .i64 mg] 65)
  obtain ⟨m0, m1, m2⟩ := three_cells hg3
  have HB3 : Hid (Below p w (w2.alloc (.cells #[.int .i64 (mv : Int), .int .i64 (ml : Int), .int .i64 mg] 65))) := HB2.out.alloc hz2 _
  clear hb2 HCN hg3
  go_wp2_with fail
  generalize hW : w2.alloc (.cells #[.int .i64 (mv : Int), .int .i64 (ml : Int), .int .i64 mg] 65) = W3 at *
  clear hW
  go_quiet (fail)
  go_wp2_with fail
  refine bodyPost_ret (v := .tuple #[.int .i64 (mv : Int), .int .i64 (ml : Int), .bool so, .int .i64 0]) (by simp [results, Try.results14, go_sem]) rfl ?_
  exact ⟨mv, ml, so, by rw [HE0.out], ⟨HB3.out.os, HB3.out.tape, HB3.out.output, HB3.out.size, HB3.out.block⟩, fun _ => ⟨L, B, HX.out, HNL.out, HBB.out, HC0.out, HTD.out, HNM.out⟩, fun h => absurd HE0.out h⟩
end Go.Proofs.Ytgpaoiddjlpcmaa
namespace Go.Proofs.Ytgpaoiddjlpcmaa
open Go.RowKit Go.Maps
/-- What Improve tells. -/
def imE (N : Int) (l : List A) (xs : List Int) (bd mo : Int) : Int := if luE N l xs bd ≠ 0 then luE N l xs bd else if mo < 0 ∨ 16384 < mo then 1 else 0
/-- What Improve comes to. -/
def ImR (N : Int) (l : List A) (xs : List Int) (bd mo : Int) (out : List Nat) (m : Nat) : Prop := ∃ (L : List Nat) (B : Nat) (E : List Nat), xs = ints L ∧ N = (L.length : Int) ∧ bd = (B : Int) ∧ chkE N l = 0 ∧ tdy (ints L) 0 = true ∧ Imp (prl l) B mo.toNat L E m ∧ out = tdL E
set_option maxRecDepth 100000 in
set_option maxHeartbeats 1600000 in
theorem improve_any (N : Int) (a : Option Addr) (l : List A) (cap : Nat) (b : Option Addr) (xs : List Int) (bc : Nat) (bd mo : Int) (w : World) (hl : l.length ≤ 9223372036854775807) (hx : xs.length ≤ 9223372036854775807) (hr : Arcs w a l) (hi : Ints w b xs) :
    Calls Try.prog 18 #[.agg #[.int .i64 N, .slice a l.length cap], .slice b xs.length bc, .int .i64 bd, .int .i64 mo] w fun e w' => ∃ (v : Option Addr) (c m : Nat) (out : List Nat), e = .returned (.tuple #[.slice v out.length c, .int .i64 (m : Int), .int .i64 (imE N l xs bd mo)]) ∧ w'.ownsRow w.heap.size 3 1 (.slice v out.length c) out.length (cellsI (ints out)) ∧ Below w.heap.size w w' ∧ Hid (imE N l xs bd mo = 0 → ImR N l xs bd mo out m) ∧ Hid (imE N l xs bd mo ≠ 0 → out = [] ∧ m = 0) := by
  have hb0 : Below w.heap.size w (w.alloc (.cells #[.int .i64 N, .slice a l.length cap] 24)) := (Below.refl _ _).alloc (Nat.le_refl _) _
  have hg := heap_top w (.cells #[.int .i64 N, .slice a l.length cap] 24)
  have HB0 := Lib.hid hb0
  have hwz : w.heap.size ≤ (w.alloc (.cells #[.int .i64 N, .slice a l.length cap] 24)).heap.size := hb0.size
  have HCK := Lib.hid (lookUnder_any N a l cap b xs bc bd (w.alloc (.cells #[.int .i64 N, .slice a l.length cap] 24)) hl hx (hr.on hb0) (hi.on hb0))
  obtain ⟨V, HV⟩ := named (luE N l xs bd)
  obtain ⟨I, HI⟩ := named (imE N l xs bd mo)
  rw [HV.out] at HCK
  rw [HI.out]
  obtain ⟨⟨c0, c1⟩, _⟩ := two_cells hg
  clear hb0 hr hi hl hx
  generalize hp : w.heap.size = p at *
  go_enter Try.func18, Try.ntmps18
  go_wp2_with fail
  generalize hW : w.alloc (.cells #[.int .i64 N, .slice a l.length cap] 24) = W at *
  clear hW
  refine HCK.out.mono ?_
  rintro e w1 ⟨pv, rfl, hb1, HQ⟩
  have HB1 : Hid (Below p w w1) := HB0.out.trans (hb1.mono hwz)
  have hz1 : p ≤ w1.heap.size := by rw [← hp]; exact (show Below w.heap.size w w1 by rw [hp]; exact HB1.out).size
  clear hb1 HCK c0 c1 hg
  by_cases hE : V ≠ 0
  · have e1 : (V != 0) = true := by simpa using hE
    have HIV : Hid (I = V) := by show I = V; rw [← HI.out]; unfold imE; rw [HV.out, if_pos hE]
    go_wp2_with fail
    refine bodyPost_ret (v := .tuple #[.slice none 0 0, .int .i64 0, .int .i64 V]) (by simp [results, Try.results18, go_sem]) rfl ?_
    exact ⟨none, 0, 0, [], by rw [HIV.out]; rfl, World.ownsRow_nil _ _ _ _, HB1.out, fun h => absurd (HIV.out.symm.trans h) hE, fun _ => ⟨rfl, rfl⟩⟩
  have hE0 : V = 0 := by simpa using hE
  have e1 : (V != 0) = false := by simpa using hE0
  have HE0 := Lib.hid hE0
  have HI2 : Hid ((if mo < 0 ∨ 16384 < mo then 1 else 0) = I) := by
    show _ = I
    rw [← HI.out]
    unfold imE
    rw [HV.out, hE0, if_neg (show ¬ ((0 : Int) ≠ 0) by simp)]
  clear hE hE0
  by_cases h1 : mo < 0
  · have HVV : Hid (I = 1) := by show I = 1; rw [← HI2.out, if_pos (.inl h1)]
    go_wp2_with fail
    refine bodyPost_ret (v := .tuple #[.slice none 0 0, .int .i64 0, .int .i64 1]) (by simp [results, Try.results18, go_sem]) rfl ?_
    exact ⟨none, 0, 0, [], by rw [HVV.out]; rfl, World.ownsRow_nil _ _ _ _, HB1.out, fun h => absurd (HVV.out.symm.trans h) (by decide), fun _ => ⟨rfl, rfl⟩⟩
  by_cases h2 : 16384 < mo
  · have HVV : Hid (I = 1) := by show I = 1; rw [← HI2.out, if_pos (.inr h2)]
    go_wp2_with fail
    refine bodyPost_ret (v := .tuple #[.slice none 0 0, .int .i64 0, .int .i64 1]) (by simp [results, Try.results18, go_sem]) rfl ?_
    exact ⟨none, 0, 0, [], by rw [HVV.out]; rfl, World.ownsRow_nil _ _ _ _, HB1.out, fun h => absurd (HVV.out.symm.trans h) (by decide), fun _ => ⟨rfl, rfl⟩⟩
  have HVV : Hid (I = 0) := by show I = 0; rw [← HI2.out, if_neg (by omega)]
  obtain ⟨cb, L, B, rfl, hxL, hNl, hbB, hc0, htd, hU⟩ := HQ.out HE0.out
  obtain ⟨k, lg, lc, sg, sc, eg, ec, bg, pg, fg, mb, nn, rv, S, Le, Fi, hcs⟩ := hU
  have HPI := Lib.hid (prl_PIn hc0 hNl)
  have HPN := Lib.hid (prl_ne hc0)
  have HPL : Hid ((prl l).length ≤ 8192) := Nat.le_trans (prl_len l) (chk_zero hc0).2.2.1
  have hLl : L.length ≤ 1024 := by have := chk_zero hc0; omega
  obtain ⟨P, HPP⟩ := named (prl l)
  have HR : Hid (∀ (E : List Nat) (m : Nat), Imp P B mo.toNat L E m → ImR N l xs bd mo (tdL E) m) := fun E m hi => ⟨L, B, E, hxL, hNl, hbB, hc0, htd, by rw [HPP.out]; exact hi, rfl⟩
  rw [HPP.out] at hcs HPI HPN HPL
  obtain ⟨M0, HM0⟩ : ∃ M0 : Nat, Hid (mo = (M0 : Int)) := ⟨mo.toNat, by show mo = _; omega⟩
  have hM0 : M0 ≤ 16384 := by have := HM0.out; omega
  have HTN : Hid (mo.toNat = M0) := by show mo.toNat = M0; have := HM0.out; omega
  rw [HTN.out] at HR
  have HCS := Lib.hid (hcs.on (Below.refl _ _))
  have HST : Hid (∀ (E : List Nat) (m : Nat), Imp P B (M0 - 0) L E m → Imp P B M0 L E (m + 0)) := fun E m h => h
  have HBW := Lib.hid HB0.out
  obtain ⟨nl, HNL⟩ := named L.length
  rw [HNL.out] at HCS HPI hLl
  have HLN := Lib.hid HNL.out
  clear hxL hNl hbB hc0 htd hcs HQ HPP
  have hm1 : mo = (M0 : Int) := HM0.out
  subst hm1
  clear h1 h2 HM0 HTN
  have h1 : ¬ (M0 : Int) < 0 := by omega
  have h2 : ¬ (16384 : Int) < M0 := by omega
  go_wp2_with fail
  go_loopw [9] (fun s9 wr => ∃ (t : Nat) (nn : Nat → Nat) (L' S : List Nat) (Le : List Int) (Fi : Nat → M), t ≤ M0 ∧ s9 = .int .i64 (t : Int) ∧ Hid (CS W wr cb nl k B lg lc sg sc eg ec bg pg fg mb nn rv P L' S Le Fi (2 * P.length + 16384 * t)) ∧ Hid (∀ (E : List Nat) (m : Nat), Imp P B (M0 - t) L' E m → Imp P B M0 L E (m + t))) (fun s9 _ => M0 - (intOf s9).toNat)
  case atStart => exact ⟨0, nn, L, S, Le, Fi, Nat.zero_le _, rfl, HCS, HST⟩
  case round =>
    clear HCS HST
    obtain ⟨t, nn, L', S, Le, Fi, ht, rfl, HCS, HST⟩ := hrel
    by_cases hlt : t < M0
    · have hlt' : (t : Int) < M0 := by omega
      have HCN := Lib.hid HCS.out.nextC
      obtain ⟨m, HM⟩ := named (pickM ((List.range nl).map Fi) ((List.range nl).map Fi).length)
      rw [HM.out] at HCN
      obtain ⟨mv, ml, mg⟩ := m
      have HVM : Hid ((⟨mv, ml, mg⟩ : M).val = .agg #[.int .i64 (mv : Int), .int .i64 (ml : Int), .int .i64 mg]) := rfl
      rw [HVM.out] at HCN
      simp only at HCN
      have HPX : Hid (PIn P L'.length) := by show PIn P L'.length; rw [HCS.out.Ln]; exact HPI.out
      by_cases hg : 0 < mg
      · obtain ⟨f, hnx, hfl, _⟩ := HCS.out.fs.next HPX.out (by rw [HM.out]; exact hg)
        rw [HM.out] at hnx hfl
        simp only at hnx hfl
        have HST2 : Hid (∀ (E : List Nat) (q : Nat), Imp P B (M0 - (t + 1)) (L'.set mv ml) E q → Imp P B M0 L E (q + (t + 1))) := fun E q h => by
          have e1 : M0 - t = (M0 - (t + 1)) + 1 := by omega
          have e2 := HST.out E (q + 1) (by
            rw [e1]
            refine Imp.step hnx ?_
            rw [hfl]
            exact h)
          rw [show q + (t + 1) = q + 1 + t by omega]
          exact e2
        have hdg : decide (0 < mg) = true := decide_eq_true hg
        rw [hdg] at HCN
        clear hnx hfl hdg
        go_wp2_with fail
        refine HCN.out.mono ?_
        rintro e w2 ⟨rfl, hb2⟩
        have hg3 := heap_top w2 (.cells #[.int .i64 (mv : Int), .int .i64 (ml : Int), .int .i64 mg] 65)
        have hal := al_below w2 (.cells #[.int .i64 (mv : Int), .int .i64 (ml : Int), .int .i64 mg] 65)
        have HC3 := Lib.hid ((HCS.out.on hb2).on hal)
        have HCA := Lib.hid (HC3.out.carry HPI.out HPN.out HPL.out HM.out hg (by have := HPL.out; unfold maxLen; omega))
        rw [HVM.out] at HCA
        simp only at HCA
        obtain ⟨m0, m1, m2⟩ := three_cells hg3
        clear hb2 hg3 hal HCN HVM
        go_wp2_with fail
        refine HCA.out.mono ?_
        rintro e w5 ⟨rfl, nn5, S5, Le5, Fi5, hcs5⟩
        have HC5 := Lib.hid hcs5
        rw [show 2 * P.length + 16384 * t + 16384 = 2 * P.length + 16384 * (t + 1) by omega] at HC5
        clear hcs5 m0 m1 m2
        go_wp2_with fail
        exact ⟨⟨t + 1, nn5, _, _, _, _, hlt, by simp, HC5, HST2⟩, by simp [intOf]; omega⟩
      · have hs := HCS.out.fs.stop (by rw [HM.out]; exact hg)
        have HS := Lib.hid hs
        have hdg : decide (0 < mg) = false := decide_eq_false hg
        rw [hdg] at HCN
        clear hs hdg
        go_wp2_with fail
        refine HCN.out.mono ?_
        rintro e w2 ⟨rfl, hb2⟩
        have hal := al_below w2 (.cells #[.int .i64 (mv : Int), .int .i64 (ml : Int), .int .i64 mg] 65)
        have HCX := Lib.hid ((HCS.out.on hb2).on hal)
        clear hb2 hal HCN HVM
        go_upto_region 11 with fail
        generalize hWX : w2.alloc (.cells #[.int .i64 (mv : Int), .int .i64 (ml : Int), .int .i64 mg] 65) = WX at *
        clear hWX
        have HIP : Hid (Imp P B M0 L L' t) := by
          have q := HST.out L' 0 (Imp.stop HS.out)
          rw [Nat.zero_add] at q
          exact q
        have HLL := Lib.hid HCX.out.Ln
        have c1 : WX.cell? ⟨cb, 1, none⟩ = some (.slice (some ⟨lg, 0, none⟩) L'.length lc) := by rw [HLL.out]; simp [World.cell?, HCX.out.X.ob, cellsO]
        have HTI := Lib.hid (tidied_any (some ⟨lg, 0, none⟩) L' lc WX (by rw [HLL.out]; exact hLl) (fun x hx => by
          obtain ⟨u, hu, rfl⟩ := mem_getDN hx
          have := HCX.out.fs.lab u hu
          have := HCX.out.st.k2
          omega) (own_ints (by have q := HCX.out.l; unfold OwI at q; rw [ints_len] at q; exact q) rfl))
        have HBX : Hid (Below p w WX) := HBW.out.trans (HCX.out.bel.mono hwz)
        have hzx : p ≤ WX.heap.size := Nat.le_trans hwz HCX.out.bel.size
        clear HCX HCS HST
        go_wp2_with fail
        refine HTI.out.mono ?_
        rintro e w4 ⟨g, rfl, hown, hb4⟩
        have HOW := Lib.hid (own_base hown hzx)
        have HB4 : Hid (Below p w w4) := HBX.out.trans (hb4.mono hzx)
        clear hown hb4
        go_wp2_with fail
        refine bodyPost_ret (v := .tuple #[.slice (some ⟨g, 0, none⟩) L'.length L'.length, .int .i64 (t : Int), .int .i64 0]) (by simp [results, Try.results18, go_sem]) rfl ?_
        exact ⟨_, _, t, tdL L', by rw [HVV.out, tdL_len], HOW.out, HB4.out, fun _ => HR.out L' t HIP.out, fun h => absurd HVV.out h⟩
    · have hlt' : ¬ (t : Int) < M0 := by omega
      have HTM : Hid (M0 - t = 0) := by show M0 - t = 0; omega
      have HCX := Lib.hid HCS.out
      go_upto_region 11 with fail
      have HIP : Hid (Imp P B M0 L L' t) := by
        have q := HST.out L' 0 (by rw [HTM.out]; exact Imp.zero)
        rw [Nat.zero_add] at q
        exact q
      have HLL := Lib.hid HCX.out.Ln
      have c1 : wr.cell? ⟨cb, 1, none⟩ = some (.slice (some ⟨lg, 0, none⟩) L'.length lc) := by rw [HLL.out]; simp [World.cell?, HCX.out.X.ob, cellsO]
      have HTI := Lib.hid (tidied_any (some ⟨lg, 0, none⟩) L' lc wr (by rw [HLL.out]; exact hLl) (fun x hx => by
        obtain ⟨u, hu, rfl⟩ := mem_getDN hx
        have := HCX.out.fs.lab u hu
        have := HCX.out.st.k2
        omega) (own_ints (by have q := HCX.out.l; unfold OwI at q; rw [ints_len] at q; exact q) rfl))
      have HBX : Hid (Below p w wr) := HBW.out.trans (HCX.out.bel.mono hwz)
      have hzx : p ≤ wr.heap.size := Nat.le_trans hwz HCX.out.bel.size
      clear HCX HCS HST
      go_wp2_with fail
      refine HTI.out.mono ?_
      rintro e w4 ⟨g, rfl, hown, hb4⟩
      have HOW := Lib.hid (own_base hown hzx)
      have HB4 : Hid (Below p w w4) := HBX.out.trans (hb4.mono hzx)
      clear hown hb4
      go_wp2_with fail
      refine bodyPost_ret (v := .tuple #[.slice (some ⟨g, 0, none⟩) L'.length L'.length, .int .i64 (t : Int), .int .i64 0]) (by simp [results, Try.results18, go_sem]) rfl ?_
      exact ⟨_, _, t, tdL L', by rw [HVV.out, tdL_len], HOW.out, HB4.out, fun _ => HR.out L' t HIP.out, fun h => absurd HVV.out h⟩
end Go.Proofs.Ytgpaoiddjlpcmaa
namespace Go.Proofs.Ytgpaoiddjlpcmaa
open Go.RowKit
def wl : List A := [⟨0, 1, 0⟩, ⟨1, 2, 0⟩, ⟨2, 3, 0⟩]
def wP : List Pr := [⟨0, 1⟩, ⟨1, 2⟩, ⟨2, 3⟩]
theorem wl_prl : prl wl = wP := by
  refine sorted_one (prl_sorted wl) ?_ (fun x => ?_)
  · simp [ltP, wP]
  · rw [prl_mem (by decide)]
    obtain ⟨a, b⟩ := x
    simp only [nr, wl, wP, List.any_cons, List.any_nil, Bool.or_false, Bool.or_eq_true, Bool.and_eq_true, beq_iff_eq, List.mem_cons, Pr.mk.injEq, List.not_mem_nil, or_false]
    omega
instance (P : List Pr) (L : List Nat) (B v f : Nat) : Decidable (Open P L B v f) := by unfold Open; exact inferInstance
instance (g : Int) (v f : Nat) (g' : Int) (v' f' : Nat) : Decidable (noWorse g v f g' v' f') := by unfold noWorse; exact inferInstance
theorem Nxt.of {P : List Pr} {L : List Nat} {B v f : Nat} (h : Open P L B v f) (h2 : ∀ c, c < L.length → ∀ d, d < L.length → Open P L B c d → noWorse (gn P L v f) v f (gn P L c d) c d) : Nxt P L B v f := ⟨h, fun c d ho => h2 c ho.1 d ho.2.1 ho⟩
theorem noOpen {P : List Pr} {L : List Nat} {B : Nat} (h : ∀ c, c < L.length → ∀ d, d < L.length → ¬ Open P L B c d) : ∀ v f, ¬ Open P L B v f := fun v f ho => h v ho.1 f ho.2.1 ho
theorem wl_imp : Imp (prl wl) 4 9 [0, 1, 0, 0] [0, 0, 0, 0] 1 := by
  rw [wl_prl]
  refine Imp.step (v := 1) (f := 0) (k := 8) (m := 0) (Nxt.of (by decide) (by decide)) ?_
  exact Imp.stop (L := [0, 0, 0, 0]) (noOpen (by decide))
theorem wl_imp2 : Imp (prl wl) 3 1 [0, 1, 0, 0] [1, 1, 0, 0] 1 := by
  rw [wl_prl]
  refine Imp.step (v := 0) (f := 1) (k := 0) (m := 0) (Nxt.of (by decide) (by decide)) ?_
  exact Imp.zero (L := [1, 1, 0, 0])
theorem wl_E : imE 4 wl [0, 1, 0, 0] 4 9 = 0 := by decide
theorem wl_E2 : imE 4 wl [0, 1, 0, 0] 3 1 = 0 := by decide
theorem wl_td : tdL [0, 0, 0, 0] = [0, 0, 0, 0] := by decide
theorem wl_td2 : tdL [1, 1, 0, 0] = [0, 0, 1, 1] := by decide
theorem ints_inj {L L' : List Nat} (h : ints L = ints L') : L = L' := by
  have h3 := congrArg (List.map Int.toNat) h
  simpa [ints, Function.comp_def] using h3
theorem wl_R {out : List Nat} {m : Nat} (h : ImR 4 wl [0, 1, 0, 0] 4 9 out m) : out = [0, 0, 0, 0] ∧ m = 1 := by
  obtain ⟨L, B, E, h1, _, h3, _, _, h6, rfl⟩ := h
  have e1 : L = [0, 1, 0, 0] := ints_inj h1.symm
  have e2 : B = 4 := by omega
  subst e1
  subst e2
  obtain ⟨rfl, rfl⟩ := wl_imp.one h6
  exact ⟨wl_td, rfl⟩
theorem wl_R2 {out : List Nat} {m : Nat} (h : ImR 4 wl [0, 1, 0, 0] 3 1 out m) : out = [0, 0, 1, 1] ∧ m = 1 := by
  obtain ⟨L, B, E, h1, _, h3, _, _, h6, rfl⟩ := h
  have e1 : L = [0, 1, 0, 0] := ints_inj h1.symm
  have e2 : B = 3 := by omega
  subst e1
  subst e2
  obtain ⟨rfl, rfl⟩ := wl_imp2.one h6
  exact ⟨wl_td2, rfl⟩
theorem ints_block {w : World} {b : Nat} {xs : List Int} {t : TypeId} (h : w.heap[b]? = some (.cells (cellsI xs).toArray t (0, 0))) : Ints w (some ⟨b, 0, none⟩) xs := by
  by_cases h0 : xs = []
  · exact .inl h0
  · refine .inr ⟨b, 0, rfl, lt_of_block h, fun j hj => ?_⟩
    simp [World.cell?, h, cellsI, List.getD, hj]
abbrev wO : Obj := .cells #[.int .i64 0, .int .i64 1, .int .u32 0, .int .i64 1, .int .i64 2, .int .u32 0, .int .i64 2, .int .i64 3, .int .u32 0] 51
theorem wl_arcs {w : World} {b : Nat} (h : w.heap[b]? = some wO) : Arcs w (some ⟨b, 0, none⟩) wl := by
  refine .inr ⟨b, 0, rfl, lt_of_block h, fun j hj => ?_⟩
  have hj : j = 0 ∨ j = 1 ∨ j = 2 := by have : wl.length = 3 := rfl; omega
  rcases hj with rfl | rfl | rfl <;> exact ⟨by simp [World.cell?, h]; rfl, by simp [World.cell?, h]; rfl, by simp [World.cell?, h]; rfl⟩
abbrev wQ : Obj := .cells #[.int .i64 0, .int .i64 1, .int .i64 0, .int .i64 0] 3
set_option maxRecDepth 100000 in
set_option maxHeartbeats 1600000 in
theorem works_any (w : World) : Calls Try.prog 9 #[] w fun e w' => e = .returned (.bool true) ∧ Below w.heap.size w w' := by
  have hA0 : ((w.alloc wO).alloc (.cells #[.int .i64 4, .slice (some ⟨w.heap.size, 0, none⟩) 3 3] 24)).heap[w.heap.size]? = some wO := (Below.heap_alloc (w.alloc wO) _ _ (by simp)).trans (heap_top w _)
  have hG0 := heap_top (w.alloc wO) (.cells #[.int .i64 4, .slice (some ⟨w.heap.size, 0, none⟩) 3 3] 24)
  rw [World.size_alloc] at hG0
  have hB0 : Below w.heap.size w ((w.alloc wO).alloc (.cells #[.int .i64 4, .slice (some ⟨w.heap.size, 0, none⟩) 3 3] 24)) := ((Below.refl _ _).alloc (Nat.le_refl _) _).alloc (by simp) _
  generalize hp : w.heap.size = p at *
  have HAR := Lib.hid (wl_arcs hA0)
  have HG0 := Lib.hid hG0
  have HB0 := Lib.hid hB0
  obtain ⟨⟨g0, g1⟩, _⟩ := two_cells hG0
  clear hA0 hG0 hB0
  go_enter Try.func9, Try.ntmps9
  generalize hW : (w.alloc wO).alloc (.cells #[.int .i64 4, .slice (some ⟨p, 0, none⟩) 3 3] 24) = W at *
  have HBX : Hid (Below W.heap.size W (W.alloc wQ)) := (Below.refl _ _).alloc (Nat.le_refl _) _
  have HN0 : Hid (Ints (W.alloc wQ) (some ⟨W.heap.size, 0, none⟩) [0, 1, 0, 0]) := ints_block (heap_top W _)
  go_wp2_with fail
  clear hW g0 g1
  have HCU := Lib.hid (improve_any 4 (some ⟨p, 0, none⟩) wl 3 (some ⟨W.heap.size, 0, none⟩) [0, 1, 0, 0] 4 4 9 (W.alloc wQ) (by decide) (by decide) (HAR.out.on HBX.out) HN0.out)
  rw [wl_E] at HCU
  have hpW : p + 1 < W.heap.size := lt_of_block HG0.out
  refine HCU.out.mono ?_
  rintro e w1 ⟨v1, c1, m1, P1, rfl, hown1, hb1, HR1, _⟩
  obtain ⟨hP1, hm1⟩ := wl_R (HR1.out rfl)
  subst hP1
  subst hm1
  have HW1 : Hid (Below W.heap.size W w1) := HBX.out.trans (hb1.mono HBX.out.size)
  have HI1 := Lib.hid (ints_own (xs := [0, 0, 0, 0]) hown1)
  have hG1 := (HW1.out.block (p + 1) hpW).trans HG0.out
  obtain ⟨⟨g0, g1⟩, _⟩ := two_cells hG1
  have HA1 := Lib.hid (HAR.out.on HW1.out)
  have HB1 : Hid (Below p w w1) := HB0.out.trans (HW1.out.mono (by omega))
  clear hown1 hb1 HCU HBX HN0 hG1 HR1
  have HBX : Hid (Below w1.heap.size w1 (w1.alloc wQ)) := (Below.refl _ _).alloc (Nat.le_refl _) _
  have HN0 : Hid (Ints (w1.alloc wQ) (some ⟨w1.heap.size, 0, none⟩) [0, 1, 0, 0]) := ints_block (heap_top w1 _)
  have HJO := Lib.hid (improve_any 4 (some ⟨p, 0, none⟩) wl 3 (some ⟨w1.heap.size, 0, none⟩) [0, 1, 0, 0] 4 3 1 (w1.alloc wQ) (by decide) (by decide) (HA1.out.on HBX.out) HN0.out)
  rw [wl_E2] at HJO
  go_wp2_with fail
  refine HJO.out.mono ?_
  rintro e w2 ⟨v2, c2, m2, P2, rfl, hown2, hb2, HR2, _⟩
  obtain ⟨hP2, hm2⟩ := wl_R2 (HR2.out trivial)
  subst hP2
  subst hm2
  have HW2 : Hid (Below w1.heap.size w1 w2) := HBX.out.trans (hb2.mono HBX.out.size)
  have HI2 := Lib.hid (ints_own (xs := [0, 0, 1, 1]) hown2)
  have HI1' := Lib.hid (HI1.out.on HW2.out)
  have hp1 : p ≤ w1.heap.size := by have := HB1.out.size; omega
  have HB2 : Hid (Below p w w2) := HB1.out.trans (HW2.out.mono hp1)
  clear hown2 hb2 HJO HBX HN0 g0 g1 HI1 HR2
  have HX2 : Hid (Below w2.heap.size w2 (w2.alloc (.cells #[.int .i64 0, .int .i64 0, .int .i64 0, .int .i64 0] 3))) := (Below.refl _ _).alloc (Nat.le_refl _) _
  have HN2 : Hid (Ints (w2.alloc (.cells #[.int .i64 0, .int .i64 0, .int .i64 0, .int .i64 0] 3)) (some ⟨w2.heap.size, 0, none⟩) [0, 0, 0, 0]) := ints_block (heap_top w2 _)
  have hp2 : p ≤ w2.heap.size := Nat.le_trans hp1 HW2.out.size
  go_wp2_with fail
  refine (sameInts_any v1 (some ⟨w2.heap.size, 0, none⟩) c1 4 [0, 0, 0, 0] _ (by decide) (HI1'.out.on HX2.out) HN2.out).mono ?_
  rintro e w3 ⟨rfl, hb3⟩
  have HW3 : Hid (Below w2.heap.size w2 w3) := HX2.out.trans (hb3.mono HX2.out.size)
  have HB3 : Hid (Below p w w3) := HB2.out.trans (HW3.out.mono hp2)
  have HI3 := Lib.hid (HI2.out.on HW3.out)
  have hp3 : p ≤ w3.heap.size := Nat.le_trans hp2 HW3.out.size
  clear hb3 HX2 HN2 HI2 HI1'
  have HX3 : Hid (Below w3.heap.size w3 (w3.alloc (.cells #[.int .i64 0, .int .i64 0, .int .i64 1, .int .i64 1] 3))) := (Below.refl _ _).alloc (Nat.le_refl _) _
  have HN3 : Hid (Ints (w3.alloc (.cells #[.int .i64 0, .int .i64 0, .int .i64 1, .int .i64 1] 3)) (some ⟨w3.heap.size, 0, none⟩) [0, 0, 1, 1]) := ints_block (heap_top w3 _)
  go_wp2_with fail
  refine (sameInts_any v2 (some ⟨w3.heap.size, 0, none⟩) c2 4 [0, 0, 1, 1] _ (by decide) (HI3.out.on HX3.out) HN3.out).mono ?_
  rintro e w4 ⟨rfl, hb4⟩
  have HB4 : Hid (Below p w w4) := HB3.out.trans ((HX3.out.trans (hb4.mono HX3.out.size)).mono hp3)
  clear hb4
  go_wp2_with fail
  go_ret
  exact ⟨rfl, HB4.out⟩
end Go.Proofs.Ytgpaoiddjlpcmaa
namespace Go.Proofs.Ytgpaoiddjlpcmaa
open Go.RowKit Go.Maps
/-- What Gain tells. -/
def gaE (N : Int) (l : List A) (xs : List Int) (v x : Int) : Int := if cntE N l xs ≠ 0 then cntE N l xs else if v < 0 ∨ N ≤ v ∨ x < 0 ∨ ((szL xs).length : Int) ≤ x then 5 else 0
/-- The gain. -/
def gaV (P : List Pr) (L : List Nat) (v x : Nat) : Int := (cv P L v x : Int) - (cv P L v (L.getD v 0) : Int)
set_option maxRecDepth 100000 in
set_option maxHeartbeats 1600000 in
theorem gain_top (N : Int) (a : Option Addr) (l : List A) (cap : Nat) (b : Option Addr) (xs : List Int) (bc : Nat) (v x : Int) (w : World) (hl : l.length ≤ 9223372036854775807) (hx : xs.length ≤ 9223372036854775807) (hr : Arcs w a l) (hi : Ints w b xs) :
    Calls Try.prog 12 #[.agg #[.int .i64 N, .slice a l.length cap], .slice b xs.length bc, .int .i64 v, .int .i64 x] w fun e w' => ∃ gv : Int, e = .returned (.tuple #[.int .i64 gv, .int .i64 (gaE N l xs v x)]) ∧ Below w.heap.size w w' ∧ Hid (gaE N l xs v x = 0 → ∃ (L : List Nat) (v' x' : Nat), xs = ints L ∧ N = (L.length : Int) ∧ chkE N l = 0 ∧ tdy (ints L) 0 = true ∧ v = (v' : Int) ∧ x = (x' : Int) ∧ gv = gaV (prl l) L v' x') ∧ Hid (gaE N l xs v x ≠ 0 → gv = 0) := by
  have hb0 : Below w.heap.size w (w.alloc (.cells #[.int .i64 N, .slice a l.length cap] 24)) := (Below.refl _ _).alloc (Nat.le_refl _) _
  have hg := heap_top w (.cells #[.int .i64 N, .slice a l.length cap] 24)
  have HB0 := Lib.hid hb0
  have hwz : w.heap.size ≤ (w.alloc (.cells #[.int .i64 N, .slice a l.length cap] 24)).heap.size := hb0.size
  have HCK := Lib.hid (look_any N a l cap b xs bc (w.alloc (.cells #[.int .i64 N, .slice a l.length cap] 24)) hl hx (hr.on hb0) (hi.on hb0))
  obtain ⟨E, HE⟩ := named (cntE N l xs)
  obtain ⟨V, HV⟩ := named (gaE N l xs v x)
  rw [HE.out] at HCK
  rw [HV.out]
  obtain ⟨⟨c0, c1⟩, _⟩ := two_cells hg
  clear hb0 hr hi hl hx
  generalize hp : w.heap.size = p at *
  go_enter Try.func12, Try.ntmps12
  go_wp2_with fail
  generalize hW : w.alloc (.cells #[.int .i64 N, .slice a l.length cap] 24) = W at *
  clear hW
  refine HCK.out.mono ?_
  rintro e w1 ⟨pv, rfl, hb1, HQ, HQ0⟩
  have HB1 : Hid (Below p w w1) := HB0.out.trans (hb1.mono hwz)
  have hz1 : p ≤ w1.heap.size := by rw [← hp]; exact (show Below w.heap.size w w1 by rw [hp]; exact HB1.out).size
  have hg1 := (hb1.block p (lt_of_block hg)).trans hg
  clear hb1 HCK c0 c1 hg
  obtain ⟨⟨c0, c1⟩, _⟩ := two_cells hg1
  by_cases hE : E ≠ 0
  · have e1 : (E != 0) = true := by simpa using hE
    have HIV : Hid (V = E) := by show V = E; rw [← HV.out]; unfold gaE; rw [HE.out, if_pos hE]
    go_wp2_with fail
    refine bodyPost_ret (v := .tuple #[.int .i64 0, .int .i64 E]) (by simp [results, Try.results12, go_sem]) rfl ?_
    exact ⟨0, by rw [HIV.out], HB1.out, fun h => absurd (HIV.out.symm.trans h) hE, fun _ => rfl⟩
  have hE0 : E = 0 := by simpa using hE
  have e1 : (E != 0) = false := by simpa using hE0
  have HE0 := Lib.hid hE0
  have HV2 : Hid ((if v < 0 ∨ N ≤ v ∨ x < 0 ∨ ((szL xs).length : Int) ≤ x then 5 else 0) = V) := by
    show _ = V
    rw [← HV.out]
    unfold gaE
    rw [HE.out, hE0, if_neg (show ¬ ((0 : Int) ≠ 0) by simp)]
  clear hE hE0
  obtain ⟨cb, L, rfl, hxL, hNl, hLk⟩ := HQ.out HE0.out
  obtain ⟨k, lg, lc, sg, sc, eg, ec, bg, pg, fg, mb, nn, rv, S, Le, hq, hlp, hk, hls, hle, hse⟩ := hLk
  have hz := HE.out
  rw [HE0.out] at hz
  unfold cntE at hz
  have hc0 : chkE N l = 0 := by
    by_cases c : chkE N l ≠ 0
    · rw [if_pos c] at hz; exact hz
    · simpa using c
  rw [if_neg (by simp [hc0])] at hz
  have hxt : ¬ ((xs.length : Int) ≠ N ∨ tdy xs 0 = false) := fun c => by rw [if_pos c] at hz; cases hz
  have htd : tdy (ints L) 0 = true := by cases q : tdy (ints L) 0 with
    | true => rfl
    | false => exact absurd (.inr (by rw [hxL]; exact q)) hxt
  obtain ⟨hN1, hN2, hll, _⟩ := chk_zero hc0
  have hS : szL xs = S := by
    have q := hlp.s
    rw [List.take_of_length_le (by rw [ints_len]; exact Nat.le_refl _), ← hxL] at q
    exact q
  rw [hS, hk] at HV2
  have hk2 : k ≤ 1024 := by have := hlp.lj; omega
  have hL2 : L.length ≤ 1024 := by omega
  have c2 : w1.cell? ⟨cb, 2, none⟩ = some (.slice (some ⟨sg, 0, none⟩) k sc) := by simp [World.cell?, hq.X.ob, cellsO]
  have HQQ := Lib.hid hq
  have HLP := Lib.hid hlp
  have HXL := Lib.hid hxL
  have HNL := Lib.hid hNl
  have HC0 := Lib.hid hc0
  have HTD := Lib.hid htd
  have HKK := Lib.hid hk
  clear hz hxt hc0 htd hq hlp hxL HQ HQ0 hS hk hll
  by_cases h1 : v < 0
  · have HVV : Hid (V = 5) := by show V = 5; rw [← HV2.out, if_pos (.inl h1)]
    clear hNl
    go_wp2_with fail
    refine bodyPost_ret (v := .tuple #[.int .i64 0, .int .i64 5]) (by simp [results, Try.results12, go_sem]) rfl ?_
    exact ⟨0, by rw [HVV.out], HB1.out, fun h => absurd (HVV.out.symm.trans h) (by decide), fun _ => rfl⟩
  by_cases h2 : N ≤ v
  · have HVV : Hid (V = 5) := by show V = 5; rw [← HV2.out, if_pos (.inr (.inl h2))]
    clear hNl
    go_wp2_with fail
    refine bodyPost_ret (v := .tuple #[.int .i64 0, .int .i64 5]) (by simp [results, Try.results12, go_sem]) rfl ?_
    exact ⟨0, by rw [HVV.out], HB1.out, fun h => absurd (HVV.out.symm.trans h) (by decide), fun _ => rfl⟩
  by_cases h3 : x < 0
  · have HVV : Hid (V = 5) := by show V = 5; rw [← HV2.out, if_pos (.inr (.inr (.inl h3)))]
    clear hNl
    go_wp2_with fail
    refine bodyPost_ret (v := .tuple #[.int .i64 0, .int .i64 5]) (by simp [results, Try.results12, go_sem]) rfl ?_
    exact ⟨0, by rw [HVV.out], HB1.out, fun h => absurd (HVV.out.symm.trans h) (by decide), fun _ => rfl⟩
  by_cases h4 : (k : Int) ≤ x
  · have HVV : Hid (V = 5) := by show V = 5; rw [← HV2.out, if_pos (.inr (.inr (.inr h4)))]
    clear hNl
    go_wp2_with fail
    refine bodyPost_ret (v := .tuple #[.int .i64 0, .int .i64 5]) (by simp [results, Try.results12, go_sem]) rfl ?_
    exact ⟨0, by rw [HVV.out], HB1.out, fun h => absurd (HVV.out.symm.trans h) (by decide), fun _ => rfl⟩
  have HVV : Hid (V = 0) := by show V = 0; rw [← HV2.out, if_neg (by omega)]
  obtain ⟨v', hv'⟩ : ∃ v' : Nat, v = (v' : Int) := ⟨v.toNat, by omega⟩
  obtain ⟨x', hx'⟩ : ∃ x' : Nat, x = (x' : Int) := ⟨x.toNat, by omega⟩
  subst hv'
  subst hx'
  have hvn : v' < L.length := by omega
  have Q := HQQ.out
  have c5 : w1.cell? ⟨cb, 5, none⟩ = some (.slice (some ⟨pg, 0, none⟩) L.length L.length) := by simp [World.cell?, Q.X.ob, cellsO]
  have c1' : w1.cell? ⟨cb, 1, none⟩ = some (.slice (some ⟨lg, 0, none⟩) L.length lc) := by simp [World.cell?, Q.X.ob, cellsO]
  have d1 := Q.l.cell (k := v') (by rw [ints_len]; exact hvn)
  rw [getD_ints] at d1
  have HGA := Lib.hid (gain_any cb lg lc pg L.length L.length (mb v') (nn v') k v' x' (L.getD v' 0) (cv (prl l) L v') w1 c1' c5 d1 (Q.X.pa.cell hvn) hvn (Q.X.mi v' hvn) (by omega) (by have := HLP.out.lv v' hvn; have := HKK.out; omega) (fun y => by have h1 := Q.fb v' y; have h2 := prl_len l; have h3 := (chk_zero HC0.out).2.2.1; omega))
  obtain ⟨gv, HGV⟩ := named (gaV (prl l) L v' x')
  unfold gaV at HGV
  rw [HGV.out] at HGA
  clear Q c5 c1' d1 hNl
  go_wp2_with fail
  refine HGA.out.mono ?_
  rintro e w2 ⟨rfl, hb2⟩
  have HB2 : Hid (Below p w w2) := HB1.out.trans (hb2.mono hz1)
  clear hb2
  go_wp2_with fail
  refine bodyPost_ret (v := .tuple #[.int .i64 gv, .int .i64 0]) (by simp [results, Try.results12, go_sem]) rfl ?_
  exact ⟨gv, by rw [HVV.out], HB2.out, fun _ => ⟨L, v', x', HXL.out, HNL.out, HC0.out, HTD.out, rfl, rfl, HGV.out.symm⟩, fun h => absurd HVV.out h⟩
end Go.Proofs.Ytgpaoiddjlpcmaa
