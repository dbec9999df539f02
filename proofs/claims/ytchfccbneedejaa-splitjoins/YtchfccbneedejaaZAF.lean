/-
  The order of all vertices: growth after growth; a growth is closed. All pairs of a graph: sorted, each once. The contract of flyoverref03.Near. The reference's neighbours are the growth's.
-/
import Derived.Test.YtchfccbneedejaaZAE
import Derived.LoopN
import Derived.Test.YtchfccbneedejaaZAD
namespace Go.Proofs.Ytchfccbneedejaa
open Go.RowKit
/-- One pair is ahead of another. -/
def ltP (x y : Pr) : Prop := x.a < y.a ∨ x.a = y.a ∧ x.b < y.b
instance (x y : Pr) : Decidable (ltP x y) := by unfold ltP; exact inferInstance
theorem cmpP_lt (x y : Pr) : cmpP x y < 0 ↔ ltP x y := by
  unfold cmpP orI cmpI ltP
  by_cases h1 : x.a < y.a
  · have : (x.a : Int) < y.a := by omega
    simp [this, h1]
  · by_cases h2 : y.a < x.a
    · have q1 : ¬ (x.a : Int) < y.a := by omega
      have q2 : (y.a : Int) < x.a := by omega
      simp [q1, q2, h1]; omega
    · have q1 : ¬ (x.a : Int) < y.a := by omega
      have q2 : ¬ (y.a : Int) < x.a := by omega
      have e : x.a = y.a := by omega
      by_cases h3 : x.b < y.b
      · have q3 : (x.b : Int) < y.b := by omega
        simp [q3, h3, e]
      · have q3 : ¬ (x.b : Int) < y.b := by omega
        by_cases h4 : y.b < x.b
        · have q4 : (y.b : Int) < x.b := by omega
          simp [q3, q4, h3, e]
        · have q4 : ¬ (y.b : Int) < x.b := by omega
          simp [q3, q4, h3, e]
theorem ltP_trans {x y z : Pr} (h1 : ltP x y) (h2 : ltP y z) : ltP x z := by unfold ltP at *; omega
theorem ltP_irrefl (x : Pr) : ¬ ltP x x := by unfold ltP; omega
theorem ltP_tri (x y : Pr) (h1 : ¬ ltP x y) (h2 : ¬ ltP y x) : x = y := by unfold ltP at *; exact pr_ext (by omega) (by omega)
/-- Pairs in order. -/
def srtP (d : List Pr) : List Pr := d.mergeSort fun x y => !decide (cmpP y x < 0)
theorem srtP_len (d : List Pr) : (srtP d).length = d.length := by simp [srtP]
theorem srtP_mem {d : List Pr} {x : Pr} : x ∈ srtP d ↔ x ∈ d := by simp [srtP]
theorem srtP_sorted (d : List Pr) : (srtP d).Pairwise (fun x y => ¬ ltP y x) := by
  have h := List.pairwise_mergeSort (le := fun x y => !decide (cmpP y x < 0)) (fun a b c h1 h2 => by
    simp only [Bool.not_eq_true', decide_eq_false_iff_not, cmpP_lt] at h1 h2 ⊢
    unfold ltP at *; omega) (fun a b => by
    simp only [Bool.or_eq_true, Bool.not_eq_true', decide_eq_false_iff_not, cmpP_lt]
    unfold ltP; omega) d
  refine h.imp fun {x y} h => ?_
  simp only [Bool.not_eq_true', decide_eq_false_iff_not, cmpP_lt] at h
  exact h
theorem getD_memP {q : List Pr} {i : Nat} (h : i < q.length) : q.getD i Pr.zero ∈ q := by simp [List.getD, List.getElem?_eq_getElem h]
theorem sorted_get {d : List Pr} (h : d.Pairwise (fun x y => ¬ ltP y x)) {i j : Nat} (hij : i < j) (hj : j < d.length) : ¬ ltP (d.getD j Pr.zero) (d.getD i Pr.zero) := by
  have := List.pairwise_iff_getElem.1 h i j (by omega) hj hij
  simpa [List.getD, hj, show i < d.length by omega] using this
theorem ddk_inv {d : List Pr} (h : d.Pairwise (fun x y => ¬ ltP y x)) : ∀ k, k ≤ d.length → (ddk d k).Pairwise ltP ∧ (∀ x, x ∈ ddk d k ↔ x ∈ d.take k)
  | 0, _ => ⟨by simp [ddk], fun x => by simp [ddk]⟩
  | k + 1, hk => by
    obtain ⟨h1, h2⟩ := ddk_inv h k (by omega)
    have hts := take_snocP (p := d) (k := k) (by omega)
    by_cases hc : 0 < k ∧ d.getD k Pr.zero = d.getD (k - 1) Pr.zero
    · rw [ddk_skip hc]
      refine ⟨h1, fun x => ?_⟩
      rw [h2, hts, List.mem_append, List.mem_singleton]
      constructor
      · exact .inl
      · rintro (hx | rfl)
        · exact hx
        · rw [hc.2]
          have : (d.take k).getD (k - 1) Pr.zero = d.getD (k - 1) Pr.zero := by
            simp [List.getD, show k - 1 < k by omega]
          rw [← this]
          exact getD_memP (by rw [List.length_take]; omega)
    · rw [ddk_keep hc]
      refine ⟨?_, fun x => ?_⟩
      · rw [List.pairwise_append]
        refine ⟨h1, by simp, fun x hx y hy => ?_⟩
        rw [List.mem_singleton] at hy
        subst hy
        have hx := (h2 x).1 hx
        obtain ⟨i, hi, rfl⟩ := List.mem_iff_getElem.1 hx
        rw [List.length_take] at hi
        have e : (d.take k)[i] = d.getD i Pr.zero := by simp [List.getD, show i < d.length by omega]
        rw [e]
        have hik : i < k := by omega
        have s1 := sorted_get h hik (by omega)
        have s2 := sorted_get h (show k - 1 < k by omega) (by omega)
        have hne : d.getD k Pr.zero ≠ d.getD (k - 1) Pr.zero := fun e => hc ⟨by omega, e⟩
        have s3 : ltP (d.getD (k - 1) Pr.zero) (d.getD k Pr.zero) := by
          by_cases q : ltP (d.getD (k - 1) Pr.zero) (d.getD k Pr.zero)
          · exact q
          · exact absurd (ltP_tri _ _ s2 q) hne
        by_cases ei : i = k - 1
        · rw [ei]; exact s3
        · have s4 := sorted_get h (show i < k - 1 by omega) (by omega)
          unfold ltP at *
          omega
      · rw [List.mem_append, h2, hts, List.mem_append]
/-- The pairs of the arcs, as they come. -/
def pq (l : List A) : List Pr := l.filterMap (fun x => if x.f = x.t then none else some ⟨(min x.f x.t).toNat, (max x.f x.t).toNat⟩)
theorem pq_snoc (q : List A) (x : A) : pq (q ++ [x]) = if x.f = x.t then pq q else pq q ++ [⟨(min x.f x.t).toNat, (max x.f x.t).toNat⟩] := by
  unfold pq
  rw [List.filterMap_append]
  by_cases h : x.f = x.t
  · rw [if_pos h]; simp [h]
  · rw [if_neg h]; simp [h]
theorem pq_len (l : List A) : (pq l).length ≤ l.length := List.length_filterMap_le _ _
/-- All pairs, in order. -/
def prl (l : List A) : List Pr := ddk (srtP (pq l)) (srtP (pq l)).length
theorem prl_sorted (l : List A) : (prl l).Pairwise ltP := (ddk_inv (srtP_sorted (pq l)) _ (Nat.le_refl _)).1
theorem prl_len (l : List A) : (prl l).length ≤ l.length := Nat.le_trans (ddk_len _ _) (by rw [srtP_len]; exact pq_len l)
/-- Some arc joins v and u. -/
def nr (q : List A) (v u : Nat) : Bool := q.any (fun x => (x.f == (v : Int) && x.t == (u : Int)) || (x.t == (v : Int) && x.f == (u : Int)))
theorem prl_mem {l : List A} (hpo : ∀ x, x ∈ l → 0 ≤ x.f ∧ 0 ≤ x.t) {p : Pr} : p ∈ prl l ↔ p.a < p.b ∧ nr l p.a p.b = true := by
  have h := (ddk_inv (srtP_sorted (pq l)) _ (Nat.le_refl _)).2 p
  unfold prl
  rw [h, List.take_length, srtP_mem]
  unfold pq nr
  rw [List.mem_filterMap, List.any_eq_true]
  constructor
  · rintro ⟨x, hx, he⟩
    have hp := hpo x hx
    by_cases e : x.f = x.t
    · simp [e] at he
    · rw [if_neg e] at he
      injection he with he
      subst he
      refine ⟨by show (min x.f x.t).toNat < (max x.f x.t).toNat; omega, x, hx, ?_⟩
      simp only [Bool.or_eq_true, Bool.and_eq_true, beq_iff_eq]
      omega
  · rintro ⟨hab, x, hx, hn⟩
    have hp := hpo x hx
    simp only [Bool.or_eq_true, Bool.and_eq_true, beq_iff_eq] at hn
    refine ⟨x, hx, ?_⟩
    rw [if_neg (by omega)]
    congr 1
    exact pr_ext (by show (min x.f x.t).toNat = p.a; omega) (by show (max x.f x.t).toNat = p.b; omega)
/-- Two lists of pairs in strict order with the same members are one. -/
theorem sorted_one {p q : List Pr} (hp : p.Pairwise ltP) (hq : q.Pairwise ltP) (he : ∀ x, x ∈ p ↔ x ∈ q) : p = q := by
  have hn : ∀ {r : List Pr}, r.Pairwise ltP → r.Nodup := fun h => h.imp fun {a b} h e => by subst e; exact ltP_irrefl _ h
  refine List.Perm.eq_of_pairwise (le := ltP) (fun a b _ _ h1 h2 => absurd (ltP_trans h1 h2) (ltP_irrefl _)) hp hq ((List.perm_ext_iff_of_nodup (hn hp) (hn hq)).2 he)
end Go.Proofs.Ytchfccbneedejaa
namespace Go.Proofs.Ytchfccbneedejaa
open Go.RowKit
theorem nr_snoc (q : List A) (x : A) (v u : Nat) : nr (q ++ [x]) v u = (nr q v u || ((x.f == (v : Int) && x.t == (u : Int)) || (x.t == (v : Int) && x.f == (u : Int)))) := by simp [nr, List.any_append]
theorem take_snocN {p : List A} {k : Nat} (h : k < p.length) : p.take (k + 1) = p.take k ++ [p.getD k A.zero] := by
  rw [List.take_succ_eq_append_getElem h]
  simp [List.getD, List.getElem?_eq_getElem h]
theorem upd_true {F G : Nat → Bool} {t u : Nat} (h : ∀ u, G u = (F u || decide (u = t))) : updV (fun u => .bool (F u)) t (.bool true) u = .bool (G u) := by
  by_cases e : u = t
  · subst e; rw [updV_self, h]; simp
  · rw [updV_ne _ _ e, h]; simp [e]
set_option maxRecDepth 100000 in
set_option maxHeartbeats 1600000 in
theorem rnear_any (n v : Nat) (a : Option Addr) (l : List A) (cap : Nat) (w : World) (hn : n ≤ 1024) (hl : l.length ≤ 8192) (hv : v < n) (hpo : ∀ x, x ∈ l → (0 ≤ x.f ∧ x.f < n) ∧ 0 ≤ x.t ∧ x.t < n) (hr : Arcs w a l) :
    Calls Try.prog 80 #[.agg #[.int .i64 n, .slice a l.length cap], .int .i64 v] w fun e w' => ∃ b, e = .returned (.slice (some ⟨b, 0, none⟩) n n) ∧ w.heap.size ≤ b ∧ TbV w' b n 4 (fun u => .bool (nr l v u && !decide (u = v))) ∧ Below w.heap.size w w' := by
  have hb0 : Below w.heap.size w (w.alloc (.cells #[.int .i64 n, .slice a l.length cap] 24)) := (Below.refl _ _).alloc (Nat.le_refl _) _
  have hg := heap_top w (.cells #[.int .i64 n, .slice a l.length cap] 24)
  obtain ⟨ba, oa, hab⟩ : ∃ b o, 0 < l.length → a = some ⟨b, o, none⟩ ∧ b < w.heap.size ∧ ∀ j, j < l.length → (l.getD j A.zero).at w b (o + j * 3) := by
    rcases hr with rfl | ⟨b, o, h⟩
    · exact ⟨0, 0, fun h => absurd h (by simp)⟩
    · exact ⟨b, o, fun _ => h⟩
  have HAB := Lib.hid hab
  have HPO := Lib.hid hpo
  obtain ⟨i4, hi4, hz4, hs4, hb4⟩ := info_parts info4
  have hmkB : ∀ w, (Instr.makeSlice 69 (.int .i64 n) (.int .i64 n)).run Try.prog w = .ok (.slice (some ⟨w.heap.size, 0, none⟩) n n) (w.alloc (.cells ((List.range n).map (fun _ => Value.bool false)).toArray 4)) := fun w => by
    have := run_make (P := Try.prog) w 69 4 i4 (.bool false) Try.underlying69 hi4 hz4 .i64 .i64 n n (by omega) (by omega) (by rw [hb4]; omega) (by omega)
    rw [this, Int.toNat_natCast, hs4, made_bool]
  clear hi4 hz4 hs4 hb4 hab hpo hr
  clear i4
  generalize hp : w.heap.size = p at *
  have hgv := (Below.heap_alloc (w.alloc (.cells #[.int .i64 n, .slice a l.length cap] 24)) (.cells ((List.range n).map (fun _ => Value.bool false)).toArray 4) p (lt_of_block hg)).trans hg
  have HT0 : Hid (TbV ((w.alloc (.cells #[.int .i64 n, .slice a l.length cap] 24)).alloc (.cells ((List.range n).map (fun _ => Value.bool false)).toArray 4)) (p + 1) n 4 (fun _ => .bool false)) := by
    have := heap_top (w.alloc (.cells #[.int .i64 n, .slice a l.length cap] 24)) (.cells ((List.range n).map (fun _ => Value.bool false)).toArray 4)
    rw [World.size_alloc, hp] at this
    exact this
  have HBV : Hid (Below p w ((w.alloc (.cells #[.int .i64 n, .slice a l.length cap] 24)).alloc (.cells ((List.range n).map (fun _ => Value.bool false)).toArray 4))) := hb0.alloc (by simp; omega) _
  go_enter Try.func80, Try.ntmps80
  go_wp2_with fail
  generalize hV : (w.alloc (.cells #[.int .i64 n, .slice a l.length cap] 24)).alloc (.cells ((List.range n).map (fun _ => Value.bool false)).toArray 4) = V at *
  clear hV hmkB hg hb0
  go_loopw [6] (fun i wr => ∃ k : Nat, k ≤ l.length ∧ i = .int .i64 k ∧ TbV wr (p + 1) n 4 (fun u => .bool (nr (l.take k) v u)) ∧ Hid (Fr (fun j => j = p + 1) V wr)) (fun i _ => l.length - (intOf i).toNat)
  case atStart => exact ⟨0, Nat.zero_le _, rfl, HT0.out.congr (fun v _ => by simp [nr]), Fr.refl _ _⟩
  case round =>
    obtain ⟨k, hk, rfl, htq, HF⟩ := hrel
    have HBR := Lib.hid (HBV.out.trans (HF.out.below (B := p) (hp ▸ HBV.out.size) (fun k e => by have e : k = p + 1 := e; omega)))
    have hgr := (HF.out.block p (lt_of_block hgv) (fun e => by have e : p = p + 1 := e; omega)).trans hgv
    obtain ⟨⟨g0, g1⟩, _⟩ := two_cells hgr
    by_cases hlt : k < l.length
    · obtain ⟨rfl, hbl, hat⟩ := HAB.out (by omega)
      have hlt' : (k : Int) < l.length := by omega
      obtain ⟨x0, x1, x2⟩ := (hat k hlt).on (by rw [hp]; exact HBR.out)
      have HMEM := Lib.hid (HPO.out (l.getD k A.zero) (by simp [List.getD, List.getElem?_eq_getElem hlt]))
      have HTS := Lib.hid (take_snocN hlt)
      clear hat
      generalize l.getD k A.zero = x at *
      obtain ⟨s, hs⟩ : ∃ u : Nat, x.f = u := ⟨x.f.toNat, by have := HMEM.out; omega⟩
      obtain ⟨t, ht⟩ : ∃ t : Nat, x.t = t := ⟨x.t.toNat, by have := HMEM.out; omega⟩
      have hsn : s < n := by have := HMEM.out; omega
      have htn : t < n := by have := HMEM.out; omega
      have HN : Hid (∀ u, nr (l.take (k + 1)) v u = (nr (l.take k) v u || ((decide (s = v) && decide (u = t)) || (decide (t = v) && decide (u = s))))) := fun u => by
        rw [HTS.out, nr_snoc, hs, ht]
        congr 1
        rw [Bool.eq_iff_iff]
        simp
        omega
      rw [hs] at x0
      rw [ht] at x1
      clear hs ht
      have hsn' : (s : Int) < n := by omega
      have htn' : (t : Int) < n := by omega
      have hx5 := heap_top wr (.cells #[.int .i64 (s : Int), .int .i64 (t : Int), .int .u32 x.w] 49)
      obtain ⟨z0, z1, z2⟩ := three_cells hx5
      have htq5 := htq.same (Below.heap_alloc wr (.cells #[.int .i64 (s : Int), .int .i64 (t : Int), .int .u32 x.w] 49) (p + 1) htq.lt)
      have s1 := htq5.cell hsn
      have s2 := htq5.cell htn
      have s3 := htq5.free s
      have s4 := htq5.free t
      have hwq : wr.heap.size ≠ p + 1 := Nat.ne_of_gt htq.lt
      have hwq' := hwq.symm
      have HTQ5 := Lib.hid htq5
      have HFA := Lib.hid (HF.out.alloc (.cells #[.int .i64 (s : Int), .int .i64 (t : Int), .int .u32 x.w] 49))
      clear htq htq5
      by_cases h1 : s = v
      · have h1' : ((s : Int) == (v : Int)) = true := by simp [h1]
        have H1 := Lib.hid h1
        clear h1
        by_cases h2 : t = v
        · have h2' : ((t : Int) == (v : Int)) = true := by simp [h2]
          have H2 := Lib.hid h2
          clear h2
          have d1 := ((HTQ5.out.set t (.bool true)).cell hsn)
          have d2 := ((HTQ5.out.set t (.bool true)).free s)
          go_wp2_with fail
          refine ⟨⟨k + 1, by omega, by simp, ((HTQ5.out.set t (.bool true)).set s (.bool true)).congr (fun u _ => ?_), (HFA.out.setCell ⟨p + 1, t, none⟩ _ rfl).setCell ⟨p + 1, s, none⟩ _ rfl⟩, by simp [intOf]; omega⟩
          have e1 : ∀ u, updV (fun u => .bool (nr (l.take k) v u)) t (.bool true) u = .bool (nr (l.take k) v u || decide (u = t)) := fun u => upd_true (fun _ => rfl)
          rw [show updV (fun u => Value.bool (nr (l.take k) v u)) t (.bool true) = fun u => .bool (nr (l.take k) v u || decide (u = t)) from funext e1]
          refine upd_true (fun u => ?_)
          rw [HN.out, decide_eq_true H1.out, decide_eq_true H2.out, Bool.true_and, Bool.true_and, Bool.or_assoc]
        · have h2' : ((t : Int) == (v : Int)) = false := by simp; omega
          have H2 := Lib.hid h2
          clear h2
          go_wp2_with fail
          refine ⟨⟨k + 1, by omega, by simp, (HTQ5.out.set t (.bool true)).congr (fun u _ => upd_true (fun u => ?_)), HFA.out.setCell ⟨p + 1, t, none⟩ _ rfl⟩, by simp [intOf]; omega⟩
          rw [HN.out, decide_eq_true H1.out, decide_eq_false H2.out, Bool.true_and, Bool.false_and, Bool.or_false]
      · have h1' : ((s : Int) == (v : Int)) = false := by simp; omega
        have H1 := Lib.hid h1
        clear h1
        by_cases h2 : t = v
        · have h2' : ((t : Int) == (v : Int)) = true := by simp [h2]
          have H2 := Lib.hid h2
          clear h2
          go_wp2_with fail
          refine ⟨⟨k + 1, by omega, by simp, (HTQ5.out.set s (.bool true)).congr (fun u _ => upd_true (fun u => ?_)), HFA.out.setCell ⟨p + 1, s, none⟩ _ rfl⟩, by simp [intOf]; omega⟩
          rw [HN.out, decide_eq_false H1.out, decide_eq_true H2.out, Bool.true_and, Bool.false_and, Bool.false_or]
        · have h2' : ((t : Int) == (v : Int)) = false := by simp; omega
          have H2 := Lib.hid h2
          clear h2
          go_wp2_with fail
          refine ⟨⟨k + 1, by omega, by simp, HTQ5.out.congr (fun u _ => ?_), HFA⟩, by simp [intOf]; omega⟩
          rw [HN.out, decide_eq_false H1.out, decide_eq_false H2.out, Bool.false_and, Bool.false_and, Bool.or_false, Bool.or_false]
    · obtain rfl : k = l.length := by omega
      have hlt' : ¬ (l.length : Int) < l.length := by omega
      rw [List.take_length] at htq
      have c1 := htq.cell hv
      have c2 := htq.free v
      have HTQ := Lib.hid htq
      have hv' : (v : Int) < n := by omega
      clear htq
      go_wp2_with fail
      go_ret
      refine ⟨p + 1, rfl, by omega, (HTQ.out.set v (.bool false)).congr (fun u _ => ?_), ?_⟩
      · by_cases e : u = v
        · subst e; rw [updV_self]; simp
        · rw [updV_ne _ _ e]; simp [e]
      · exact HBR.out.setCell (by show p ≤ p + 1; omega) _
end Go.Proofs.Ytchfccbneedejaa
namespace Go.Proofs.Ytchfccbneedejaa
open Go.RowKit
theorem nr_adj {l : List A} (hpo : ∀ x, x ∈ l → 0 ≤ x.f ∧ 0 ≤ x.t) (v u : Nat) : nr l v u = adjF (edl l) (2 * l.length) v 0 u := by
  rw [Bool.eq_iff_iff, adjF_iff]
  unfold nr
  rw [List.any_eq_true]
  constructor
  · rintro ⟨x, hx, h⟩
    obtain ⟨j, hj, rfl⟩ := List.mem_iff_getElem.1 hx
    have hp := hpo _ hx
    have he := edl_at hj
    rw [show l.getD j A.zero = l[j] by simp [List.getD, List.getElem?_eq_getElem hj]] at he
    simp only [Bool.or_eq_true, Bool.and_eq_true, beq_iff_eq] at h
    rcases h with ⟨h1, h2⟩ | ⟨h1, h2⟩
    · refine ⟨2 * j, Nat.zero_le _, by omega, ?_, ?_⟩
      · unfold frm; rw [if_pos (by omega), show 2 * j / 2 = j by omega, he]; show l[j].f.toNat = v; omega
      · unfold tto; rw [if_pos (by omega), show 2 * j / 2 = j by omega, he]; show l[j].t.toNat = u; omega
    · refine ⟨2 * j + 1, Nat.zero_le _, by omega, ?_, ?_⟩
      · unfold frm; rw [if_neg (by omega), show (2 * j + 1) / 2 = j by omega, he]; show l[j].t.toNat = v; omega
      · unfold tto; rw [if_neg (by omega), show (2 * j + 1) / 2 = j by omega, he]; show l[j].f.toNat = u; omega
  · rintro ⟨k, _, hk, h1, h2⟩
    have hj : k / 2 < l.length := by omega
    have hx : l.getD (k / 2) A.zero ∈ l := by simp [List.getD, List.getElem?_eq_getElem hj]
    have hp := hpo _ hx
    have he := edl_at hj
    refine ⟨l.getD (k / 2) A.zero, hx, ?_⟩
    unfold frm at h1
    unfold tto at h2
    rw [he] at h1 h2
    generalize l.getD (k / 2) A.zero = x at *
    simp only [Bool.or_eq_true, Bool.and_eq_true, beq_iff_eq]
    by_cases e : k % 2 = 0
    · rw [if_pos e] at h1 h2
      have h1 : x.f.toNat = v := h1
      have h2 : x.t.toNat = u := h2
      left; omega
    · rw [if_neg e] at h1 h2
      have h1 : x.t.toNat = v := h1
      have h2 : x.f.toNat = u := h2
      right; omega
/-- The neighbours of v, rising. -/
def nbl (l : List A) (N v : Nat) : List Nat := allk (fun u => nr l v u && !decide (u = v)) N
theorem mem_nbl {l : List A} {N v u : Nat} : u ∈ nbl l N v ↔ u < N ∧ nr l v u = true ∧ u ≠ v := by
  unfold nbl allk
  simp [List.mem_filter]
theorem nbl_nodup (l : List A) (N v : Nat) : (nbl l N v).Nodup := List.Pairwise.filter _ List.nodup_range
theorem ext_nbl {l : List A} (hpo : ∀ x, x ∈ l → 0 ≤ x.f ∧ 0 ≤ x.t) {N v : Nat} {S : Nat → Bool} (hv : S v = true) : (nbl l N v).filter (fun u => !S u) = ext (edl l) (2 * l.length) N S v := by
  unfold nbl allk ext
  rw [List.filter_filter]
  apply List.filter_congr
  intro u _
  rw [nr_adj hpo]
  by_cases e : u = v
  · subst e; simp [hv]
  · simp [e]
theorem seen_nbl {l : List A} (hpo : ∀ x, x ∈ l → 0 ≤ x.f ∧ 0 ≤ x.t) {N v : Nat} {S : Nat → Bool} (hv : S v = true) {u : Nat} (hu : u < N) : (S u || decide (u ∈ nbl l N v)) = (S u || adjF (edl l) (2 * l.length) v 0 u) := by
  rw [← nr_adj hpo]
  by_cases e : u = v
  · subst e; simp [hv]
  · congr 1
    rw [Bool.eq_iff_iff]
    simp [mem_nbl, hu, e]
end Go.Proofs.Ytchfccbneedejaa
namespace Go.Proofs.Ytchfccbneedejaa
open Go.RowKit
theorem gro_seen {E : List Ed} {M N : Nat} {S : Nat → Bool} {c : Nat} (hc : c < N) : ∀ k u, u < N → ((gro E M N S c k).2 u = true ↔ S u = true ∨ u ∈ (gro E M N S c k).1)
  | 0, u, _ => by simp [gro]
  | k + 1, u, hu => by
    have ih := gro_seen hc k u hu (E := E) (M := M) (S := S)
    by_cases h : k < (gro E M N S c k).1.length
    · rw [gro_go h]
      simp only [Bool.or_eq_true, List.mem_append]
      rw [mem_ext, ih]
      generalize (gro E M N S c k).1.getD k 0 = v at *
      constructor
      · rintro ((h1 | h1) | h1)
        · exact .inl h1
        · exact .inr (.inl h1)
        · by_cases h2 : (gro E M N S c k).2 u = true
          · rcases ih.1 h2 with h3 | h3
            · exact .inl h3
            · exact .inr (.inl h3)
          · exact .inr (.inr ⟨hu, by simpa using h2, h1⟩)
      · rintro (h1 | h1 | h1)
        · exact .inl (.inl h1)
        · exact .inl (.inr h1)
        · exact .inr h1.2.2
    · have : gro E M N S c (k + 1) = gro E M N S c k := by simp only [gro]; rw [if_neg h]
      rw [this]; exact ih
theorem gro_get {E : List Ed} {M N : Nat} {S : Nat → Bool} {c k j : Nat} (hj : j < (gro E M N S c k).1.length) (i : Nat) : (gro E M N S c (k + i)).1.getD j 0 = (gro E M N S c k).1.getD j 0 := by
  obtain ⟨t, ht⟩ := gro_pre (E := E) (M := M) (N := N) (S := S) (c := c) (k := k) i
  rw [← ht]
  simp [List.getD, List.getElem?_append_left hj]
theorem gro_sub {E : List Ed} {M N : Nat} {S : Nat → Bool} {c k : Nat} {u : Nat} (h : (gro E M N S c k).2 u = true) : (gro E M N S c (k + 1)).2 u = true := by
  simp only [gro]
  split
  · simp [h]
  · exact h
theorem gro_done {E : List Ed} {M N : Nat} {S : Nat → Bool} {c : Nat} : ∀ k j, j < k → j < (gro E M N S c k).1.length → ∀ u, adjF E M ((gro E M N S c k).1.getD j 0) 0 u = true → (gro E M N S c k).2 u = true
  | 0, j, hj, _, _, _ => absurd hj (Nat.not_lt_zero _)
  | k + 1, j, hj, hl, u, ha => by
    by_cases h : k < (gro E M N S c k).1.length
    · by_cases e : j = k
      · subst e
        rw [gro_get h 1] at ha
        rw [gro_go h]
        show (_ || _) = true
        rw [ha, Bool.or_true]
      · have hj2 : j < (gro E M N S c k).1.length := by omega
        rw [gro_get hj2 1] at ha
        exact gro_sub (gro_done k j (by omega) hj2 u ha)
    · have e : gro E M N S c (k + 1) = gro E M N S c k := by simp only [gro]; rw [if_neg h]
      rw [e] at hl ha ⊢
      exact gro_done k j (by omega) hl u ha
/-- A growth is closed: what is joined with one of it has been seen. -/
theorem whole_closed {E : List Ed} {M N : Nat} {S : Nat → Bool} {c : Nat} (hc : c < N) {v u : Nat} (hv : v ∈ whole E M N S c) (hu : u < N) (ha : adjF E M v 0 u = true) : S u = true ∨ u ∈ whole E M N S c := by
  unfold whole at *
  obtain ⟨j, hj, rfl⟩ := List.mem_iff_getElem.1 hv
  rw [← gro_seen hc N u hu]
  have h2 := gro_short (E := E) (M := M) (S := S) hc N
  refine gro_done N j (by omega) hj u ?_
  rw [show (gro E M N S c N).1.getD j 0 = (gro E M N S c N).1[j] by simp [List.getD, hj]]
  exact ha
theorem gro_first {E : List Ed} {M N : Nat} {S : Nat → Bool} {c : Nat} : ∀ k, ∃ t, (gro E M N S c k).1 = c :: t := fun k => by
  obtain ⟨t, ht⟩ := gro_pre (E := E) (M := M) (N := N) (S := S) (c := c) (k := 0) k
  rw [Nat.zero_add] at ht
  exact ⟨t, by rw [← ht]; rfl⟩
theorem whole_first (E : List Ed) (M N : Nat) (S : Nat → Bool) (c : Nat) : c ∈ whole E M N S c := by
  obtain ⟨t, ht⟩ := gro_first (E := E) (M := M) (N := N) (S := S) (c := c) N
  unfold whole
  rw [ht]; simp
/-- A set of vertices that no step leaves, neither way. -/
def Shut (E : List Ed) (M N : Nat) (S : Nat → Bool) : Prop := ∀ u v, u < N → v < N → adjF E M u 0 v = true → S u = S v
/-- What was seen before and is shut changes nothing of a growth around one that was not. -/
theorem gro_apart {E : List Ed} {M N : Nat} {S : Nat → Bool} {c : Nat} (hc : c < N) (hS : Shut E M N S) (hcS : S c = false) : ∀ k, (gro E M N S c k).1 = (gro E M N (fun _ => false) c k).1 ∧ (∀ u, (gro E M N S c k).2 u = (S u || (gro E M N (fun _ => false) c k).2 u)) ∧ ∀ u, u ∈ (gro E M N S c k).1 → S u = false
  | 0 => ⟨rfl, fun u => by simp [gro], fun u hu => by simp [gro] at hu; rw [hu]; exact hcS⟩
  | k + 1 => by
    obtain ⟨h1, h2, h3⟩ := gro_apart hc hS hcS k
    by_cases h : k < (gro E M N S c k).1.length
    · have h' : k < (gro E M N (fun _ => false) c k).1.length := by rw [← h1]; exact h
      have hvm : (gro E M N S c k).1.getD k 0 ∈ (gro E M N S c k).1 := by simp [List.getD, List.getElem?_eq_getElem h]
      have hvS := h3 _ hvm
      have hvN := gro_at hc h
      rw [gro_go h, gro_go h', ← h1]
      generalize (gro E M N S c k).1.getD k 0 = v at *
      have he : ext E M N (gro E M N S c k).2 v = ext E M N (gro E M N (fun _ => false) c k).2 v := by
        unfold ext
        apply List.filter_congr
        intro u hu
        have hu : u < N := by simpa using hu
        rw [h2 u]
        by_cases ha : adjF E M v 0 u = true
        · have := hS v u hvN hu ha
          rw [hvS] at this
          rw [← this]; simp
        · have ha : adjF E M v 0 u = false := by simpa using ha
          rw [ha]; simp
      refine ⟨by rw [he], fun u => ?_, fun u hu => ?_⟩
      · show (_ || _) = (_ || (_ || _))
        rw [h2 u, Bool.or_assoc]
      · rcases List.mem_append.1 hu with hu | hu
        · exact h3 u hu
        · obtain ⟨hu1, hu2, hu3⟩ := mem_ext.1 hu
          have := hS v u hvN hu1 hu3
          rw [← this]; exact hvS
    · have h' : ¬ k < (gro E M N (fun _ => false) c k).1.length := by rw [← h1]; exact h
      have e1 : gro E M N S c (k + 1) = gro E M N S c k := by simp only [gro]; rw [if_neg h]
      have e2 : gro E M N (fun _ => false) c (k + 1) = gro E M N (fun _ => false) c k := by simp only [gro]; rw [if_neg h']
      rw [e1, e2]; exact ⟨h1, h2, h3⟩
/-- All vertices, growth after growth, and what has been seen. -/
def ordw (E : List Ed) (M N : Nat) : Nat → List Nat × (Nat → Bool)
  | 0 => ([], fun _ => false)
  | k + 1 => if (ordw E M N k).2 k = true then ordw E M N k else ((ordw E M N k).1 ++ whole E M N (ordw E M N k).2 k, (gro E M N (ordw E M N k).2 k N).2)
structure Ow (E : List Ed) (M N k : Nat) (p : List Nat × (Nat → Bool)) : Prop where
  nd : p.1.Nodup
  lt : ∀ u, u ∈ p.1 → u < N
  sn : ∀ u, u < N → (p.2 u = true ↔ u ∈ p.1)
  al : ∀ u, u < k → u ∈ p.1
  sh : Shut E M N p.2
theorem ordw_inv {E : List Ed} {M N : Nat} (hsy : ∀ u v, adjF E M u 0 v = adjF E M v 0 u) : ∀ k, k ≤ N → Ow E M N k (ordw E M N k)
  | 0, _ => ⟨by simp [ordw], fun u hu => by simp [ordw] at hu, fun u _ => by simp [ordw], fun u hu => absurd hu (Nat.not_lt_zero _), fun _ _ _ _ _ => rfl⟩
  | k + 1, hk => by
    have ih := ordw_inv (N := N) hsy k (by omega)
    by_cases h : (ordw E M N k).2 k = true
    · have e : ordw E M N (k + 1) = ordw E M N k := by simp only [ordw]; rw [if_pos h]
      rw [e]
      refine ⟨ih.nd, ih.lt, ih.sn, fun u hu => ?_, ih.sh⟩
      by_cases e2 : u = k
      · rw [e2]; exact (ih.sn k (by omega)).1 h
      · exact ih.al u (by omega)
    · have e : ordw E M N (k + 1) = ((ordw E M N k).1 ++ whole E M N (ordw E M N k).2 k, (gro E M N (ordw E M N k).2 k N).2) := by simp only [ordw]; rw [if_neg h]
      have hkS : (ordw E M N k).2 k = false := by simpa using h
      rw [e]
      have hkN : k < N := by omega
      have hi := gro_inv (E := E) (M := M) (S := (ordw E M N k).2) hkN N
      obtain ⟨_, _, hap⟩ := gro_apart (E := E) (M := M) hkN ih.sh hkS N
      have hseen := gro_seen (E := E) (M := M) (S := (ordw E M N k).2) hkN N
      have hsn : ∀ u, u < N → ((gro E M N (ordw E M N k).2 k N).2 u = true ↔ u ∈ (ordw E M N k).1 ++ whole E M N (ordw E M N k).2 k) := fun u hu => by
        refine (hseen u hu).trans ?_
        rw [ih.sn u hu, List.mem_append]
        exact Iff.rfl
      refine ⟨?_, ?_, hsn, ?_, ?_⟩
      · rw [List.nodup_append]
        refine ⟨ih.nd, hi.nd, fun a ha b hb e => ?_⟩
        subst e
        have h1 := (ih.sn a (ih.lt a ha)).2 ha
        rw [hap a hb] at h1
        cases h1
      · intro u hu
        rcases List.mem_append.1 hu with hu | hu
        · exact ih.lt u hu
        · exact hi.lt u hu
      · intro u hu
        by_cases e2 : u = k
        · subst e2; exact List.mem_append_right _ (whole_first _ _ _ _ _)
        · exact List.mem_append_left _ (ih.al u (by omega))
      · have half : ∀ u v, u < N → v < N → adjF E M u 0 v = true → (gro E M N (ordw E M N k).2 k N).2 u = true → (gro E M N (ordw E M N k).2 k N).2 v = true := fun u v hu hv ha h1 => by
          rw [hsn u hu, List.mem_append] at h1
          rw [hsn v hv, List.mem_append]
          rcases h1 with h1 | h1
          · left
            rw [← ih.sn v hv, ← ih.sh u v hu hv ha, ih.sn u hu]; exact h1
          · rcases whole_closed hkN h1 hv ha with h2 | h2
            · exact .inl ((ih.sn v hv).1 h2)
            · exact .inr h2
        intro u v hu hv ha
        rw [Bool.eq_iff_iff]
        exact ⟨half u v hu hv ha, half v u hv hu (by rw [← hsy]; exact ha)⟩
theorem nr_sym (l : List A) (v u : Nat) : nr l v u = nr l u v := by
  unfold nr
  congr 1
  funext x
  rw [Bool.or_comm, Bool.and_comm, Bool.and_comm (x.t == (u : Int))]
theorem adj_sym {l : List A} (hpo : ∀ x, x ∈ l → 0 ≤ x.f ∧ 0 ≤ x.t) (v u : Nat) : adjF (edl l) (2 * l.length) v 0 u = adjF (edl l) (2 * l.length) u 0 v := by
  rw [← nr_adj hpo, nr_sym, nr_adj hpo]
/-- The order of all has each vertex once. -/
theorem ordw_all {l : List A} {N : Nat} (hpo : ∀ x, x ∈ l → 0 ≤ x.f ∧ 0 ≤ x.t) : (ordw (edl l) (2 * l.length) N N).1.length = N ∧ (ordw (edl l) (2 * l.length) N N).1.Nodup ∧ ∀ u, u ∈ (ordw (edl l) (2 * l.length) N N).1 → u < N := by
  have h := ordw_inv (E := edl l) (M := 2 * l.length) (fun u v => adj_sym hpo u v) N (Nat.le_refl _)
  refine ⟨?_, h.nd, h.lt⟩
  have hp : (ordw (edl l) (2 * l.length) N N).1.Perm (List.range N) := (List.perm_ext_iff_of_nodup h.nd List.nodup_range).2 (fun u => by
    rw [List.mem_range]
    exact ⟨h.lt u, h.al u⟩)
  rw [hp.length_eq, List.length_range]
end Go.Proofs.Ytchfccbneedejaa
