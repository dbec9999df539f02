/-
  The contract of flyoverref03.Near.
-/
import Derived.Test.YtgpaoiddjlpcmaaZAB
import Derived.LoopN
namespace Go.Proofs.Ytgpaoiddjlpcmaa
open Go.RowKit
theorem nr_snoc (q : List A) (x : A) (v u : Nat) : nr (q ++ [x]) v u = (nr q v u || ((x.f == (v : Int) && x.t == (u : Int)) || (x.t == (v : Int) && x.f == (u : Int)))) := by simp [nr, List.any_append]
theorem take_snocN {p : List A} {k : Nat} (h : k < p.length) : p.take (k + 1) = p.take k ++ [p.getD k A.zero] := by
  rw [List.take_succ_eq_append_getElem h]
  simp [List.getD, List.getElem?_eq_getElem h]
theorem upd_true {F G : Nat → Bool} {t u : Nat} (h : ∀ u, G u = (F u || decide (u = t))) : updV (fun u => .bool (F u)) t (.bool true) u = .bool (G u) := by
  by_cases e : u = t
  · subst e; rw [updV_self, h]; simp
  · rw [updV_ne _ _ e, h]; simp [e]
set_option maxRecDepth 100000 in
set_option maxHeartbeats 1600000 in
theorem rnear_any (n v : Nat) (a : Option Addr) (l : List A) (cap : Nat) (w : World) (hn : n ≤ 1024) (hl : l.length ≤ 8192) (hv : v < n) (hpo : ∀ x, x ∈ l → (0 ≤ x.f ∧ x.f < n) ∧ 0 ≤ x.t ∧ x.t < n) (hr : Arcs w a l) :
    Calls Try.prog 44 #[.agg #[.int .i64 n, .slice a l.length cap], .int .i64 v] w fun e w' => ∃ b, e = .returned (.slice (some ⟨b, 0, none⟩) n n) ∧ w.heap.size ≤ b ∧ TbV w' b n 4 (fun u => .bool (nr l v u && !decide (u = v))) ∧ Below w.heap.size w w' := by
  have hb0 : Below w.heap.size w (w.alloc (.cells #[.int .i64 n, .slice a l.length cap] 24)) := (Below.refl _ _).alloc (Nat.le_refl _) _
  have hg := heap_top w (.cells #[.int .i64 n, .slice a l.length cap] 24)
  obtain ⟨ba, oa, hab⟩ : ∃ b o, 0 < l.length → a = some ⟨b, o, none⟩ ∧ b < w.heap.size ∧ ∀ j, j < l.length → (l.getD j A.zero).at w b (o + j * 3) := by
    rcases hr with rfl | ⟨b, o, h⟩
    · exact ⟨0, 0, fun h => absurd h (by simp)⟩
    · exact ⟨b, o, fun _ => h⟩
  have HAB := Lib.hid hab
  have HPO := Lib.hid hpo
  obtain ⟨i4, hi4, hz4, hs4, hb4⟩ := info_parts info4
  have hmkB : ∀ w, (Instr.makeSlice 83 (.int .i64 n) (.int .i64 n)).run Try.prog w = .ok (.slice (some ⟨w.heap.size, 0, none⟩) n n) (w.alloc (.cells ((List.range n).map (fun _ => Value.bool false)).toArray 4)) := fun w => by
    have := run_make (P := Try.prog) w 83 4 i4 (.bool false) Try.underlying83 hi4 hz4 .i64 .i64 n n (by omega) (by omega) (by rw [hb4]; omega) (by omega)
    rw [this, Int.toNat_natCast, hs4, made_bool]
  clear hi4 hz4 hs4 hb4 hab hpo hr
  clear i4
  generalize hp : w.heap.size = p at *
  have hgv := (Below.heap_alloc (w.alloc (.cells #[.int .i64 n, .slice a l.length cap] 24)) (.cells ((List.range n).map (fun _ => Value.bool false)).toArray 4) p (lt_of_block hg)).trans hg
  have HT0 : Hid (TbV ((w.alloc (.cells #[.int .i64 n, .slice a l.length cap] 24)).alloc (.cells ((List.range n).map (fun _ => Value.bool false)).toArray 4)) (p + 1) n 4 (fun _ => .bool false)) := by
    have := heap_top (w.alloc (.cells #[.int .i64 n, .slice a l.length cap] 24)) (.cells ((List.range n).map (fun _ => Value.bool false)).toArray 4)
    rw [World.size_alloc, hp] at this
    exact this
  have HBV : Hid (Below p w ((w.alloc (.cells #[.int .i64 n, .slice a l.length cap] 24)).alloc (.cells ((List.range n).map (fun _ => Value.bool false)).toArray 4))) := hb0.alloc (by simp; omega) _
  go_enter Try.func44, Try.ntmps44
  go_wp2_with fail
  generalize hV : (w.alloc (.cells #[.int .i64 n, .slice a l.length cap] 24)).alloc (.cells ((List.range n).map (fun _ => Value.bool false)).toArray 4) = V at *
  clear hV hmkB hg hb0
  go_loopw [6] (fun i wr => ∃ k : Nat, k ≤ l.length ∧ i = .int .i64 k ∧ TbV wr (p + 1) n 4 (fun u => .bool (nr (l.take k) v u)) ∧ Hid (Fr (fun j => j = p + 1) V wr)) (fun i _ => l.length - (intOf i).toNat)
  case atStart => exact ⟨0, Nat.zero_le _, rfl, HT0.out.congr (fun v _ => by simp [nr]), Fr.refl _ _⟩
  case round =>
    obtain ⟨k, hk, rfl, htq, HF⟩ := hrel
    have HBR := Lib.hid (HBV.out.trans (HF.out.below (B := p) (hp ▸ HBV.out.size) (fun k e => by have e : k = p + 1 := e; omega)))
    have hgr := (HF.out.block p (lt_of_block hgv) (fun e => by have e : p = p + 1 := e; omega)).trans hgv
    obtain ⟨⟨g0, g1⟩, _⟩ := two_cells hgr
    by_cases hlt : k < l.length
    · obtain ⟨rfl, hbl, hat⟩ := HAB.out (by omega)
      have hlt' : (k : Int) < l.length := by omega
      obtain ⟨x0, x1, x2⟩ := (hat k hlt).on (by rw [hp]; exact HBR.out)
      have HMEM := Lib.hid (HPO.out (l.getD k A.zero) (by simp [List.getD, List.getElem?_eq_getElem hlt]))
      have HTS := Lib.hid (take_snocN hlt)
      clear hat
      generalize l.getD k A.zero = x at *
      obtain ⟨s, hs⟩ : ∃ u : Nat, x.f = u := ⟨x.f.toNat, by have := HMEM.out; omega⟩
      obtain ⟨t, ht⟩ : ∃ t : Nat, x.t = t := ⟨x.t.toNat, by have := HMEM.out; omega⟩
      have hsn : s < n := by have := HMEM.out; omega
      have htn : t < n := by have := HMEM.out; omega
      have HN : Hid (∀ u, nr (l.take (k + 1)) v u = (nr (l.take k) v u || ((decide (s = v) && decide (u = t)) || (decide (t = v) && decide (u = s))))) := fun u => by
        rw [HTS.out, nr_snoc, hs, ht]
        congr 1
        rw [Bool.eq_iff_iff]
        simp
        omega
      rw [hs] at x0
      rw [ht] at x1
      clear hs ht
      have hsn' : (s : Int) < n := by omega
      have htn' : (t : Int) < n := by omega
      have hx5 := heap_top wr (.cells #[.int .i64 (s : Int), .int .i64 (t : Int), .int .u32 x.w] 51)
      obtain ⟨z0, z1, z2⟩ := three_cells hx5
      have htq5 := htq.same (Below.heap_alloc wr (.cells #[.int .i64 (s : Int), .int .i64 (t : Int), .int .u32 x.w] 51) (p + 1) htq.lt)
      have s1 := htq5.cell hsn
      have s2 := htq5.cell htn
      have s3 := htq5.free s
      have s4 := htq5.free t
      have hwq : wr.heap.size ≠ p + 1 := Nat.ne_of_gt htq.lt
      have hwq' := hwq.symm
      have HTQ5 := Lib.hid htq5
      have HFA := Lib.hid (HF.out.alloc (.cells #[.int .i64 (s : Int), .int .i64 (t : Int), .int .u32 x.w] 51))
      clear htq htq5
      by_cases h1 : s = v
      · have h1' : ((s : Int) == (v : Int)) = true := by simp [h1]
        have H1 := Lib.hid h1
        clear h1
        by_cases h2 : t = v
        · have h2' : ((t : Int) == (v : Int)) = true := by simp [h2]
          have H2 := Lib.hid h2
          clear h2
          have d1 := ((HTQ5.out.set t (.bool true)).cell hsn)
          have d2 := ((HTQ5.out.set t (.bool true)).free s)
          go_wp2_with fail
          refine ⟨⟨k + 1, by omega, by simp, ((HTQ5.out.set t (.bool true)).set s (.bool true)).congr (fun u _ => ?_), (HFA.out.setCell ⟨p + 1, t, none⟩ _ rfl).setCell ⟨p + 1, s, none⟩ _ rfl⟩, by simp [intOf]; omega⟩
          have e1 : ∀ u, updV (fun u => .bool (nr (l.take k) v u)) t (.bool true) u = .bool (nr (l.take k) v u || decide (u = t)) := fun u => upd_true (fun _ => rfl)
          rw [show updV (fun u => Value.bool (nr (l.take k) v u)) t (.bool true) = fun u => .bool (nr (l.take k) v u || decide (u = t)) from funext e1]
          refine upd_true (fun u => ?_)
          rw [HN.out, decide_eq_true H1.out, decide_eq_true H2.out, Bool.true_and, Bool.true_and, Bool.or_assoc]
        · have h2' : ((t : Int) == (v : Int)) = false := by simp; omega
          have H2 := Lib.hid h2
          clear h2
          go_wp2_with fail
          refine ⟨⟨k + 1, by omega, by simp, (HTQ5.out.set t (.bool true)).congr (fun u _ => upd_true (fun u => ?_)), HFA.out.setCell ⟨p + 1, t, none⟩ _ rfl⟩, by simp [intOf]; omega⟩
          rw [HN.out, decide_eq_true H1.out, decide_eq_false H2.out, Bool.true_and, Bool.false_and, Bool.or_false]
      · have h1' : ((s : Int) == (v : Int)) = false := by simp; omega
        have H1 := Lib.hid h1
        clear h1
        by_cases h2 : t = v
        · have h2' : ((t : Int) == (v : Int)) = true := by simp [h2]
          have H2 := Lib.hid h2
          clear h2
          go_wp2_with fail
          refine ⟨⟨k + 1, by omega, by simp, (HTQ5.out.set s (.bool true)).congr (fun u _ => upd_true (fun u => ?_)), HFA.out.setCell ⟨p + 1, s, none⟩ _ rfl⟩, by simp [intOf]; omega⟩
          rw [HN.out, decide_eq_false H1.out, decide_eq_true H2.out, Bool.true_and, Bool.false_and, Bool.false_or]
        · have h2' : ((t : Int) == (v : Int)) = false := by simp; omega
          have H2 := Lib.hid h2
          clear h2
          go_wp2_with fail
          refine ⟨⟨k + 1, by omega, by simp, HTQ5.out.congr (fun u _ => ?_), HFA⟩, by simp [intOf]; omega⟩
          rw [HN.out, decide_eq_false H1.out, decide_eq_false H2.out, Bool.false_and, Bool.false_and, Bool.or_false, Bool.or_false]
    · obtain rfl : k = l.length := by omega
      have hlt' : ¬ (l.length : Int) < l.length := by omega
      rw [List.take_length] at htq
      have c1 := htq.cell hv
      have c2 := htq.free v
      have HTQ := Lib.hid htq
      have hv' : (v : Int) < n := by omega
      clear htq
      go_wp2_with fail
      go_ret
      refine ⟨p + 1, rfl, by omega, (HTQ.out.set v (.bool false)).congr (fun u _ => ?_), ?_⟩
      · by_cases e : u = v
        · subst e; rw [updV_self]; simp
        · rw [updV_ne _ _ e]; simp [e]
      · exact HBR.out.setCell (by show p ≤ p + 1; omega) _
end Go.Proofs.Ytgpaoiddjlpcmaa
