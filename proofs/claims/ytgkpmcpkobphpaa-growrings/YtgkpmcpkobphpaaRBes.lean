/-
  The contracts of flyoverref07.Beside, Ring.
-/
import Derived.Test.YtgkpmcpkobphpaaRAll
import Derived.Test.YtgkpmcpkobphpaaRNear
import Derived.Test.YtgkpmcpkobphpaaRing
import Derived.Test.YtgkpmcpkobphpaaRChk
namespace Go.Proofs.Ytgkpmcpkobphpaa
open Go.RowKit
/-- Some arc leads from a member to v, or from v to one, and v is none. -/
def oth (q : List A) (xs : List Int) (v : Nat) : Bool := q.any (fun x => (decide (x.f ∈ xs) && !decide (x.t ∈ xs) && (x.t == (v : Int))) || (decide (x.t ∈ xs) && !decide (x.f ∈ xs) && (x.f == (v : Int))))
theorem oth_snoc (q : List A) (x : A) (xs : List Int) (v : Nat) : oth (q ++ [x]) xs v = (oth q xs v || ((decide (x.f ∈ xs) && !decide (x.t ∈ xs) && (x.t == (v : Int))) || (decide (x.t ∈ xs) && !decide (x.f ∈ xs) && (x.f == (v : Int))))) := by simp [oth, List.any_append]
theorem oth_bes (l : List A) (xs : List Int) (v : Nat) : oth l xs v = (bes l xs v && !decide ((v : Int) ∈ xs)) := by
  rw [Bool.eq_iff_iff, Bool.and_eq_true]
  unfold oth bes
  rw [List.any_eq_true, List.any_eq_true]
  constructor
  · rintro ⟨x, hx, h⟩
    simp only [Bool.or_eq_true, Bool.and_eq_true, beq_iff_eq, Bool.not_eq_true', decide_eq_true_eq, decide_eq_false_iff_not] at h
    rcases h with ⟨⟨h1, h2⟩, h3⟩ | ⟨⟨h1, h2⟩, h3⟩
    · rw [h3] at h2
      refine ⟨⟨x, hx, by simp [h1, h2, h3]⟩, ?_⟩
      simp [h2]
    · rw [h3] at h2
      refine ⟨⟨x, hx, by simp [h1, h2, h3]⟩, ?_⟩
      simp [h2]
  · rintro ⟨⟨x, hx, h⟩, h4⟩
    refine ⟨x, hx, ?_⟩
    simp only [Bool.or_eq_true, Bool.and_eq_true, beq_iff_eq, bne_iff_ne, ne_eq, Bool.not_eq_true', decide_eq_false_iff_not] at h h4
    obtain ⟨hd, e | e⟩ := h
    · rw [e] at hd ⊢
      by_cases h5 : x.t ∈ xs
      · simp [h4, h5]
      · simp [h4, h5] at hd
    · rw [e] at hd ⊢
      by_cases h5 : x.f ∈ xs
      · simp [h4, h5]
      · simp [h4, h5] at hd
theorem allk_rgk (l : List A) (xs : List Int) (n : Nat) : allk (oth l xs) n = rgk l xs n := by
  unfold allk rgk
  apply List.filter_congr
  intro v _
  exact oth_bes l xs v
theorem oth_at {q : List A} {x : A} {xs : List Int} {t : Nat} (h : ∀ v : Nat, ((decide (x.f ∈ xs) && !decide (x.t ∈ xs) && (x.t == (v : Int))) || (decide (x.t ∈ xs) && !decide (x.f ∈ xs) && (x.f == (v : Int)))) = decide (v = t)) (v : Nat) : updV (fun u => .bool (oth q xs u)) t (.bool true) v = .bool (oth (q ++ [x]) xs v) := upd_true (G := oth (q ++ [x]) xs) (fun u => by rw [oth_snoc, h u])
set_option maxRecDepth 100000 in
set_option maxHeartbeats 1600000 in
theorem rbeside_any (n : Nat) (a a' : Option Addr) (l : List A) (xs : List Int) (cap cap' : Nat) (w : World) (hn : n ≤ 1024) (hl : l.length ≤ 8192) (hpo : ∀ x, x ∈ l → (0 ≤ x.f ∧ x.f < n) ∧ 0 ≤ x.t ∧ x.t < n) (hr : Arcs w a l) (hlx : xs.length ≤ 16384) (hxo : xs.all (okV n) = true) (hrx : Ints w a' xs) :
    Calls Try.prog 36 #[.agg #[.int .i64 n, .slice a l.length cap], .slice a' xs.length cap'] w fun e w' => ∃ v, e = .returned v ∧ w'.ownsRow w.heap.size 3 1 v (rgk l xs n).length (cellsI (ints (rgk l xs n))) ∧ Below w.heap.size w w' := by
  have hb0 : Below w.heap.size w (w.alloc (.cells #[.int .i64 n, .slice a l.length cap] 24)) := (Below.refl _ _).alloc (Nat.le_refl _) _
  have hg := heap_top w (.cells #[.int .i64 n, .slice a l.length cap] 24)
  obtain ⟨ba, oa, hab⟩ : ∃ b o, 0 < l.length → a = some ⟨b, o, none⟩ ∧ b < w.heap.size ∧ ∀ j, j < l.length → (l.getD j A.zero).at w b (o + j * 3) := by
    rcases hr with rfl | ⟨b, o, h⟩
    · exact ⟨0, 0, fun h => absurd h (by simp)⟩
    · exact ⟨b, o, fun _ => h⟩
  have HAB := Lib.hid hab
  have HPO := Lib.hid hpo
  have HXO := Lib.hid hxo
  obtain ⟨ix, ox, hix⟩ := hrx.get
  have HIX := Lib.hid hix
  obtain ⟨i4, hi4, hz4, hs4, hb4⟩ := info_parts info4
  have hmkB : ∀ w, (Instr.makeSlice 48 (.int .i64 n) (.int .i64 n)).run Try.prog w = .ok (.slice (some ⟨w.heap.size, 0, none⟩) n n) (w.alloc (.cells ((List.range n).map (fun _ => Value.bool false)).toArray 4)) := fun w => by
    have := run_make (P := Try.prog) w 48 4 i4 (.bool false) Try.underlying48 hi4 hz4 .i64 .i64 n n (by omega) (by omega) (by rw [hb4]; omega) (by omega)
    rw [this, Int.toNat_natCast, hs4, made_bool]
  clear hi4 hz4 hs4 hb4 hab hpo hr hix hrx hxo
  clear i4
  generalize hp : w.heap.size = p at *
  have hgv := (Below.heap_alloc ((w.alloc (.cells #[.int .i64 n, .slice a l.length cap] 24)).alloc (.cells ((List.range n).map (fun _ => Value.bool false)).toArray 4)) (.cells ((List.range n).map (fun _ => Value.bool false)).toArray 4) p (by simp; omega)).trans ((Below.heap_alloc (w.alloc (.cells #[.int .i64 n, .slice a l.length cap] 24)) (.cells ((List.range n).map (fun _ => Value.bool false)).toArray 4) p (lt_of_block hg)).trans hg)
  have HT0 : Hid (TbV (((w.alloc (.cells #[.int .i64 n, .slice a l.length cap] 24)).alloc (.cells ((List.range n).map (fun _ => Value.bool false)).toArray 4)).alloc (.cells ((List.range n).map (fun _ => Value.bool false)).toArray 4)) (p + 1) n 4 (fun _ => .bool false)) := by
    have := heap_top (w.alloc (.cells #[.int .i64 n, .slice a l.length cap] 24)) (.cells ((List.range n).map (fun _ => Value.bool false)).toArray 4)
    rw [World.size_alloc, hp] at this
    exact (Below.heap_alloc _ _ _ (lt_of_block this)).trans this
  have HT1 : Hid (TbV (((w.alloc (.cells #[.int .i64 n, .slice a l.length cap] 24)).alloc (.cells ((List.range n).map (fun _ => Value.bool false)).toArray 4)).alloc (.cells ((List.range n).map (fun _ => Value.bool false)).toArray 4)) (p + 1 + 1) n 4 (fun _ => .bool false)) := by
    have := heap_top ((w.alloc (.cells #[.int .i64 n, .slice a l.length cap] 24)).alloc (.cells ((List.range n).map (fun _ => Value.bool false)).toArray 4)) (.cells ((List.range n).map (fun _ => Value.bool false)).toArray 4)
    rw [World.size_alloc, World.size_alloc, hp] at this
    exact this
  have HBV : Hid (Below p w (((w.alloc (.cells #[.int .i64 n, .slice a l.length cap] 24)).alloc (.cells ((List.range n).map (fun _ => Value.bool false)).toArray 4)).alloc (.cells ((List.range n).map (fun _ => Value.bool false)).toArray 4))) := (hb0.alloc (by simp; omega) _).alloc (by simp; omega) _
  go_enter Try.func36, Try.ntmps36
  go_wp2_with fail
  generalize hV : ((w.alloc (.cells #[.int .i64 n, .slice a l.length cap] 24)).alloc (.cells ((List.range n).map (fun _ => Value.bool false)).toArray 4)).alloc (.cells ((List.range n).map (fun _ => Value.bool false)).toArray 4) = V at *
  clear hV hmkB hg hb0
  have hVs : p + 1 + 1 < V.heap.size := HT1.out.lt
  go_loopw [7] (fun i wr => ∃ k : Nat, k ≤ xs.length ∧ i = .int .i64 k ∧ TbV wr (p + 1) n 4 (marks (xs.take k)) ∧ Hid (Fr (fun j => j = p + 1) V wr)) (fun i _ => xs.length - (intOf i).toNat)
  case atStart => exact ⟨0, Nat.zero_le _, rfl, HT0.out.congr (fun v _ => by simp [marks]), Fr.refl _ _⟩
  case round =>
    obtain ⟨k, hk, rfl, htb, HF⟩ := hrel
    have HBR := Lib.hid (HBV.out.trans (HF.out.below (B := p) (hp ▸ HBV.out.size) (fun k e => by have e : k = p + 1 := e; omega)))
    by_cases hlt : k < xs.length
    · obtain ⟨rfl, hbl, hat⟩ := HIX.out (by omega)
      have hlt' : (k : Int) < xs.length := by omega
      have cx := (HBR.out.cell (p := ⟨ix, ox + k, none⟩) hbl).trans (hat k hlt)
      have HTS := Lib.hid (take_snocI hlt)
      obtain ⟨hx0, hx1⟩ := okV_t (List.all_eq_true.1 HXO.out (xs.getD k 0) (by simp [List.getD, List.getElem?_eq_getElem hlt]))
      obtain ⟨u, hu⟩ : ∃ u : Nat, xs.getD k 0 = u := ⟨(xs.getD k 0).toNat, by omega⟩
      rw [hu] at cx HTS hx1
      have hun : u < n := by omega
      have d1 := htb.cell hun
      have d2 := htb.free u
      clear hat hu hx0
      go_wp2_with fail
      refine ⟨⟨k + 1, by omega, by simp, (htb.set u (.bool true)).congr (fun v _ => ?_), HF.out.setCell ⟨p + 1, u, none⟩ _ rfl⟩, by simp [intOf]; omega⟩
      rw [HTS.out]; exact marks_snoc _ u v
    · obtain rfl : k = xs.length := by omega
      have hlt' : ¬ (xs.length : Int) < xs.length := by omega
      rw [List.take_length] at htb
      have HTX := Lib.hid htb
      have HT2 := Lib.hid (HT1.out.fr HF.out (fun e => by have e : p + 1 + 1 = p + 1 := e; omega))
      have hg3 := (HF.out.block p (lt_of_block hgv) (fun e => by have e : p = p + 1 := e; omega)).trans hgv
      have hW3 : p + 1 + 1 < wr.heap.size := Nat.lt_of_lt_of_le hVs HF.out.size
      clear htb hlt hlt' HF hk
      go_wp2_with fail
      generalize wr = w3 at *
      go_loopw [8] (fun i wr => ∃ k : Nat, k ≤ l.length ∧ i = .int .i64 k ∧ TbV wr (p + 1 + 1) n 4 (fun v => .bool (oth (l.take k) xs v)) ∧ Hid (Fr (fun j => j = p + 1 + 1) w3 wr)) (fun i _ => l.length - (intOf i).toNat)
      case atStart => exact ⟨0, Nat.zero_le _, rfl, HT2.out.congr (fun v _ => by simp [oth]), Fr.refl _ _⟩
      case round =>
        obtain ⟨k, hk, rfl, htb, HF⟩ := hrel
        have HBR2 := Lib.hid (HBR.out.trans (HF.out.below (B := p) (by omega) (fun k e => by have e : k = p + 1 + 1 := e; omega)))
        have htx := HTX.out.fr HF.out (fun e => by have e : p + 1 = p + 1 + 1 := e; omega)
        have hgr := (HF.out.block p (lt_of_block hg3) (fun e => by have e : p = p + 1 + 1 := e; omega)).trans hg3
        obtain ⟨⟨g0, g1⟩, _⟩ := two_cells hgr
        have hWr : p + 1 + 1 < wr.heap.size := Nat.lt_of_lt_of_le hW3 HF.out.size
        by_cases hlt : k < l.length
        · obtain ⟨rfl, hbl, hat⟩ := HAB.out (by omega)
          have hlt' : (k : Int) < l.length := by omega
          obtain ⟨x0, x1, x2⟩ := (hat k hlt).on (by rw [hp]; exact HBR2.out)
          have HMEM := Lib.hid (HPO.out (l.getD k A.zero) (by simp [List.getD, List.getElem?_eq_getElem hlt]))
          have HTS := Lib.hid (take_snocN hlt)
          clear hat
          generalize l.getD k A.zero = x at *
          obtain ⟨⟨f0, f1⟩, t0, t1⟩ := HMEM.out
          obtain ⟨xf, xt, xw⟩ := x
          obtain ⟨f, hf⟩ : ∃ f : Nat, xf = f := ⟨xf.toNat, by have : 0 ≤ xf := f0; omega⟩
          obtain ⟨t, ht⟩ : ∃ t : Nat, xt = t := ⟨xt.toNat, by have : 0 ≤ xt := t0; omega⟩
          subst hf ht
          have hfn : f < n := by have : (f : Int) < n := f1; omega
          have htn : t < n := by have : (t : Int) < n := t1; omega
          have hfn' : (f : Int) < n := by omega
          have htn' : (t : Int) < n := by omega
          have htx2 : TbV (wr.alloc (.cells #[.int .i64 (f : Int), .int .i64 (t : Int), .int .u32 xw] 42)) (p + 1) n 4 (marks xs) := htx.same (Below.heap_alloc _ _ _ (by omega))
          have df := htx2.cell hfn
          have dt := htx2.cell htn
          unfold marks at df dt
          have HF2 : Hid (Fr (fun j => j = p + 1 + 1) w3 (wr.alloc (.cells #[.int .i64 (f : Int), .int .i64 (t : Int), .int .u32 xw] 42))) := HF.out.alloc _
          have htb2 : TbV (wr.alloc (.cells #[.int .i64 (f : Int), .int .i64 (t : Int), .int .u32 xw] 42)) (p + 1 + 1) n 4 (fun v => .bool (oth (l.take k) xs v)) := htb.same (Below.heap_alloc _ _ _ (by omega))
          have HTB2 := Lib.hid htb2
          have HTB := Lib.hid htb
          have ef := htb2.cell hfn
          have et := htb2.cell htn
          have eff := htb2.free f
          have etf := htb2.free t
          have hq1 : p + 1 + 1 ≠ wr.heap.size := by omega
          have hq2 : p + 1 ≠ wr.heap.size := by omega
          have hq1' := hq1.symm
          have hq2' := hq2.symm
          clear htb htb2 htx2
          generalize oth (l.take k) xs f = of' at *
          generalize oth (l.take k) xs t = ot' at *
          by_cases hif : (f : Int) ∈ xs
          · by_cases hit : (t : Int) ∈ xs
            · rw [decide_eq_true hif] at df
              rw [decide_eq_true hit] at dt
              go_wp2_with fail
              refine ⟨⟨k + 1, by omega, by simp, HTB2.out.congr (fun v _ => ?_), HF2⟩, by simp [intOf]; omega⟩
              rw [HTS.out, oth_snoc]; simp [hif, hit]
            · rw [decide_eq_true hif] at df
              rw [decide_eq_false hit] at dt
              have htx3 : TbV ((wr.setCell ⟨p + 1 + 1, t, none⟩ (.bool true)).alloc (.cells #[.int .i64 (f : Int), .int .i64 (t : Int), .int .u32 xw] 42)) (p + 1) n 4 (marks xs) := (htx.same (Below.heap_setCell wr _ _ _ (by show p + 1 ≠ p + 1 + 1; omega))).same (Below.heap_alloc _ _ _ (by simp [World.setCell]; omega))
              have d3f := htx3.cell hfn
              have d3t := htx3.cell htn
              unfold marks at d3f d3t
              rw [decide_eq_true hif] at d3f
              rw [decide_eq_false hit] at d3t
              clear htx3
              go_wp2_with fail
              refine ⟨⟨k + 1, by omega, by simp, ?_, ?_⟩, by simp [intOf]; omega⟩
              · refine ((HTB.out.set t (.bool true)).same (Below.heap_alloc _ _ _ (by simp [World.setCell]; omega))).congr (fun v _ => ?_)
                rw [HTS.out]
                exact oth_at (fun v => by rw [Bool.eq_iff_iff]; simp [hif, hit]; omega) v
              · exact (HF.out.setCell ⟨p + 1 + 1, t, none⟩ _ rfl).alloc _
          · by_cases hit : (t : Int) ∈ xs
            · rw [decide_eq_false hif] at df
              rw [decide_eq_true hit] at dt
              go_wp2_with fail
              refine ⟨⟨k + 1, by omega, by simp, ?_, ?_⟩, by simp [intOf]; omega⟩
              · refine ((HTB.out.set f (.bool true)).same (Below.heap_alloc _ _ _ (by simp [World.setCell]; omega))).congr (fun v _ => ?_)
                rw [HTS.out]
                exact oth_at (fun v => by rw [Bool.eq_iff_iff]; simp [hif, hit]; omega) v
              · exact (HF.out.setCell ⟨p + 1 + 1, f, none⟩ _ rfl).alloc _
            · rw [decide_eq_false hif] at df
              rw [decide_eq_false hit] at dt
              go_wp2_with fail
              refine ⟨⟨k + 1, by omega, by simp, HTB2.out.congr (fun v _ => ?_), HF2⟩, by simp [intOf]; omega⟩
              rw [HTS.out, oth_snoc]; simp [hif, hit]
        · have e0 : l.take k = l := List.take_of_length_le (by omega)
          have hlt' : ¬ (k : Int) < l.length := by omega
          rw [e0] at htb
          have HTB := Lib.hid htb
          clear htb e0
          go_wp2_with fail
          refine (rall_any hn HTB.out).mono ?_
          rintro e w6 ⟨v, rfl, hown, hb6⟩
          rw [allk_rgk] at hown
          obtain ⟨av, cv, rfl⟩ := own_slice hown
          have HOW := Lib.hid (own_base hown (show p ≤ wr.heap.size by omega))
          have HB6 : Hid (Below p w w6) := HBR2.out.trans (hb6.mono (by omega))
          clear hown hb6
          go_wp2_with fail
          go_ret
          exact ⟨_, rfl, HOW.out, HB6.out⟩
end Go.Proofs.Ytgkpmcpkobphpaa
