/-
  The contract of grow.Ring.
-/
import Derived.Test.YtgkpmcpkobphpaaMarked
import Derived.Test.YtgkpmcpkobphpaaApp
import Derived.LoopN
namespace Go.Proofs.Ytgkpmcpkobphpaa
open Go.RowKit
/-- Some arc leads out of or into the members and ends at v. -/
def bes (q : List A) (xs : List Int) (v : Nat) : Bool := q.any (fun x => (decide (x.f ∈ xs) != decide (x.t ∈ xs)) && (x.f == (v : Int) || x.t == (v : Int)))
theorem bes_snoc (q : List A) (x : A) (xs : List Int) (v : Nat) : bes (q ++ [x]) xs v = (bes q xs v || ((decide (x.f ∈ xs) != decide (x.t ∈ xs)) && (x.f == (v : Int) || x.t == (v : Int)))) := by simp [bes, List.any_append]
/-- The ring among the first k vertices. -/
def rgk (l : List A) (xs : List Int) (k : Nat) : List Nat := (List.range k).filter (fun v => bes l xs v && !decide ((v : Int) ∈ xs))
theorem rgk_succ (l : List A) (xs : List Int) (k : Nat) : rgk l xs (k + 1) = if (bes l xs k && !decide ((k : Int) ∈ xs)) = true then rgk l xs k ++ [k] else rgk l xs k := by
  unfold rgk
  rw [List.range_succ, List.filter_append]
  by_cases h : (bes l xs k && !decide ((k : Int) ∈ xs)) = true
  · rw [if_pos h]; simp [h]
  · rw [if_neg h]; simp [h]
theorem rgk_len (l : List A) (xs : List Int) (k : Nat) : (rgk l xs k).length ≤ k := Nat.le_trans (List.length_filter_le _ _) (by simp)
def ringE (N : Int) (l : List A) (xs : List Int) : Int := if chkE N l ≠ 0 then chkE N l else mkE N xs
theorem bes_same {q : List A} {x : A} {xs : List Int} {v : Nat} (h : decide (x.f ∈ xs) = decide (x.t ∈ xs)) : bes (q ++ [x]) xs v = bes q xs v := by
  rw [bes_snoc, h]; simp
theorem bes_diff {q : List A} {x : A} {xs : List Int} {v u t : Nat} (hu : x.f = u) (ht : x.t = t) (h : decide (x.f ∈ xs) ≠ decide (x.t ∈ xs)) : bes (q ++ [x]) xs v = (bes q xs v || decide (v = u) || decide (v = t)) := by
  have h1 : (decide (x.f ∈ xs) != decide (x.t ∈ xs)) = true := by rw [bne_iff_ne]; exact h
  rw [bes_snoc, h1, Bool.true_and, hu, ht, Bool.or_assoc]
  congr 1
  congr 1
  · rw [Bool.eq_iff_iff]; simp; omega
  · rw [Bool.eq_iff_iff]; simp; omega
theorem two_upd {F : Nat → Bool} {u t v : Nat} : updV (updV (fun v => .bool (F v)) u (.bool true)) t (.bool true) v = .bool (F v || decide (v = u) || decide (v = t)) := by
  by_cases h1 : v = t
  · subst h1; rw [updV_self]; simp
  · rw [updV_ne _ _ h1]
    by_cases h2 : v = u
    · subst h2; rw [updV_self]; simp
    · rw [updV_ne _ _ h2]; simp [h1, h2]
theorem two_upd2 {F : Nat → Bool} {u t v : Nat} : updV (updV (fun v => .bool (F v)) t (.bool true)) u (.bool true) v = .bool (F v || decide (v = u) || decide (v = t)) := by
  rw [two_upd, Bool.or_assoc, Bool.or_assoc, Bool.or_comm (decide (v = t))]
theorem take_snocA {p : List A} {k : Nat} (h : k < p.length) : p.take (k + 1) = p.take k ++ [p.getD k A.zero] := by
  rw [List.take_succ_eq_append_getElem h]
  simp [List.getD, List.getElem?_eq_getElem h]
set_option maxRecDepth 100000 in
set_option maxHeartbeats 1600000 in
theorem ring_any (N : Int) (a a' : Option Addr) (l : List A) (xs : List Int) (cap cap' : Nat) (w : World) (hl : l.length ≤ 9223372036854775807) (hr : Arcs w a l) (hlx : xs.length ≤ 9223372036854775807) (hrx : Ints w a' xs) :
    Calls Try.prog 19 #[.agg #[.int .i64 N, .slice a l.length cap], .slice a' xs.length cap'] w fun e w' => ∃ v ys, e = .returned (.tuple #[v, .int .i64 (ringE N l xs)]) ∧ w'.ownsRow w.heap.size 3 1 v ys.length (cellsI (ints ys)) ∧ ys = (if ringE N l xs = 0 then rgk l xs N.toNat else []) ∧ Below w.heap.size w w' := by
  have hb0 : Below w.heap.size w (w.alloc (.cells #[.int .i64 N, .slice a l.length cap] 24)) := (Below.refl _ _).alloc (Nat.le_refl _) _
  have hg := heap_top w (.cells #[.int .i64 N, .slice a l.length cap] 24)
  have hr2 := hr.on hb0
  have hsz : w.heap.size ≤ (w.alloc (.cells #[.int .i64 N, .slice a l.length cap] 24)).heap.size := hb0.size
  obtain ⟨E, HE⟩ := named (ringE N l xs)
  obtain ⟨C, HC⟩ := named (chkE N l)
  obtain ⟨AT, HAT⟩ := named (chkAt N l)
  rw [HE.out]
  have HAR := Lib.hid hr
  have HIX := Lib.hid hrx
  generalize hp : w.heap.size = p at *
  go_enter Try.func19, Try.ntmps19
  go_wp2_with fail
  generalize hW : w.alloc (.cells #[.int .i64 N, .slice a l.length cap] 24) = W at *
  refine (check_any N a l cap W hl hr2).mono ?_
  rintro e w1 ⟨rfl, hb1⟩
  rw [HC.out, HAT.out]
  have hg1 := (hb1.block _ (lt_of_block hg)).trans hg
  have HB1 : Hid (Below p w w1) := hb0.trans (hb1.mono hsz)
  obtain ⟨⟨g0, g1⟩, _⟩ := two_cells hg1
  clear hb1 hg hb0 hr2 hW hsz
  by_cases he : C = 0
  · have he2 : (C != 0) = false := by simp [he]
    obtain ⟨hN1, hN2, hlb, hpo⟩ := chk_zero (HC.out.trans he)
    obtain ⟨n, rfl⟩ : ∃ n : Nat, N = n := ⟨N.toNat, by omega⟩
    have hEm : E = mkE n xs := by rw [← HE.out]; unfold ringE; rw [if_neg (by rw [HC.out, he]; simp)]
    have HPO := Lib.hid hpo
    clear hpo
    go_wp2_with fail
    refine (marked_any n (.slice a l.length cap) a' xs cap' w1 (by omega) hlx (HIX.out.on (by rw [hp]; exact HB1.out))).mono ?_
    rintro e w2 ⟨hb2, (⟨hE, rfl⟩ | ⟨hE, b, rfl, hbl, htb⟩)⟩
    · rw [← hEm] at hE ⊢
      have hE2 : (E != 0) = true := by simp [hE]
      have HB2 : Hid (Below p w w2) := HB1.out.trans (hb2.mono (hp ▸ HB1.out.size))
      clear hEm
      go_wp2_with fail
      go_ret2
      exact ⟨.slice none 0 0, rfl, [], World.ownsRow_nil _ _ _ _, by simp, HB2.out⟩
    · have hE0 : E = 0 := hEm.trans hE
      subst hE0
      have hg2 := (hb2.block _ (lt_of_block hg1)).trans hg1
      have HB2 : Hid (Below p w w2) := HB1.out.trans (hb2.mono (hp ▸ HB1.out.size))
      obtain ⟨⟨k0, k1⟩, _⟩ := two_cells hg2
      obtain ⟨i4, hi4, hz4, hs4, hb4⟩ := info_parts info4
      have hmkB : ∀ w, (Instr.makeSlice 48 (.int .i64 n) (.int .i64 n)).run Try.prog w = .ok (.slice (some ⟨w.heap.size, 0, none⟩) n n) (w.alloc (.cells ((List.range n).map (fun _ => Value.bool false)).toArray 4)) := fun w => by
        have := run_make (P := Try.prog) w 48 4 i4 (.bool false) Try.underlying48 hi4 hz4 .i64 .i64 n n (by omega) (by omega) (by rw [hb4]; omega) (by omega)
        rw [this, Int.toNat_natCast, hs4, made_bool]
      clear hi4 hz4 hs4 hb4 hEm hE
      clear i4
      have hgv := (Below.heap_alloc w2 (.cells ((List.range n).map (fun _ => Value.bool false)).toArray 4) p (lt_of_block hg2)).trans hg2
      obtain ⟨⟨v0, v1⟩, _⟩ := two_cells hgv
      have hbw2 : b < w2.heap.size := htb.lt
      have HTB : Hid (TbV (w2.alloc (.cells ((List.range n).map (fun _ => Value.bool false)).toArray 4)) b n 4 (marks xs)) := htb.same (Below.heap_alloc _ _ _ hbw2)
      have HT0 : Hid (TbV (w2.alloc (.cells ((List.range n).map (fun _ => Value.bool false)).toArray 4)) w2.heap.size n 4 (fun _ => .bool false)) := heap_top w2 _
      have hpw2 : p < w2.heap.size := lt_of_block hg2
      have HBV : Hid (Below p w (w2.alloc (.cells ((List.range n).map (fun _ => Value.bool false)).toArray 4))) := HB2.out.alloc (Nat.le_of_lt hpw2) _
      go_wp2_with fail
      generalize hV : w2.alloc (.cells ((List.range n).map (fun _ => Value.bool false)).toArray 4) = V at *
      generalize hq : w2.heap.size = q at *
      clear htb hmkB v0 v1 k0 k1 hg2 hg1 g0 g1
      obtain ⟨ba, oa, hab⟩ : ∃ b o, 0 < l.length → a = some ⟨b, o, none⟩ ∧ b < w.heap.size ∧ ∀ j, j < l.length → (l.getD j A.zero).at w b (o + j * 3) := by
        rcases HAR.out with rfl | ⟨b, o, h⟩
        · exact ⟨0, 0, fun h => absurd h (by simp)⟩
        · exact ⟨b, o, fun _ => h⟩
      have HAB := Lib.hid hab
      clear hab
      go_loopw [38] (fun i wr => ∃ k : Nat, k ≤ l.length ∧ i = .int .i64 k ∧ TbV wr q n 4 (fun v => .bool (bes (l.take k) xs v)) ∧ Hid (Fr (fun j => j = q) V wr)) (fun i _ => l.length - (intOf i).toNat)
      case atStart => exact ⟨0, Nat.zero_le _, rfl, HT0.out.congr (fun v _ => by simp [bes]), Fr.refl _ _⟩
      case round =>
        obtain ⟨k, hk, rfl, htq, HF⟩ := hrel
        have HBR := Lib.hid (HBV.out.trans (HF.out.below (B := p) (hp ▸ HBV.out.size) (fun k e => by have e : k = q := e; omega)))
        have htb := HTB.out.fr HF.out (fun e => by have e : b = q := e; omega)
        by_cases hlt : k < l.length
        · obtain ⟨rfl, hbl, hat⟩ := HAB.out (by omega)
          have hlt' : (k : Int) < l.length := by omega
          obtain ⟨x0, x1, x2⟩ := (hat k hlt).on (by rw [hp]; exact HBR.out)
          have HMEM := Lib.hid (HPO.out (l.getD k A.zero) (by simp [List.getD, List.getElem?_eq_getElem hlt]))
          have HTS := Lib.hid (take_snocA hlt)
          clear hat
          generalize l.getD k A.zero = x at *
          obtain ⟨u, hu⟩ : ∃ u : Nat, x.f = u := ⟨x.f.toNat, by have := HMEM.out; omega⟩
          obtain ⟨t, ht⟩ : ∃ t : Nat, x.t = t := ⟨x.t.toNat, by have := HMEM.out; omega⟩
          have hun : u < n := by have := HMEM.out; omega
          have htn : t < n := by have := HMEM.out; omega
          have HU := Lib.hid hu
          have HT := Lib.hid ht
          rw [hu] at x0
          rw [ht] at x1
          clear hu ht
          have hx5 := heap_top wr (.cells #[.int .i64 (u : Int), .int .i64 (t : Int), .int .u32 x.w] 42)
          obtain ⟨z0, z1, z2⟩ := three_cells hx5
          have htb5 := htb.same (Below.heap_alloc wr (.cells #[.int .i64 (u : Int), .int .i64 (t : Int), .int .u32 x.w] 42) b htb.lt)
          have htq5 := htq.same (Below.heap_alloc wr (.cells #[.int .i64 (u : Int), .int .i64 (t : Int), .int .u32 x.w] 42) q htq.lt)
          have d1 := htb5.cell hun
          have d2 := htb5.cell htn
          unfold marks at d1 d2
          obtain ⟨bf, HBF⟩ := named (decide ((u : Int) ∈ xs))
          obtain ⟨bt, HBT⟩ := named (decide ((t : Int) ∈ xs))
          rw [HBF.out] at d1
          rw [HBT.out] at d2
          have HTQ5 := Lib.hid htq5
          have HTQ := Lib.hid htq
          have s1 := htq5.cell hun
          have s2 := htq5.cell htn
          have s3 := htq5.free u
          have s4 := htq5.free t
          have hun' : (u : Int) < n := by omega
          have htn' : (t : Int) < n := by omega
          clear htq htq5 htb htb5
          go_wp2_with fail
          go_quiet (fail)
          go_wp2_with fail
          · rename_i hne
            have hne' : decide (x.f ∈ xs) ≠ decide (x.t ∈ xs) := by
              rw [HU.out, HT.out, HBF.out, HBT.out]
              intro e; rw [e] at hne; simp at hne
            have HNE := Lib.hid hne'
            have hut : u ≠ t := by
              rintro rfl
              exact hne' (by rw [HU.out, HT.out])
            have hut' := hut.symm
            have hwq : wr.heap.size ≠ q := Nat.ne_of_gt HTQ.out.lt
            have hwq' := hwq.symm
            clear hne' hne
            go_region
            go_wp2_with fail
            have h5 : TbV ((wr.alloc (.cells #[.int .i64 (u : Int), .int .i64 (t : Int), .int .u32 x.w] 42)).drewN (nq + 1)) q n 4 (fun v => .bool (bes (l.take k) xs v)) := HTQ5.out
            exact ⟨⟨k + 1, by omega, by simp, ((h5.set u (.bool true)).set t (.bool true)).congr (fun v _ => by rw [two_upd, HTS.out, bes_diff HU.out HT.out HNE.out]), (((HF.out.alloc _).drewN _).setCell ⟨q, u, none⟩ _ rfl).setCell ⟨q, t, none⟩ _ rfl⟩, by simp [intOf]; omega⟩
          · rename_i hne
            have hs : decide (x.f ∈ xs) = decide (x.t ∈ xs) := by
              rw [HU.out, HT.out, HBF.out, HBT.out]
              simpa using hne
            exact ⟨⟨k + 1, by omega, by simp, TbV.congr (w := (wr.alloc (.cells #[.int .i64 (u : Int), .int .i64 (t : Int), .int .u32 x.w] 42)).drewN nq) HTQ5.out (fun v _ => by rw [HTS.out, bes_same hs]), (HF.out.alloc _).drewN _⟩, by simp [intOf]; omega⟩
        · obtain rfl : k = l.length := by omega
          have hlt' : ¬ (l.length : Int) < l.length := by omega
          rw [List.take_length] at htq
          have hgx := (HF.out.block p (lt_of_block hgv) (fun e => by have e : p = q := e; omega)).trans hgv
          obtain ⟨⟨v0, v1⟩, _⟩ := two_cells hgx
          have HTQ := Lib.hid htq
          have HTB2 := Lib.hid htb
          obtain ⟨i3, hi3, hz3, hs3, hby3⟩ := info_parts info3
          have hpx : p ≤ wr.heap.size := Nat.le_of_lt (lt_of_block hgx)
          clear htq htb
          generalize hX : wr = X at *
          clear hX
          go_wp2_with fail
          go_loopw [13, 64] (fun s13 i wr => ∃ (k : Nat) (av : Option Addr) (cv len : Nat), k ≤ n ∧ s13 = .slice av len cv ∧ i = .int .i64 k ∧ Hid ((rgk l xs k).length = len) ∧ Hid (wr.ownsRow X.heap.size 3 1 (.slice av len cv) len (cellsI (ints (rgk l xs k)))) ∧ Hid (Below X.heap.size X wr)) (fun _ i _ => n - (intOf i).toNat)
          case atStart => exact ⟨0, none, 0, 0, Nat.zero_le _, rfl, rfl, rfl, World.ownsRow_nil _ _ _ _, Below.refl _ _⟩
          case round =>
            obtain ⟨k, av, cv, len, hkn, rfl, rfl, HLEN, HOW, HBX⟩ := hrel
            have hlenk : len ≤ k := by rw [← HLEN.out]; exact rgk_len _ _ _
            by_cases hlt : k < n
            · have hlt2 : (k : Int) < n := by omega
              have d1 := (HBX.out.cell (p := ⟨q, k, none⟩) HTQ.out.lt).trans (HTQ.out.cell hlt)
              have d2 := (HBX.out.cell (p := ⟨b, k, none⟩) HTB2.out.lt).trans (HTB2.out.cell hlt)
              unfold marks at d2
              obtain ⟨be, HBE⟩ := named (bes l xs k)
              obtain ⟨bi, HBI⟩ := named (decide ((k : Int) ∈ xs))
              rw [HBE.out] at d1
              rw [HBI.out] at d2
              have HRS := Lib.hid (rgk_succ l xs k)
              rw [HBE.out, HBI.out] at HRS
              have hkeep : (be && !bi) = false → ∃ (k' : Nat) (av' : Option Addr) (cv' len' : Nat), k' ≤ n ∧ Value.slice av len cv = .slice av' len' cv' ∧ Value.int .i64 ((k : Int) + 1) = .int .i64 k' ∧ Hid ((rgk l xs k').length = len') ∧ Hid (wr.ownsRow X.heap.size 3 1 (.slice av' len' cv') len' (cellsI (ints (rgk l xs k')))) ∧ Hid (Below X.heap.size X wr) := fun h => by
                have e := HRS.out
                rw [if_neg (by rw [h]; simp)] at e
                exact ⟨k + 1, av, cv, len, by omega, rfl, by simp, by show _ = _; rw [e]; exact HLEN.out, by rw [e]; exact HOW, HBX⟩
              have HKEEP := Lib.hid hkeep
              clear hkeep
              cases be
              · go_wp2_with fail
                exact ⟨HKEEP.out rfl, by simp [intOf]; omega⟩
              · cases bi
                · have HNW := Lib.hid (one_new wr (k : Int))
                  have HO2 := Lib.hid (HOW.out.alloc (.cells #[.int .i64 (k : Int)] 3))
                  have HBZ : Hid (X.heap.size ≤ (wr.alloc (.cells #[.int .i64 (k : Int)] 3)).heap.size) := by
                    show _ ≤ _
                    rw [World.size_alloc]
                    exact Nat.le_succ_of_le HBX.out.size
                  go_wp2_with (at_builtin; refine wpList_append_own _ rfl (.tmp 78) (.tmp 80) 28 rfl X.heap.size 3 i3 (.int .i64 0) 1 8 Try.underlying28 hi3 hz3 hs3 hby3 rfl (by decide) (.slice av len cv) len (cellsI (ints (rgk l xs k))) rfl HO2.out ⟨wr.heap.size, 0, none⟩ 1 1 [.int .i64 (k : Int)] rfl rfl HNW.out (one_i64 _) (by unfold maxLen; omega) (by omega) HBZ.out ?_; intro v6 w6 hown6 hgrow6 hnil6; obtain ⟨g6, c6, hv6, _, _, _, _⟩ := own_shape hown6 (fun e => by have := hnil6.1 e; simp at this); subst hv6; have HOB6 : Hid (∀ b, (Value.slice av len cv).ownBlock = some b → X.heap.size ≤ b) := fun b hb => (HO2.out.lt b hb).1; have HB6 : Hid (Below X.heap.size X w6) := (HBX.out.alloc HBX.out.size _).grown hgrow6 (HBX.out.alloc HBX.out.size _).size (fun j hj => HOB6.out j hj); have HO6 := Lib.hid hown6; clear hown6 hgrow6 hnil6)
                  have e := HRS.out
                  rw [if_pos (by rfl)] at e
                  refine ⟨⟨k + 1, some ⟨g6, 0, none⟩, c6, len + 1, by omega, rfl, by simp, ?_, ?_, HB6⟩, by simp [intOf]; omega⟩
                  · show _ = _
                    rw [e, List.length_append, HLEN.out]; rfl
                  · rw [e, ints_snoc, ← cellsI_snoc]; exact HO6
                · go_wp2_with fail
                  exact ⟨HKEEP.out rfl, by simp [intOf]; omega⟩
            · obtain rfl : k = n := by omega
              have hlt2 : ¬ (k : Int) < k := by omega
              have HBF : Hid (Below p w wr) := by
                have h1 : Below p w X := HBV.out.trans (HF.out.below (B := p) (hp ▸ HBV.out.size) (fun k e => by have e : k = q := e; omega))
                exact h1.trans (HBX.out.mono hpx)
              have HOF := Lib.hid (own_base HOW.out hpx)
              go_wp2_with fail
              go_ret2
              refine ⟨.slice av len cv, rfl, rgk l xs k, ?_, ?_, HBF.out⟩
              · rw [HLEN.out]; exact HOF.out
              · simp
  · have he2 : (C != 0) = true := by simp [he]
    have h1 : E = C := by rw [← HE.out]; unfold ringE; rw [if_pos (by rw [HC.out]; exact he), HC.out]
    subst h1
    go_wp2_with fail
    go_ret2
    exact ⟨.slice none 0 0, rfl, [], World.ownsRow_nil _ _ _ _, by simp, HB1.out⟩
end Go.Proofs.Ytgkpmcpkobphpaa
