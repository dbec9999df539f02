/-
  The contract of flyoverref07.Ring.
-/
import Derived.Test.YtgkpmcpkobphpaaRBes
namespace Go.Proofs.Ytgkpmcpkobphpaa
open Go.RowKit
set_option maxRecDepth 100000 in
set_option maxHeartbeats 1600000 in
theorem rring_any (N : Int) (a a' : Option Addr) (l : List A) (xs : List Int) (cap cap' : Nat) (w : World) (hl : l.length ≤ 9223372036854775807) (hr : Arcs w a l) (hlx : xs.length ≤ 9223372036854775807) (hrx : Ints w a' xs) :
    Calls Try.prog 20 #[.agg #[.int .i64 N, .slice a l.length cap], .slice a' xs.length cap'] w fun e w' => ∃ v ys, e = .returned (.tuple #[v, .int .i64 (ringE N l xs)]) ∧ w'.ownsRow w.heap.size 3 1 v ys.length (cellsI (ints ys)) ∧ ys = (if ringE N l xs = 0 then rgk l xs N.toNat else []) ∧ Below w.heap.size w w' := by
  have hb0 : Below w.heap.size w (w.alloc (.cells #[.int .i64 N, .slice a l.length cap] 24)) := (Below.refl _ _).alloc (Nat.le_refl _) _
  have hg := heap_top w (.cells #[.int .i64 N, .slice a l.length cap] 24)
  have hr2 := hr.on hb0
  have hsz : w.heap.size ≤ (w.alloc (.cells #[.int .i64 N, .slice a l.length cap] 24)).heap.size := hb0.size
  obtain ⟨E, HE⟩ := named (ringE N l xs)
  obtain ⟨C, HC⟩ := named (chkE N l)
  obtain ⟨AT, HAT⟩ := named (chkAt N l)
  rw [HE.out]
  have HAR := Lib.hid hr
  have HIX := Lib.hid hrx
  generalize hp : w.heap.size = p at *
  go_enter Try.func20, Try.ntmps20
  go_wp2_with fail
  generalize hW : w.alloc (.cells #[.int .i64 N, .slice a l.length cap] 24) = W at *
  refine (rcheck_any N a l cap W hl hr2).mono ?_
  rintro e w1 ⟨rfl, hb1⟩
  rw [HC.out, HAT.out]
  have hg1 := (hb1.block _ (lt_of_block hg)).trans hg
  have HB1 : Hid (Below p w w1) := hb0.trans (hb1.mono hsz)
  obtain ⟨⟨g0, g1⟩, _⟩ := two_cells hg1
  clear hb1 hg hb0 hr2 hW hsz
  by_cases he : C = 0
  · have he2 : (C != 0) = false := by simp [he]
    obtain ⟨hN1, hN2, hlb, hpo⟩ := chk_zero (HC.out.trans he)
    obtain ⟨n, rfl⟩ : ∃ n : Nat, N = n := ⟨N.toNat, by omega⟩
    have hEm : E = mkE n xs := by rw [← HE.out]; unfold ringE; rw [if_neg (by rw [HC.out, he]; simp)]
    have HEM := Lib.hid hEm
    have HPO := Lib.hid hpo
    have hn : n ≤ 1024 := by omega
    clear hpo hEm
    by_cases hlong : 16384 < xs.length
    · have hlong' : (16384 : Int) < xs.length := by omega
      have h1 : E = 2 := by rw [HEM.out]; unfold mkE; rw [if_pos hlong]
      subst h1
      go_wp2_with fail
      go_ret2
      exact ⟨.slice none 0 0, rfl, [], World.ownsRow_nil _ _ _ _, by simp, HB1.out⟩
    · have hlong' : ¬ (16384 : Int) < xs.length := by omega
      obtain ⟨i4, hi4, hz4, hs4, hb4⟩ := info_parts info4
      have hmkB : ∀ w, (Instr.makeSlice 48 (.int .i64 n) (.int .i64 n)).run Try.prog w = .ok (.slice (some ⟨w.heap.size, 0, none⟩) n n) (w.alloc (.cells ((List.range n).map (fun _ => Value.bool false)).toArray 4)) := fun w => by
        have := run_make (P := Try.prog) w 48 4 i4 (.bool false) Try.underlying48 hi4 hz4 .i64 .i64 n n (by omega) (by omega) (by rw [hb4]; omega) (by omega)
        rw [this, Int.toNat_natCast, hs4, made_bool]
      clear hi4 hz4 hs4 hb4
      clear i4
      have hpw1 : p < w1.heap.size := lt_of_block hg1
      have hgv := (Below.heap_alloc w1 (.cells ((List.range n).map (fun _ => Value.bool false)).toArray 4) p hpw1).trans hg1
      have HT0 : Hid (TbV (w1.alloc (.cells ((List.range n).map (fun _ => Value.bool false)).toArray 4)) w1.heap.size n 4 (fun _ => .bool false)) := heap_top w1 _
      have HBV : Hid (Below p w (w1.alloc (.cells ((List.range n).map (fun _ => Value.bool false)).toArray 4))) := HB1.out.alloc (by omega) _
      obtain ⟨ix, ox, hix⟩ := HIX.out.get
      have HX := Lib.hid hix
      clear hix
      go_wp2_with fail
      generalize hV : w1.alloc (.cells ((List.range n).map (fun _ => Value.bool false)).toArray 4) = V at *
      generalize hb : w1.heap.size = b at *
      clear hV hmkB g0 g1
      have hbV : b < V.heap.size := HT0.out.lt
      go_loopw [9, 10] (fun s9 i wr => ∃ k : Nat, k ≤ xs.length ∧ i = .int .i64 k ∧ s9 = .bool (!decide ((xs.take k).Nodup)) ∧ Hid ((xs.take k).all (okV n) = true) ∧ TbV wr b n 4 (marks (xs.take k)) ∧ Hid (Fr (fun j => j = b) V wr)) (fun _ i _ => xs.length - (intOf i).toNat)
      case atStart => exact ⟨0, Nat.zero_le _, rfl, by simp, by show _ = _; simp, HT0.out.congr (fun v _ => by simp [marks]), Fr.refl _ _⟩
      case round =>
        obtain ⟨k, hk, rfl, rfl, HA, htb, HF⟩ := hrel
        have HBR : Hid (Below p w wr) := HBV.out.trans (HF.out.below (B := p) (by omega) (fun k e => by have e : k = b := e; omega))
        have hgr := (HF.out.block p (lt_of_block hgv) (fun e => by have e : p = b := e; omega)).trans hgv
        obtain ⟨⟨g0, g1⟩, _⟩ := two_cells hgr
        by_cases hlt : k < xs.length
        · obtain ⟨rfl, hbl, hat⟩ := HX.out (by omega)
          have hlt' : (k : Int) < xs.length := by omega
          have cx := (HBR.out.cell (p := ⟨ix, ox + k, none⟩) (hp ▸ hbl)).trans (hat k hlt)
          have HTS := Lib.hid (take_snocI hlt)
          have HME : Hid (xs.getD k 0 ∈ xs) := by show _ ∈ _; simp [List.getD, List.getElem?_eq_getElem hlt]
          clear hat
          generalize xs.getD k 0 = x at *
          have bad : ¬ (0 ≤ x ∧ x < n) → E = 5 := fun hx => by
            rw [HEM.out]; unfold mkE; rw [if_neg hlong, if_neg]
            intro h
            exact hx (okV_t (List.all_eq_true.1 h x HME.out))
          have HBAD := Lib.hid bad
          clear bad
          by_cases hx0 : x < 0
          · have h1 := HBAD.out (by omega)
            subst h1
            go_wp2_with fail
            go_ret2
            exact ⟨.slice none 0 0, rfl, [], World.ownsRow_nil _ _ _ _, by simp, HBR.out⟩
          · by_cases hx1 : (n : Int) ≤ x
            · have h1 := HBAD.out (by omega)
              subst h1
              go_wp2_with fail
              go_ret2
              exact ⟨.slice none 0 0, rfl, [], World.ownsRow_nil _ _ _ _, by simp, HBR.out⟩
            · obtain ⟨u, rfl⟩ : ∃ u : Nat, x = u := ⟨x.toNat, by omega⟩
              have hun : u < n := by omega
              have hun' : (u : Int) < n := by omega
              have d1 := htb.cell hun
              have d2 := htb.free u
              unfold marks at d1
              have HN2 : Hid ((!decide ((xs.take (k + 1)).Nodup)) = (!decide ((xs.take k).Nodup) || decide ((u : Int) ∈ xs.take k))) := by
                show _ = _
                rw [HTS.out, Bool.eq_iff_iff]
                simp only [Bool.or_eq_true, Bool.not_eq_true', decide_eq_true_eq, decide_eq_false_iff_not, nodup_snoc]
                constructor
                · intro h
                  by_cases h2 : (xs.take k).Nodup
                  · right
                    by_cases h3 : (u : Int) ∈ xs.take k
                    · exact h3
                    · exact absurd ⟨h2, h3⟩ h
                  · exact .inl h2
                · rintro (h | h) h3
                  · exact h h3.1
                  · exact h3.2 h
              have HA2 : Hid ((xs.take (k + 1)).all (okV n) = true) := by
                show _ = _
                rw [HTS.out, List.all_append, HA.out]
                simp [okV]
                exact hun
              have HTB2 := Lib.hid ((htb.set u (.bool true)).congr (U := marks (xs.take (k + 1))) (fun v _ => by rw [HTS.out]; exact marks_snoc _ u v))
              have HF2 : Hid (Fr (fun j => j = b) V (wr.setCell ⟨b, u, none⟩ (.bool true))) := HF.out.setCell ⟨b, u, none⟩ _ rfl
              generalize hq1 : (!decide ((xs.take k).Nodup)) = q1 at *
              generalize hq2 : decide ((u : Int) ∈ xs.take k) = q2 at *
              clear hq1 hq2
              cases q1 with
              | true =>
                go_wp2_with fail
                refine ⟨⟨k + 1, by omega, by simp, ?_, HA2, HTB2.out, HF2⟩, by simp [intOf]; omega⟩
                rw [HN2.out]; rfl
              | false =>
                go_wp2_with fail
                refine ⟨⟨k + 1, by omega, by simp, ?_, HA2, HTB2.out, HF2⟩, by simp [intOf]; omega⟩
                rw [HN2.out]; rfl
        · obtain rfl : k = xs.length := by omega
          have hlt' : ¬ (xs.length : Int) < xs.length := by omega
          have hall := HA.out
          rw [List.take_length] at hall ⊢
          have HALL := Lib.hid hall
          clear hall HA
          by_cases hnd : xs.Nodup
          · rw [decide_eq_true hnd]
            have h1 : E = 0 := by rw [HEM.out]; unfold mkE; rw [if_neg hlong, if_pos HALL.out, if_pos hnd]
            subst h1
            have HAR3 := Lib.hid (HAR.out.on (show Below w.heap.size w wr by rw [hp]; exact HBR.out))
            have HIX3 := Lib.hid (HIX.out.on (show Below w.heap.size w wr by rw [hp]; exact HBR.out))
            go_wp2_with fail
            refine (rbeside_any n a a' l xs cap cap' wr hn hlb HPO.out HAR3.out (by omega) HALL.out HIX3.out).mono ?_
            rintro e w6 ⟨v, rfl, hown, hb6⟩
            obtain ⟨av, cv, rfl⟩ := own_slice hown
            have hpr : p ≤ wr.heap.size := Nat.le_of_lt (lt_of_block hgr)
            have HOW := Lib.hid (own_base hown hpr)
            have HB6 : Hid (Below p w w6) := HBR.out.trans (hb6.mono hpr)
            clear hown hb6
            go_wp2_with fail
            go_ret2
            exact ⟨_, rfl, rgk l xs n, HOW.out, by simp, HB6.out⟩
          · rw [decide_eq_false hnd]
            have h1 : E = 4 := by rw [HEM.out]; unfold mkE; rw [if_neg hlong, if_pos HALL.out, if_neg hnd]
            subst h1
            go_wp2_with fail
            go_ret2
            exact ⟨.slice none 0 0, rfl, [], World.ownsRow_nil _ _ _ _, by simp, HBR.out⟩
  · have he2 : (C != 0) = true := by simp [he]
    have h1 : E = C := by rw [← HE.out]; unfold ringE; rw [if_pos (by rw [HC.out]; exact he), HC.out]
    subst h1
    go_wp2_with fail
    go_ret2
    exact ⟨.slice none 0 0, rfl, [], World.ownsRow_nil _ _ _ _, by simp, HB1.out⟩
end Go.Proofs.Ytgkpmcpkobphpaa
