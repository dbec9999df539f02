/-
  The contract of grow.marked.
-/
import Derived.Test.YtgkpmcpkobphpaaSame
import Derived.Test.YtgkpmcpkobphpaaChk
namespace Go.Proofs.Ytgkpmcpkobphpaa
open Go.RowKit
/-- What is wrong with members. -/
def mkE (N : Int) (xs : List Int) : Int := if 16384 < xs.length then 2 else if xs.all (okV N) = true then (if xs.Nodup then 0 else 4) else 5
theorem take_snocI {p : List Int} {k : Nat} (h : k < p.length) : p.take (k + 1) = p.take k ++ [p.getD k 0] := by
  rw [List.take_succ_eq_append_getElem h]
  simp [List.getD, List.getElem?_eq_getElem h]
theorem nodup_snoc {q : List Int} {x : Int} : (q ++ [x]).Nodup ↔ q.Nodup ∧ x ∉ q := by
  rw [List.nodup_append]
  constructor
  · rintro ⟨h1, _, h3⟩
    exact ⟨h1, fun hx => h3 x hx x (by simp) rfl⟩
  · rintro ⟨h1, h2⟩
    exact ⟨h1, by simp, fun a ha b hb e => by simp at hb; subst hb; subst e; exact h2 ha⟩
/-- A table of marks. -/
def marks (q : List Int) (u : Nat) : Value := .bool (decide ((u : Int) ∈ q))
theorem marks_snoc (q : List Int) (x : Nat) (u : Nat) : updV (marks q) x (.bool true) u = marks (q ++ [(x : Int)]) u := by
  by_cases e : u = x
  · subst e; rw [updV_self]; simp [marks]
  · rw [updV_ne _ _ e]
    unfold marks
    congr 1
    have : ¬ (u : Int) = x := by omega
    simp [this]
set_option maxRecDepth 100000 in
set_option maxHeartbeats 1600000 in
theorem marked_any (n : Nat) (s : Value) (a : Option Addr) (xs : List Int) (cap : Nat) (w : World) (hn : n ≤ 1024) (hl : xs.length ≤ 9223372036854775807) (hr : Ints w a xs) :
    Calls Try.prog 35 #[.agg #[.int .i64 n, s], .slice a xs.length cap] w fun e w' => Below w.heap.size w w' ∧ ((mkE n xs ≠ 0 ∧ e = .returned (.tuple #[.slice none 0 0, .int .i64 (mkE n xs)])) ∨ (mkE n xs = 0 ∧ ∃ b, e = .returned (.tuple #[.slice (some ⟨b, 0, none⟩) n n, .int .i64 0]) ∧ w.heap.size ≤ b ∧ TbV w' b n 4 (marks xs))) := by
  have hb0 : Below w.heap.size w (w.alloc (.cells #[.int .i64 n, s] 24)) := (Below.refl _ _).alloc (Nat.le_refl _) _
  have hg := heap_top w (.cells #[.int .i64 n, s] 24)
  have hr2 := hr.on hb0
  have hsz : w.heap.size ≤ (w.alloc (.cells #[.int .i64 n, s] 24)).heap.size := hb0.size
  obtain ⟨E, HE⟩ := named (mkE n xs)
  rw [HE.out]
  generalize hp : w.heap.size = p at *
  by_cases hlong : 16384 < xs.length
  · have h1 : E = 2 := by rw [← HE.out]; unfold mkE; rw [if_pos hlong]
    subst h1
    have hlong' : (16384 : Int) < xs.length := by omega
    go_enter Try.func35, Try.ntmps35
    go_wp2_with fail
    go_ret2
    exact ⟨hb0, .inl ⟨by decide, rfl⟩⟩
  · have hlong' : ¬ (16384 : Int) < xs.length := by omega
    obtain ⟨ba, oa, hab⟩ := hr2.get
    have HAB := Lib.hid hab
    obtain ⟨i4, hi4, hz4, hs4, hb4⟩ := info_parts info4
    have hmkB : ∀ w, (Instr.makeSlice 48 (.int .i64 n) (.int .i64 n)).run Try.prog w = .ok (.slice (some ⟨w.heap.size, 0, none⟩) n n) (w.alloc (.cells ((List.range n).map (fun _ => Value.bool false)).toArray 4)) := fun w => by
      have := run_make (P := Try.prog) w 48 4 i4 (.bool false) Try.underlying48 hi4 hz4 .i64 .i64 n n (by omega) (by omega) (by rw [hb4]; omega) (by omega)
      rw [this, Int.toNat_natCast, hs4, made_bool]
    clear hab hi4 hz4 hs4 hb4
    clear i4
    go_enter Try.func35, Try.ntmps35
    go_wp2_with fail
    generalize hW : w.alloc (.cells #[.int .i64 n, s] 24) = W at *
    go_loopw [16] (fun i wr => ∃ k : Nat, k ≤ xs.length ∧ i = .int .i64 k ∧ Hid ((xs.take k).all (okV n) = true) ∧ Hid (Below W.heap.size W wr)) (fun i _ => xs.length - (intOf i).toNat)
    case atStart => exact ⟨0, Nat.zero_le _, rfl, by show _ = _; simp, Below.refl _ _⟩
    case round =>
      obtain ⟨k, hk, rfl, HA, HB⟩ := hrel
      have hgr := (HB.out.block _ (lt_of_block hg)).trans hg
      obtain ⟨⟨g0, g1⟩, _⟩ := two_cells hgr
      by_cases hlt : k < xs.length
      · obtain ⟨rfl, hbl, hat⟩ := HAB.out (by omega)
        have hlt' : (k : Int) < xs.length := by omega
        have c1 := (HB.out.cell (p := ⟨ba, oa + k, none⟩) hbl).trans (hat k hlt)
        have HTS := Lib.hid (take_snocI hlt)
        have HME : Hid (xs.getD k 0 ∈ xs) := by show _ ∈ _; simp [List.getD, List.getElem?_eq_getElem hlt]
        clear hat
        generalize xs.getD k 0 = x at *
        go_wp2_with fail
        refine (gisv_any n x s wr).mono ?_
        rintro e w1 ⟨rfl, hb1⟩
        have HB1 : Hid (Below W.heap.size W w1) := HB.out.trans (hb1.mono HB.out.size)
        by_cases hx : 0 ≤ x ∧ x < n
        · rw [decide_eq_true hx]
          go_wp2_with fail
          refine ⟨⟨k + 1, by omega, by simp, ?_, HB1⟩, by simp [intOf]; omega⟩
          show _ = _
          rw [HTS.out, List.all_append, HA.out]
          simp [okV, hx]
        · rw [decide_eq_false hx]
          have h1 : E = 5 := by
            rw [← HE.out]; unfold mkE; rw [if_neg hlong, if_neg]
            intro h
            have := List.all_eq_true.1 h x HME.out
            exact hx (okV_t this)
          subst h1
          go_wp2_with fail
          go_ret2
          exact ⟨hb0.trans (HB1.out.mono hsz), .inl ⟨by decide, rfl⟩⟩
      · obtain rfl : k = xs.length := by omega
        have hlt' : ¬ (xs.length : Int) < xs.length := by omega
        have HALL : Hid (xs.all (okV n) = true) := by have := HA.out; rwa [List.take_length] at this
        have HBV : Hid (Below W.heap.size W (wr.alloc (.cells ((List.range n).map (fun _ => Value.bool false)).toArray 4))) := HB.out.alloc HB.out.size _
        have ht0 : TbV (wr.alloc (.cells ((List.range n).map (fun _ => Value.bool false)).toArray 4)) wr.heap.size n 4 (fun _ => .bool false) := heap_top wr _
        have HT0 := Lib.hid ht0
        have hWr : W.heap.size ≤ wr.heap.size := HB.out.size
        go_wp2_with fail
        generalize hV : wr.alloc (.cells ((List.range n).map (fun _ => Value.bool false)).toArray 4) = V at *
        generalize hb : wr.heap.size = b at *
        clear ht0 g0 g1
        go_loopw [30] (fun i wx => ∃ k : Nat, k ≤ xs.length ∧ i = .int .i64 k ∧ Hid ((xs.take k).Nodup) ∧ TbV wx b n 4 (marks (xs.take k)) ∧ Hid (Fr (fun j => j = b) V wx)) (fun i _ => xs.length - (intOf i).toNat)
        case atStart => exact ⟨0, Nat.zero_le _, rfl, by show List.Nodup _; simp, HT0.out.congr (fun v _ => by simp [marks]), Fr.refl _ _⟩
        case round =>
          obtain ⟨k, hk2, rfl, HND, htb, HF⟩ := hrel
          have HBE := Lib.hid (hb0.trans ((HBV.out.trans (HF.out.below (B := W.heap.size) HBV.out.size (fun k e => by have e : k = b := e; omega))).mono hsz))
          by_cases hlt : k < xs.length
          · obtain ⟨rfl, hbl, hat⟩ := HAB.out (by omega)
            have hlt2 : (k : Int) < xs.length := by omega
            have c0 := (HBV.out.cell (p := ⟨ba, oa + k, none⟩) hbl).trans (hat k hlt)
            have c1 := (World.cell?_of_block (a := ⟨ba, oa + k, none⟩) (HF.out.block ba (Nat.lt_of_lt_of_le hbl HBV.out.size) (fun e => by have e : ba = b := e; omega))).trans c0
            have HTS := Lib.hid (take_snocI hlt)
            have HME : Hid (xs.getD k 0 ∈ xs) := by show _ ∈ _; simp [List.getD, List.getElem?_eq_getElem hlt]
            clear hat c0
            generalize xs.getD k 0 = x at *
            obtain ⟨hx0, hx1⟩ := okV_t (List.all_eq_true.1 HALL.out x HME.out)
            obtain ⟨u, rfl⟩ : ∃ u : Nat, x = u := ⟨x.toNat, by omega⟩
            have hu : u < n := by omega
            have d1 := htb.cell hu
            have d2 := htb.free u
            unfold marks at d1
            by_cases hin : (u : Int) ∈ xs.take k
            · rw [decide_eq_true hin] at d1
              have h1 : E = 4 := by
                rw [← HE.out]; unfold mkE; rw [if_neg hlong, if_pos HALL.out, if_neg]
                intro h
                have h2 : (xs.take (k + 1)).Nodup := h.sublist (List.take_sublist _ _)
                rw [HTS.out, nodup_snoc] at h2
                exact h2.2 hin
              subst h1
              go_wp2_with fail
              go_ret2
              exact ⟨HBE.out, rfl⟩
            · rw [decide_eq_false hin] at d1
              go_wp2_with fail
              refine ⟨⟨k + 1, by omega, by simp, ?_, (htb.set u (.bool true)).congr (fun v _ => ?_), HF.out.setCell ⟨b, u, none⟩ _ rfl⟩, by simp [intOf]; omega⟩
              · show List.Nodup _
                rw [HTS.out, nodup_snoc]
                exact ⟨HND.out, hin⟩
              · rw [HTS.out]; exact marks_snoc _ u v
          · obtain rfl : k = xs.length := by omega
            have hnd := HND.out
            rw [List.take_length] at hnd htb
            have h1 : E = 0 := by
              rw [← HE.out]; unfold mkE; rw [if_neg hlong, if_pos HALL.out, if_pos hnd]
            subst h1
            have HTB := Lib.hid htb
            clear htb
            go_wp2_with fail
            go_ret2
            exact ⟨HBE.out, b, rfl, by omega, HTB.out⟩
end Go.Proofs.Ytgkpmcpkobphpaa
