/-
  Contract of the reference's Copy.
-/
import Derived.Test.YtomlmphdnoempaaKept
namespace Go.Proofs.Ytomlmphdnoempaa
open Go.RowKit
set_option maxHeartbeats 1600000 in
theorem rcopy_some (N : Int) (ad : Addr) (l : List A) (cap : Nat) (w : World) (hlen : l.length * 24 ≤ 140737488351232) (hr : Arcs w (some ad) l) :
    Calls Try.prog 61 #[.agg #[.int .i64 N, .slice (some ad) l.length cap]] w fun e w' => ∃ g c', e = .returned (.agg #[.int .i64 N, .slice (some ⟨g, 0, none⟩) l.length c']) ∧ OwnA w' w.heap.size (some ⟨g, 0, none⟩) c' l ∧ Below w.heap.size w w' := by
  obtain ⟨i0, hi, hz0, hz1, hz2⟩ := info_parts info53
  have hb0 : Below w.heap.size w ((w.alloc (.cells #[.int .i64 N, .slice (some ad) l.length cap] 24)).alloc (.cells #[.int .i64 0, .slice none 0 0] 24)) := ((Below.refl _ _).alloc (Nat.le_refl _) _).alloc (by simp) _
  have hg : ((w.alloc (.cells #[.int .i64 N, .slice (some ad) l.length cap] 24)).alloc (.cells #[.int .i64 0, .slice none 0 0] 24)).heap[w.heap.size]? = some (.cells #[.int .i64 N, .slice (some ad) l.length cap] 24) := (Below.heap_alloc _ _ _ (by simp)).trans (heap_top w _)
  have h1 := heap_top (w.alloc (.cells #[.int .i64 N, .slice (some ad) l.length cap] 24)) (.cells #[.int .i64 0, .slice none 0 0] 24)
  rw [show (w.alloc (.cells #[.int .i64 N, .slice (some ad) l.length cap] 24)).heap.size = w.heap.size + 1 by simp] at h1
  generalize hW : (w.alloc (.cells #[.int .i64 N, .slice (some ad) l.length cap] 24)).alloc (.cells #[.int .i64 0, .slice none 0 0] 24) = W at *
  obtain ⟨⟨g0, g1⟩, gf0, gf1⟩ := two_cells hg
  have HN := Lib.hid (clone_news (w := W.drew) (hr.on hb0.drew) (.cells #[] 57))
  have HL := Lib.hid (cellsA_len l)
  have HOWN := Lib.hid (World.ownsRow_lit (base := W.heap.size) (e := 57) (size := 3) W.drew #[] 0 (Nat.le_refl _) (by decide) rfl)
  have HG := Lib.hid hg
  have HH := Lib.hid h1
  have s0 := lt_of_block hg
  have s1 := lt_of_block h1
  clear hg h1
  go_enter Try.func61, Try.ntmps61
  go_wp2_with fail
  go_region_held3 (fun w' => w'.cell? ⟨w.heap.size, 0, none⟩ = some (.int .i64 N) ∧ w'.cell? ⟨w.heap.size, 1, none⟩ = some (.slice (some ad) l.length cap)) (go_keep) ((refine wp_append_own _ (.tmp 5) (.tmp 7) 22 rfl W.heap.size 57 i0 _ 3 24 Try.underlying22 hi hz0 hz1 hz2 rfl (by decide) (.slice (some ⟨W.heap.size, 0, none⟩) 0 0) 0 [] rfl HOWN.out ad l.length cap (cellsA l) rfl HL.out HN.out (cellsA_one l) (by unfold maxLen; omega) (by omega) (by simp) ?_; intro v1 w1 hown1 hgrow1 hnil1; obtain ⟨g1', c1, hv1, hg1, hc1, hs1, hm1⟩ := own_shape hown1 (fun e => by have := hnil1.1 e; simp at this); rw [hv1] at hown1 ⊢; clear hnil1 hv1; simp only [Nat.zero_add, List.nil_append] at hown1 hc1 ⊢; have hb1 : Below W.heap.size W w1 := ((Below.refl W.heap.size W).drew.alloc (Nat.le_refl _) _).grown hgrow1 (by simp) (by intro k hk; cases hk; exact Nat.le_refl _); obtain ⟨⟨p0, p1⟩, _, _⟩ := two_cells ((hb1.block _ s0).trans HG.out); obtain ⟨⟨r0, r1⟩, rf0, rf1⟩ := two_cells ((hb1.block _ s1).trans HH.out)))
  go_wp2_with fail
  have bw := bthen hb0 hb1 hb0.size
  refine bodyPost_ret (v := .agg #[.int .i64 N, .slice (some ⟨g1', 0, none⟩) l.length c1]) (by simp [results, Try.results61, go_sem, r0, r1]) rfl ⟨g1', c1, rfl, ?_, (bw.setCell (by show _ ≤ w.heap.size + 1; omega) _).setCell (by show _ ≤ w.heap.size + 1; omega) _⟩
  exact own_base (ownsRow_setCell_below (ownsRow_setCell_below hown1 (show w.heap.size + 1 < W.heap.size by omega) _) (show w.heap.size + 1 < W.heap.size by omega) _) (by omega)
theorem wp_append_none {P : Program} {w : World} {o : Oper} {a : Act} {K : Act → World → Prop} {Q : Exit → Act → World → Prop} (s x : Operand) (t : TypeId)
    (ho : o.op = .call { callee := .builtin .append, args := #[s, x], argTypes := #[t, t] })
    (base : Nat) (e : TypeId) (i : TypeInfo) (size : Nat) (ht : P.underlying t = some (.slice e)) (hi : P.info? e = some i)
    (v : Value) (n : Nat) (xs : List Value) (hs : a.eval s = v) (hown : w.ownsRow base e size v n xs) (hx : a.eval x = .slice none 0 0)
    (h : ∀ w', w' = w → K (a.put o.dst v) w') : o.wp P a w K Q := by
  have hrun := run_append_owned_none (P := P) (w := w) base t o.type e i size ht hi v n xs hown
  unfold Oper.wp
  simp [execOp, ho, resolve, invoke, builtin, hs, hx, hrun, Result.andThen]
  exact h w rfl
set_option maxHeartbeats 1600000 in
theorem rcopy_none (N : Int) (w : World) :
    Calls Try.prog 61 #[.agg #[.int .i64 N, .slice none 0 0]] w fun e w' => ∃ g c', e = .returned (.agg #[.int .i64 N, .slice (some ⟨g, 0, none⟩) 0 c']) ∧ OwnA w' w.heap.size (some ⟨g, 0, none⟩) c' [] ∧ Below w.heap.size w w' := by
  obtain ⟨i0, hi, hz0, hz1, hz2⟩ := info_parts info53
  have hb0 : Below w.heap.size w ((w.alloc (.cells #[.int .i64 N, .slice none 0 0] 24)).alloc (.cells #[.int .i64 0, .slice none 0 0] 24)) := ((Below.refl _ _).alloc (Nat.le_refl _) _).alloc (by simp) _
  have hg : ((w.alloc (.cells #[.int .i64 N, .slice none 0 0] 24)).alloc (.cells #[.int .i64 0, .slice none 0 0] 24)).heap[w.heap.size]? = some (.cells #[.int .i64 N, .slice none 0 0] 24) := (Below.heap_alloc _ _ _ (by simp)).trans (heap_top w _)
  have h1 := heap_top (w.alloc (.cells #[.int .i64 N, .slice none 0 0] 24)) (.cells #[.int .i64 0, .slice none 0 0] 24)
  rw [show (w.alloc (.cells #[.int .i64 N, .slice none 0 0] 24)).heap.size = w.heap.size + 1 by simp] at h1
  generalize hW : (w.alloc (.cells #[.int .i64 N, .slice none 0 0] 24)).alloc (.cells #[.int .i64 0, .slice none 0 0] 24) = W at *
  obtain ⟨⟨g0, g1⟩, gf0, gf1⟩ := two_cells hg
  have HOWN := Lib.hid (World.ownsRow_lit (base := W.heap.size) (e := 57) (size := 3) W.drew #[] 0 (Nat.le_refl _) (by decide) rfl)
  have s0 := lt_of_block hg
  have s1 := lt_of_block h1
  have HG := Lib.hid hg
  have HH := Lib.hid h1
  clear hg h1
  go_enter Try.func61, Try.ntmps61
  go_wp2_with fail
  go_region_held3 (fun w' => w'.cell? ⟨w.heap.size, 0, none⟩ = some (.int .i64 N) ∧ w'.cell? ⟨w.heap.size, 1, none⟩ = some (.slice none 0 0)) (go_keep) ((refine wp_append_none (.tmp 5) (.tmp 7) 22 rfl W.heap.size 57 i0 3 Try.underlying22 hi (.slice (some ⟨W.heap.size, 0, none⟩) 0 0) 0 [] rfl HOWN.out rfl ?_; intro w1 hw1; have hb1 : Below W.heap.size W w1 := hw1 ▸ ((Below.refl W.heap.size W).drew.alloc (Nat.le_refl _) _); have hown1 : w1.ownsRow W.heap.size 57 3 (.slice (some ⟨W.heap.size, 0, none⟩) 0 0) 0 [] := hw1 ▸ HOWN.out; clear hw1; obtain ⟨⟨p0, p1⟩, _, _⟩ := two_cells ((hb1.block _ s0).trans HG.out); obtain ⟨⟨r0, r1⟩, rf0, rf1⟩ := two_cells ((hb1.block _ s1).trans HH.out)))
  go_wp2_with fail
  have bw := bthen hb0 hb1 hb0.size
  refine bodyPost_ret (v := .agg #[.int .i64 N, .slice (some ⟨W.heap.size, 0, none⟩) 0 0]) (by simp [results, Try.results61, go_sem, r0, r1]) rfl ⟨W.heap.size, 0, rfl, ?_, (bw.setCell (by show _ ≤ w.heap.size + 1; omega) _).setCell (by show _ ≤ w.heap.size + 1; omega) _⟩
  exact own_base (ownsRow_setCell_below (ownsRow_setCell_below hown1 (show w.heap.size + 1 < W.heap.size by omega) _) (show w.heap.size + 1 < W.heap.size by omega) _) (by omega)
theorem rcopy_any (N : Int) (a : Option Addr) (l : List A) (cap : Nat) (w : World) (hlen : l.length * 24 ≤ 140737488351232) (hn : a = none → l = [] ∧ cap = 0) (hr : Arcs w a l) :
    Calls Try.prog 61 #[.agg #[.int .i64 N, .slice a l.length cap]] w fun e w' => ∃ g c', e = .returned (.agg #[.int .i64 N, .slice (some ⟨g, 0, none⟩) l.length c']) ∧ OwnA w' w.heap.size (some ⟨g, 0, none⟩) c' l ∧ Below w.heap.size w w' := by
  match a, hn, hr with
  | none, hn, _ =>
    obtain ⟨e1, e2⟩ := hn rfl
    subst e1 e2
    exact rcopy_none N w
  | some ad, _, hr => exact rcopy_some N ad l cap w hlen hr
set_option maxHeartbeats 800000 in
theorem rcheck_any (N : Int) (a : Option Addr) (l : List A) (cap : Nat) (w : World) (hl : l.length ≤ 9223372036854775807) (hr : Arcs w a l) :
    Calls Try.prog 59 #[.agg #[.int .i64 N, .slice a l.length cap]] w fun e w' => e = .returned (.tuple #[.int .i64 (chkAt N l), .int .i64 (chkE N l)]) ∧ Below w.heap.size w w' := by
  by_cases h1 : N < 1
  · rw [(chk_range (l := l) (Or.inl h1)).1, (chk_range (l := l) (Or.inl h1)).2]
    go_enter Try.func59, Try.ntmps59
    go_wp2_with fail
    go_ret2
    exact ⟨rfl, (Below.refl _ _).alloc (Nat.le_refl _) _⟩
  by_cases h2 : 1024 < N
  · rw [(chk_range (l := l) (Or.inr h2)).1, (chk_range (l := l) (Or.inr h2)).2]
    go_enter Try.func59, Try.ntmps59
    go_wp2_with fail
    go_ret2
    exact ⟨rfl, (Below.refl _ _).alloc (Nat.le_refl _) _⟩
  have hN : ¬ (N < 1 ∨ 1024 < N) := by omega
  by_cases h3 : 8192 < l.length
  · have h3' : (8192 : Int) < l.length := by omega
    rw [(chk_long hN h3).1, (chk_long hN h3).2]
    clear hN
    go_enter Try.func59, Try.ntmps59
    go_wp2_with fail
    go_ret2
    exact ⟨rfl, (Below.refl _ _).alloc (Nat.le_refl _) _⟩
  have h3' : ¬ (8192 : Int) < l.length := by omega
  have HN := Lib.hid hN
  clear hN
  obtain ⟨E, HE⟩ := named (chkE N l)
  obtain ⟨T, HAT⟩ := named (chkAt N l)
  rw [HE.out, HAT.out]
  have hb0 : Below w.heap.size w (w.alloc (.cells #[.int .i64 N, .slice a l.length cap] 24)) := (Below.refl _ _).alloc (Nat.le_refl _) _
  obtain ⟨b, o, hab⟩ := hr.b.get
  go_enter Try.func59, Try.ntmps59
  go_wp2_with fail
  go_loopw [4] (fun i wr => ∃ k : Nat, k ≤ l.length ∧ i = .int .i64 k ∧ Hid ((l.take k).all (okA N) = true) ∧ wr.heap[w.heap.size]? = some (.cells #[.int .i64 N, .slice a l.length cap] 24) ∧ Below w.heap.size w wr) (fun i _ => l.length - (intOf i).toNat)
  case atStart => exact ⟨0, Nat.zero_le _, rfl, by show _ = _; simp, heap_top w _, hb0⟩
  case round =>
    obtain ⟨k, hk, rfl, hall, hg, hb⟩ := hrel
    obtain ⟨⟨g0, g1⟩, gf0, gf1⟩ := two_cells hg
    have hsz : w.heap.size < wr.heap.size := lt_of_block hg
    by_cases hlt : k < l.length
    · obtain ⟨rfl, hbl, hat⟩ := hab (by omega)
      obtain ⟨c0, c1, c2⟩ := (hat k hlt).onB hbl hb
      have HT := Lib.hid (fun (h : okA N (l.getD k A.zero) = true) => all_take hlt hall.out h)
      have HF := Lib.hid (fun (h : okA N (l.getD k A.zero) = false) => chk_bad HN.out h3 (find_at hlt hall.out h))
      generalize l.getD k A.zero = x at *
      have b3 : Below w.heap.size w (wr.alloc (.cells #[.int .i64 x.f, .int .i64 x.t, .int .u32 x.w] 57)) := hb.alloc (by omega) _
      have hg3 := (Below.heap_alloc wr (.cells #[.int .i64 x.f, .int .i64 x.t, .int .u32 x.w] 57) _ hsz).trans hg
      by_cases q1 : 0 ≤ x.f
      · by_cases q2 : x.f < N
        · by_cases q3 : 0 ≤ x.t
          · by_cases q4 : x.t < N
            · have hA : okA N x = true := by simp [okA, okV, q1, q2, q3, q4]
              go_wp2_with fail
              exact ⟨⟨k + 1, by omega, by go_num, HT.out hA, hg3, b3⟩, by simp [intOf]; omega⟩
            · have hE := HF.out (by simp [okA, okV, q4])
              rw [HE.out, HAT.out] at hE
              obtain ⟨rfl, rfl⟩ := hE
              go_wp2_with fail
              go_ret2
              exact ⟨rfl, b3⟩
          · have hE := HF.out (by simp [okA, okV, q3])
            rw [HE.out, HAT.out] at hE
            obtain ⟨rfl, rfl⟩ := hE
            go_wp2_with fail
            go_ret2
            exact ⟨rfl, b3⟩
        · have hE := HF.out (by simp [okA, okV, q2])
          rw [HE.out, HAT.out] at hE
          obtain ⟨rfl, rfl⟩ := hE
          go_wp2_with fail
          go_ret2
          exact ⟨rfl, b3⟩
      · have hE := HF.out (by simp [okA, okV, q1])
        rw [HE.out, HAT.out] at hE
        obtain ⟨rfl, rfl⟩ := hE
        go_wp2_with fail
        go_ret2
        exact ⟨rfl, b3⟩
    · have hE := chk_ok HN.out h3 (by have := hall.out; rw [List.take_of_length_le (by omega)] at this; exact this)
      rw [HE.out, HAT.out] at hE
      obtain ⟨rfl, rfl⟩ := hE
      go_wp2_with fail
      go_ret2
      exact ⟨rfl, hb⟩
end Go.Proofs.Ytomlmphdnoempaa
