/-
  The reference's net: contract of Links.
-/
import Derived.Test.YtfhlfklgngpklaaR10
namespace Go.Proofs.Ytfhlfklgngpklaa
open Go.RowKit Go.Maps
def rowK (R : RS) (a : Nat) : Nat → List Pr
  | 0 => []
  | b + 1 => rowK R a b ++ (if 0 < (pls (pN a b) R.ls 0).length then [pN a b] else [])
def lnk (R : RS) : Nat → List Pr
  | 0 => []
  | a + 1 => lnk R a ++ rowK R a R.up.length
theorem rowK_len (R : RS) (a : Nat) : ∀ b, (rowK R a b).length ≤ b
  | 0 => Nat.le_refl _
  | b + 1 => by
    have := rowK_len R a b
    simp only [rowK, List.length_append]
    split <;> simp <;> omega
theorem lnk_len (R : RS) : ∀ n, (lnk R n).length ≤ n * R.up.length
  | 0 => by simp [lnk]
  | n + 1 => by
    have h1 := lnk_len R n
    have h2 := rowK_len R n R.up.length
    simp only [lnk, List.length_append]
    rw [Nat.add_mul]
    omega
theorem lkC_one : ∀ (l : List Pr), ∀ u ∈ lkC l, u.oneCell' = true
  | [], u, h => by cases h
  | x :: r, u, h => by
    simp only [lkC, List.mem_cons] at h
    rcases h with rfl | rfl | h
    · rfl
    · rfl
    · exact lkC_one r u h
theorem wp_appK {o : Oper} {a : Act} {w : World} {K : Act → World → Prop} {Q : Exit → Act → World → Prop} {base : Nat} (s x : Operand)
    (ho : o.op = .call { callee := .builtin .append, args := #[s, x], argTypes := #[46, 46] })
    (v : Value) (l : List Pr) (hs : a.eval s = v) (hown : w.ownsRow base 64 2 v l.length (lkC l))
    (b : Nat) (t : Pr) (hx : a.eval x = .slice (some ⟨b, 0, none⟩) 1 1) (hb : w.heap[b]? = some (.cells #[.int .i64 t.a, .int .i64 t.b] 64 (0, 0))) (hl : l.length ≤ 1000000) (hbase : base ≤ w.heap.size)
    (hK : ∀ v' w', w'.ownsRow base 64 2 v' (l ++ [t]).length (lkC (l ++ [t])) → w.grownBy w' v.ownBlock → K (a.put o.dst v') w') : Oper.wp Try.prog o a w K Q := by
  obtain ⟨i, h1, h2, h3, h4⟩ := info64
  obtain ⟨v', w', hrun, r1, r2, _, r4⟩ := run_append_own_at (P := Try.prog) w base 46 o.type 64 i _ 2 16 Try.underlying46 h1 h2 h3 h4 rfl (by decide) v l.length (lkC l) hown ⟨b, 0, none⟩ 1 1 (lkC [t]) rfl
    (World.news_of_block hb) (lkC_one _) (by unfold maxLen; omega) (by omega) hbase
  unfold Oper.wp
  simp [execOp, ho, resolve, invoke, builtin, hs, hx, hrun, Result.andThen]
  refine hK v' w' ?_ r2
  rw [lkC_append, List.length_append]
  exact r1
theorem wpList_appK {ops : Array Oper} {rest : List Oper} {o : Oper} {a : Act} {w : World} {Q : Exit → Act → World → Prop} (base : Nat) (hgd : o.guard = none) (s x : Operand)
    (ho : o.op = .call { callee := .builtin .append, args := #[s, x], argTypes := #[46, 46] })
    (v : Value) (l : List Pr) (hs : a.eval s = v) (hown : w.ownsRow base 64 2 v l.length (lkC l))
    (b : Nat) (t : Pr) (hx : a.eval x = .slice (some ⟨b, 0, none⟩) 1 1) (hb : w.heap[b]? = some (.cells #[.int .i64 t.a, .int .i64 t.b] 64 (0, 0))) (hl : l.length ≤ 1000000) (hbase : base ≤ w.heap.size)
    (hK : ∀ v' w', w'.ownsRow base 64 2 v' (l ++ [t]).length (lkC (l ++ [t])) → w.grownBy w' v.ownBlock → wpList Try.prog ops Q rest (a.put o.dst v') w') : wpList Try.prog ops Q (o :: rest) a w :=
  wpList_plain hgd fun _ hK' => wp_appK s x ho v l hs hown b t hx hb hl hbase fun v' w' h1 h2 => hK' _ _ (hK v' w' h1 h2)
section
variable {w w' : World} {r : Nat} {uv lv tv : Value} {R : RS} {D : Nat → Prop}
set_option maxRecDepth 100000 in
set_option maxHeartbeats 3200000 in
theorem RLinks_any (h : RM w r uv lv tv R) (hN : R.up.length ≤ 65) (hl : R.ls.length ≤ 1000000) :
    Calls Try.prog 37 #[.pointer (some ⟨r, 0, none⟩)] w fun e w' => ∃ a c, e = .returned (.slice a (lnk R R.up.length).length c) ∧ w'.ownsRow w.heap.size 64 2 (.slice a (lnk R R.up.length).length c) (lnk R R.up.length).length (lkC (lnk R R.up.length)) ∧ Below w.heap.size w w' := by
  have HBG := Lib.hid (fun w1 (hb : Below w.heap.size w w1) p => bag_any (h.on hb) hl p)
  obtain ⟨c0, -, -, -⟩ := (cells4 h.hd).1
  obtain ⟨ua, uc, hu⟩ := own_slice h.uo
  subst hu
  have hrl := lt_of_block h.hd
  obtain ⟨N, HN⟩ := named R.up.length
  have HS : Hid (∀ n, lnk R (n + 1) = lnk R n ++ rowK R n N) := Lib.hid (fun n => by rw [← HN.out]; rfl)
  have HLL : Hid (∀ n, n ≤ N → (lnk R n).length ≤ 5000) := Lib.hid (fun n hn => by
    have h1 := lnk_len R n
    rw [HN.out] at h1
    have h2 : n * N ≤ 65 * 65 := Nat.mul_le_mul (by have := HN.out; omega) (by have := HN.out; omega)
    omega)
  rw [HN.out] at c0 hN ⊢
  clear h hl
  go_enter Try.func37, Try.ntmps37
  go_wp2_with fail
  go_loopw [3, 4] (fun ov i wr => ∃ n : Nat, n ≤ N ∧ i = .int .i64 n ∧ Hid (wr.ownsRow w.heap.size 64 2 ov (lnk R n).length (lkC (lnk R n))) ∧ Hid (Below w.heap.size w wr)) (fun _ i _ => N - (intOf i).toNat)
  case atStart => exact ⟨0, Nat.zero_le _, rfl, ⟨rfl, Or.inl ⟨rfl, rfl⟩⟩, Below.refl _ _⟩
  case round =>
    obtain ⟨n, hn, rfl, HO, HB⟩ := hrel
    obtain ⟨oa, oc, hvo⟩ := own_slice HO.out
    subst hvo
    have y0 := (HB.out.cell (p := ⟨r, 0, none⟩) hrl).trans c0
    by_cases hnN : n < N
    · have HL1 := Lib.hid (HLL.out n hn)
      obtain ⟨q, HQ⟩ := named (lnk R n)
      rw [HQ.out] at HO HL1
      rw [HQ.out]
      go_wp2_with fail
      clear y0
      go_loopw [3, 5] (fun ov i wr => ∃ b : Nat, b ≤ N ∧ i = .int .i64 b ∧ Hid (wr.ownsRow w.heap.size 64 2 ov (q ++ rowK R n b).length (lkC (q ++ rowK R n b))) ∧ Hid (Below w.heap.size w wr)) (fun _ i _ => N - (intOf i).toNat)
      case atStart => exact ⟨0, Nat.zero_le _, rfl, by show World.ownsRow _ _ _ _ _ _ _; simpa [rowK] using HO.out, HB⟩
      case round =>
        clear HO HB
        obtain ⟨b, hb, rfl, HO, HB⟩ := hrel
        obtain ⟨oa2, oc2, hvo⟩ := own_slice HO.out
        subst hvo
        have y0 := (HB.out.cell (p := ⟨r, 0, none⟩) hrl).trans c0
        by_cases hbN : b < N
        · have HRS : Hid (q ++ rowK R n (b + 1) = (q ++ rowK R n b) ++ (if 0 < (pls (pN n b) R.ls 0).length then [pN n b] else [])) := Lib.hid (by rw [List.append_assoc]; rfl)
          have HCN : Hid ((q ++ rowK R n b).length ≤ 1000000) := Lib.hid (by
            have h1 := rowK_len R n b
            have h2 := HL1.out
            rw [List.length_append]
            omega)
          have HBB : Hid (Calls Try.prog 58 #[.pointer (some ⟨r, 0, none⟩), .int .i64 (n : Int), .int .i64 (b : Int)] wr fun e w' => ∃ v, e = .returned v ∧ w'.ownsRow wr.heap.size 3 1 v (pls (pN n b) R.ls 0).length (natC (pls (pN n b) R.ls 0)) ∧ Below wr.heap.size wr w') := Lib.hid (HBG.out wr HB.out (pN n b))
          have HON := Lib.hid (fun w2 (h2 : Below wr.heap.size wr w2) => own_below HO.out h2)
          generalize pls (pN n b) R.ls 0 = z at *
          generalize q ++ rowK R n b = q2 at *
          by_cases hz : 0 < z.length
          · have hz' : (0 : Int) < z.length := by omega
            rw [if_pos hz] at HRS
            go_wp2_with fail
            refine HBB.out.mono ?_
            rintro e w5 ⟨v, rfl, ho5, hb5⟩
            obtain ⟨za, zc, hzv⟩ := own_slice ho5
            subst hzv
            have HB5 := Lib.hid (bthen HB.out hb5 HB.out.size)
            have HO5 := Lib.hid (HON.out w5 hb5)
            have HSZ := HB5.out.size
            clear ho5 hb5 HBB HON
            go_wp2_with (first | (at_builtin; refine wpList_appK w.heap.size rfl (.tmp 30) (.tmp 34) rfl (.slice oa2 q2.length oc2) q2 rfl (HO5.out.alloc _) w5.heap.size (pN n b) rfl (heap_top _ _) HCN.out (by simp; omega) ?_; intro v4 w4 ho4 hg4; have HO4 := Lib.hid ho4; have HB4 : Hid (Below w.heap.size w w4) := Lib.hid ((HB5.out.alloc HSZ _).grown hg4 (by simp; omega) (fun k hk => (HO5.out.lt k hk).1)); clear ho4 hg4))
            exact ⟨⟨b + 1, by omega, by go_num, by show World.ownsRow _ _ _ _ _ _ _; rw [HRS.out]; exact HO4.out, HB4⟩, by simp [intOf]; omega⟩
          · have hz' : ¬ (0 : Int) < z.length := by omega
            rw [if_neg hz, List.append_nil] at HRS
            go_wp2_with fail
            refine HBB.out.mono ?_
            rintro e w5 ⟨v, rfl, ho5, hb5⟩
            obtain ⟨za, zc, hzv⟩ := own_slice ho5
            subst hzv
            have HB5 := Lib.hid (bthen HB.out hb5 HB.out.size)
            have HO5 := Lib.hid (HON.out w5 hb5)
            clear ho5 hb5 HBB HON
            go_wp2_with fail
            exact ⟨⟨b + 1, by omega, by go_num, by show World.ownsRow _ _ _ _ _ _ _; rw [HRS.out]; exact HO5.out, HB5⟩, by simp [intOf]; omega⟩
        · obtain rfl : b = N := by omega
          have HSN := Lib.hid (HS.out n)
          rw [HQ.out] at HSN
          rw [← HSN.out] at HO
          rw [← HSN.out]
          go_wp2_with fail
          exact ⟨⟨n + 1, by omega, by go_num, HO, HB⟩, by simp [intOf]; omega⟩
    · obtain rfl : n = N := by omega
      go_wp2_with fail
      go_ret
      exact ⟨oa, oc, rfl, HO.out, HB.out⟩
end
end Go.Proofs.Ytfhlfklgngpklaa
