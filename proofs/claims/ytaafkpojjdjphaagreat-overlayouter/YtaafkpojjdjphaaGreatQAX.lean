import Derived.Test.YtaafkpojjdjphaaGreatQAW
namespace Go.Proofs.YtaafkpojjdjphaaGreat
open Go.RowKit
theorem ints_ownN {w : World} {B n c : Nat} {a : Option Addr} {xs : List Int} (h : w.ownsRow B 3 1 (.slice a n c) n (cellsI xs)) (hn : xs.length = n) : Ints w a xs := by
 subst hn
 exact ints_own h
theorem bel2 {a b c : World} (h : Below a.heap.size a b) (k : Below b.heap.size b c) : Below a.heap.size a c := h.trans (k.mono h.size)
def Twi (N N1 N2 : Int) (l l1 l2 : List A) (bs : List Int) (cs : List (List Int)) (A1 B1 : List G3.Cg) : Prop :=
 ∃ n : Nat, N = n ∧ N1 = n ∧ N2 = n ∧ NR n l bs cs ∧ SmE l l1 ∧ SmE l1 l2 ∧ (∀ k : Nat, (k : Int) ∉ cgI A1 → l1.getD k A.zero = l.getD k A.zero) ∧ (∀ k : Nat, (k : Int) ∉ cgI B1 → l2.getD k A.zero = l1.getD k A.zero) ∧ (∀ k : Nat, (k : Int) ∉ cgI A1 ++ cgI B1 → l2.getD k A.zero = l.getD k A.zero) ∧
 (∀ x ∈ l1, 0 ≤ x.w ∧ x.w < 4294967296) ∧ (∀ x ∈ l2, 0 ≤ x.w ∧ x.w < 4294967296) ∧ (∀ x ∈ cgI A1, 0 ≤ x ∧ x < (l1.length : Int)) ∧ (∀ x ∈ cgI B1, 0 ≤ x ∧ x < (l2.length : Int)) ∧ (∀ x ∈ cgI A1 ++ cgI B1, 0 ≤ x ∧ x < (l2.length : Int))
theorem twi {N N1 N2 : Int} {l l1 l2 : List A} {bs : List Int} {cs : List (List Int)} {A1 B1 : List G3.Cg} (hns : nsE N l bs cs = 0) (hwt : ∀ x ∈ l, 0 ≤ x.w ∧ x.w < 4294967296) (hA : ∀ x ∈ A1, 0 ≤ x.w ∧ x.w < 4294967296) (hB : ∀ x ∈ B1, 0 ≤ x.w ∧ x.w < 4294967296)
  (e1 : G3.cgE N l A1 = 0) (n1 : (if G3.cgE N l A1 = 0 then N else 0) = N1) (m1 : (if G3.cgE N l A1 = 0 then G3.chg l A1 else []) = l1) (e2 : G3.cgE N1 l1 B1 = 0) (n2 : (if G3.cgE N1 l1 B1 = 0 then N1 else 0) = N2) (m2 : (if G3.cgE N1 l1 B1 = 0 then G3.chg l1 B1 else []) = l2) : Twi N N1 N2 l l1 l2 bs cs A1 B1 := by
 rw [if_pos e1] at n1 m1
 subst n1 m1
 rw [if_pos e2] at n2 m2
 subst n2 m2
 have hNR := nsE_zero.1 hns
 have h0N := (chk_zero hNR.1).1
 have s1 := chg_sm A1 l
 have s2 := chg_sm B1 (G3.chg l A1)
 have k1 : ∀ k : Nat, (k : Int) ∉ cgI A1 → (G3.chg l A1).getD k A.zero = l.getD k A.zero := fun k hk => chg_keep A1 l k (fun c hc => ((cg_zero e1).2.2 c hc).1) hk
 have k2 : ∀ k : Nat, (k : Int) ∉ cgI B1 → (G3.chg (G3.chg l A1) B1).getD k A.zero = (G3.chg l A1).getD k A.zero := fun k hk => chg_keep B1 _ k (fun c hc => ((cg_zero e2).2.2 c hc).1) hk
 have w1 := chg_wt A1 l hwt hA
 have i1 := cgI_in (l' := G3.chg (G3.chg l A1) B1) e1 (by rw [G3.chg_len, G3.chg_len])
 have i2 := cgI_in (l' := G3.chg (G3.chg l A1) B1) e2 (by rw [G3.chg_len])
 exact ⟨N.toNat, by omega, by omega, by omega, by rw [show ((N.toNat : Nat) : Int) = N by omega]; exact hNR, s1, s2, k1, k2, fun k hk => by
  rw [List.mem_append, not_or] at hk
  rw [k2 k hk.2, k1 k hk.1], w1, chg_wt B1 _ w1 hB, cgI_in e1 (by rw [G3.chg_len]), i2, fun x hx => (List.mem_append.1 hx).elim (i1 x) (i2 x)⟩
theorem wp_append_rows {P : Program} {o : Oper} {a : Act} {w : World} {K : Act → World → Prop} {Q : Exit → Act → World → Prop}
  (s x : Operand) (t : TypeId) (hop : o.op = Op.call { callee := Callee.builtin Builtin.append, args := #[s, x], argTypes := #[t, t] })
  (base : Nat) (e : TypeId) (i : TypeInfo) (z : Value) (size bytes : Nat) (ht : P.underlying t = some (.slice e)) (hi : P.info? e = some i) (hz : i.zero = some z)
  (hsize : i.size = size) (hby : i.bytes = bytes) (hzs : z.cells.size = size) (hsz : 0 < size)
  (v : Value) (n : Nat) (xs : List Value) (hs : a.eval s = v) (hown : w.ownsRow base e size v n xs)
  (b2 : Nat) (vx : Option Addr) (m c : Nat) (news : List Value) (hx : a.eval x = .slice vx m c) (hrow : w.ownsRow b2 e size (.slice vx m c) m news) (hl : news.length = m * size) (h1 : ∀ u ∈ news, u.oneCell' = true)
  (h63 : n + m ≤ maxLen) (hbytes : (n + m) * bytes ≤ 140737488355328) (hbase : base ≤ w.heap.size)
  (hK : ∀ v' w', w'.ownsRow base e size v' (n + m) (xs ++ news) → w.grownBy w' v.ownBlock → K (a.put o.dst v') w') : Oper.wp P o a w K Q := by
 rcases hrow.2 with ⟨h2, h3⟩ | ⟨g, c', cur, h2, h3, h4, h5⟩
 ·injection h2 with e1 e2 e3
  subst e1 e2 e3
  have h0 : news = [] := List.eq_nil_of_length_eq_zero (by rw [hl]; simp)
  subst h0
  have hrun := run_append_owned_none (P := P) (w := w) base t o.type e i size ht hi v n xs hown
  unfold Oper.wp
  simp [execOp, hop, resolve, invoke, builtin, hs, hx, hrun, Result.andThen]
  refine hK v w ?_ ⟨rfl, rfl, rfl, Nat.le_refl _, fun _ _ _ => rfl⟩
  rw [List.append_nil, Nat.add_zero]
  exact hown
 ·injection h2 with e1 e2 e3
  subst e1 e3
  have hnews : ∀ j u, news[j]? = some u → w.cell? ((⟨g, 0, none⟩ : Addr).add j) = some u := fun j u hu => by
   have hj : j < m * size := by rw [← hl]; exact (List.getElem?_eq_some_iff.1 hu).1
   rw [Go.WideShapes.add_plain, Nat.zero_add, World.ownsRow.cellAt hrow j hj]
   exact hu
  obtain ⟨v', w', hrun, r1, r2, _, _⟩ := run_append_own_at (P := P) w base t o.type e i z size bytes ht hi hz hsize hby hzs hsz v n xs hown ⟨g, 0, none⟩ m c news hl hnews h1 h63 hbytes hbase
  unfold Oper.wp
  simp [execOp, hop, resolve, invoke, builtin, hs, hx, hrun, Result.andThen]
  exact hK v' w' r1 r2
theorem cellsI_one (xs : List Int) : ∀ u ∈ cellsI xs, u.oneCell' = true := by
 intro u hu
 unfold cellsI at hu
 obtain ⟨x, _, rfl⟩ := List.mem_map.1 hu
 rfl
theorem cellsI_app (a b : List Int) : cellsI a ++ cellsI b = cellsI (a ++ b) := by unfold cellsI; simp
theorem rowOwn {w : World} {B n c : Nat} {a : Option Addr} {xs : List Value} (h : w.ownsRow B 3 1 (.slice a n c) n xs) : ∀ g, (Value.slice a n c).ownBlock = some g → B ≤ g := fun g hg => (h.lt g hg).1
end Go.Proofs.YtaafkpojjdjphaaGreat
