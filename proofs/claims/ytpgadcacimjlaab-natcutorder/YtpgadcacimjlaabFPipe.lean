/-
  Pipes as they lie in memory; small contracts.
-/
import Derived.Test.YtpgadcacimjlaabFFPush
import Derived.WalkKit
import Derived.WalkMore
import Derived.BigCall
import Derived.Below
import Derived.Lib.Hide
import Derived.Laws.AppendOwn
import Derived.Laws.OwnMore
import Derived.Deep.QuietTactic
import Derived.BigQuiet
namespace Go.Proofs.Ytpgadcacimjlaab.F6
open Go.RowKit
theorem info67 : (Try.prog.info? 118).map (fun i => (i.zero, i.size, i.bytes)) = some (some (.agg #[.int .i64 0, .int .i64 0, .int .u32 0, .int .u32 0, .int .i64 0, .int .i64 0]), 6, 40) := by kernel_rfl
theorem heap_top (w : World) (o : Obj) : (w.alloc o).heap[w.heap.size]? = some o := by show (w.heap.push o)[w.heap.size]? = _; simp
theorem named {α : Sort _} (x : α) : ∃ y, Hid (x = y) := ⟨x, rfl⟩
/-- A table of n values lies in block b. -/
def TbV (w : World) (b n : Nat) (ty : TypeId) (V : Nat → Value) : Prop := w.heap[b]? = some (.cells ((List.range n).map V).toArray ty (0, 0))
theorem TbV.lt {w : World} {b n : Nat} {ty : TypeId} {V : Nat → Value} (h : TbV w b n ty V) : b < w.heap.size := lt_of_block h
theorem TbV.same {w w' : World} {b n : Nat} {ty : TypeId} {V : Nat → Value} (h : TbV w b n ty V) (hs : w'.heap[b]? = w.heap[b]?) : TbV w' b n ty V := hs.trans h
theorem TbV.cell {w : World} {b n : Nat} {ty : TypeId} {V : Nat → Value} (h : TbV w b n ty V) {v : Nat} (hv : v < n) : w.cell? ⟨b, v, none⟩ = some (V v) := by
  unfold TbV at h
  simp [World.cell?, h, hv]
theorem TbV.free {w : World} {b n : Nat} {ty : TypeId} {V : Nat → Value} (h : TbV w b n ty V) (v : Nat) : w.frozen? ⟨b, v, none⟩ = false := by
  unfold TbV at h
  simp [World.frozen?, h]
theorem TbV.congr {w : World} {b n : Nat} {ty : TypeId} {V U : Nat → Value} (h : TbV w b n ty V) (e : ∀ v, v < n → V v = U v) : TbV w b n ty U := by
  unfold TbV at *
  rw [h]
  congr 3
  apply List.map_congr_left
  intro v hv
  rw [e v (by simpa using hv)]
def updV (V : Nat → Value) (x : Nat) (d : Value) : Nat → Value := fun y => if y = x then d else V y
theorem updV_self (V : Nat → Value) (x : Nat) (d : Value) : updV V x d x = d := by simp [updV]
theorem updV_ne (V : Nat → Value) {x y : Nat} (d : Value) (h : y ≠ x) : updV V x d y = V y := by simp [updV, h]
theorem tabV_set (n : Nat) (V : Nat → Value) (v : Nat) (x : Value) : ((List.range n).map V).toArray.setIfInBounds v x = ((List.range n).map (updV V v x)).toArray := by
  apply Array.ext'
  simp only [Array.toList_setIfInBounds]
  apply List.ext_getElem?
  intro i
  rw [List.getElem?_set]
  by_cases e : v = i
  · subst e
    by_cases h : v < n
    · simp [h, updV_self]
    · simp [h]
  · rw [if_neg e]
    by_cases h : i < n
    · simp [h, updV_ne V x (fun h : i = v => e h.symm)]
    · simp [h]
/-- The cells of the lines: ends, rooms, next steps. -/
def lv (E : List Ed) (fl : Nat → Int) (nx : Nat → Int) (q : Nat) : Value :=
  if q % 6 = 0 then .int .i64 (ed E (q / 6)).f else if q % 6 = 1 then .int .i64 (ed E (q / 6)).t else if q % 6 = 2 then .int .u32 ((ed E (q / 6)).c - fl (q / 6)) else if q % 6 = 3 then .int .u32 (fl (q / 6)) else if q % 6 = 4 then .int .i64 (nx (2 * (q / 6))) else .int .i64 (nx (2 * (q / 6) + 1))
theorem lv_end (E : List Ed) (fl nx : Nat → Int) (k : Nat) : lv E fl nx (k / 2 * 6 + k % 2) = .int .i64 (frm E k) := by
  unfold lv frm
  have h : k % 2 = 0 ∨ k % 2 = 1 := by omega
  have e : (k / 2 * 6 + k % 2) / 6 = k / 2 := by omega
  rcases h with h | h
  · rw [if_pos (by omega), if_pos h, e]
  · rw [if_neg (by omega), if_pos (by omega), if_neg (by omega), e]
theorem lv_room (E : List Ed) (fl nx : Nat → Int) (k : Nat) : lv E fl nx (k / 2 * 6 + 2 + k % 2) = .int .u32 (rm E fl k) := by
  unfold lv rm
  have h : k % 2 = 0 ∨ k % 2 = 1 := by omega
  have e : (k / 2 * 6 + 2 + k % 2) / 6 = k / 2 := by omega
  rcases h with h | h
  · rw [if_neg (by omega), if_neg (by omega), if_pos (by omega), if_pos h, e]
  · rw [if_neg (by omega), if_neg (by omega), if_neg (by omega), if_pos (by omega), if_neg (by omega), e]
theorem lv_next (E : List Ed) (fl nx : Nat → Int) (k : Nat) : lv E fl nx (k / 2 * 6 + 4 + k % 2) = .int .i64 (nx k) := by
  unfold lv
  have h : k % 2 = 0 ∨ k % 2 = 1 := by omega
  have e : (k / 2 * 6 + 4 + k % 2) / 6 = k / 2 := by omega
  rcases h with h | h
  · rw [if_neg (by omega), if_neg (by omega), if_neg (by omega), if_neg (by omega), if_pos (by omega), e]
    congr 2; omega
  · rw [if_neg (by omega), if_neg (by omega), if_neg (by omega), if_neg (by omega), if_neg (by omega), e]
    congr 2; omega
/-- Pipes: the blocks of the lines, of the tables, and the grain. -/
structure Pp (w : World) (f bl b1 b2 b3 bq bp n m : Nat) (gr : Int) : Prop where
  hd : w.heap[f]? = some (.cells #[.slice (some ⟨bl, 0, none⟩) m m, .slice (some ⟨b1, 0, none⟩) n n, .slice (some ⟨b2, 0, none⟩) n n, .slice (some ⟨b3, 0, none⟩) n n, .slice (some ⟨bq, 0, none⟩) 0 n, .slice (some ⟨bp, 0, none⟩) 0 n, .int .u32 gr] 113 (0, 0))
theorem seven_cells {w : World} {g : Nat} {a b c d e f h : Value} {t : TypeId} (hh : w.heap[g]? = some (.cells #[a, b, c, d, e, f, h] t)) : w.cell? ⟨g, 0, none⟩ = some a ∧ w.cell? ⟨g, 1, none⟩ = some b ∧ w.cell? ⟨g, 2, none⟩ = some c ∧ w.cell? ⟨g, 3, none⟩ = some d ∧ w.cell? ⟨g, 4, none⟩ = some e ∧ w.cell? ⟨g, 5, none⟩ = some f ∧ w.cell? ⟨g, 6, none⟩ = some h := by
  simp [World.cell?, hh]
theorem and_one (i : Nat) (hi : i < 9223372036854775808) : bits BinOp.and IntKind.i64 (i : Int) 1 = ((i % 2 : Nat) : Int) := by
  have e1 : bits BinOp.and IntKind.i64 (i : Int) 1 = IntKind.i64.wrap (((i : Int) % 18446744073709551616).toNat &&& 1 : Nat) := rfl
  have e2 : ((i : Int) % 18446744073709551616).toNat = i := by omega
  rw [e1, e2, Nat.and_one_is_mod, IntKind.wrap_i64]
  omega
theorem xor_one (i : Nat) (hi : i < 9223372036854775806) : bits BinOp.xor IntKind.i64 (i : Int) 1 = ((if i % 2 = 0 then i + 1 else i - 1 : Nat) : Int) := by
  have e1 : bits BinOp.xor IntKind.i64 (i : Int) 1 = IntKind.i64.wrap (((i : Int) % 18446744073709551616).toNat ^^^ 1 : Nat) := rfl
  have e2 : ((i : Int) % 18446744073709551616).toNat = i := by omega
  have e3 : i ^^^ 1 = if i % 2 = 0 then i + 1 else i - 1 := by
    have h1 : (i ^^^ 1) / 2 = i / 2 := by
      have := Nat.shiftRight_xor_distrib (a := i) (b := 1) (i := 1)
      simpa [Nat.shiftRight_eq_div_pow] using this
    have h2 := Nat.xor_mod_two_eq_one (a := i) (b := 1)
    split <;> omega
  rw [e1, e2, e3, IntKind.wrap_i64]
  split <;> omega
set_option maxRecDepth 100000 in
set_option maxHeartbeats 400000 in
theorem from_any {w : World} {f bl b1 b2 b3 bq bp n m : Nat} {gr : Int} {E : List Ed} {fl nx : Nat → Int} (hp : Pp w f bl b1 b2 b3 bq bp n m gr) (hl : TbV w bl (m * 6) 118 (lv E fl nx)) {k : Nat} (hk : k < 2 * m) (hm : m ≤ 16384) :
    Calls Try.prog 78 #[.pointer (some ⟨f, 0, none⟩), .int .i64 k] w fun e w' => e = .returned (.int .i64 (frm E k)) ∧ w' = w := by
  obtain ⟨c0, c1, c2, c3, c4, c5, c6⟩ := seven_cells hp.hd
  have d0 := hl.cell (v := k / 2 * 6 + k % 2) (by omega)
  rw [lv_end] at d0
  have hk2 : ((k / 2 : Nat) : Int) < m := by omega
  have ha := and_one k (by omega)
  have hk3 : ((k % 2 : Nat) : Int) < 2 := by omega
  go_enter Try.func78, Try.ntmps78
  go_wp2_with fail
  go_ret
  exact ⟨rfl, rfl⟩
set_option maxRecDepth 100000 in
set_option maxHeartbeats 400000 in
theorem room_any {w : World} {f bl b1 b2 b3 bq bp n m : Nat} {gr : Int} {E : List Ed} {fl nx : Nat → Int} (hp : Pp w f bl b1 b2 b3 bq bp n m gr) (hl : TbV w bl (m * 6) 118 (lv E fl nx)) {k : Nat} (hk : k < 2 * m) (hm : m ≤ 16384) :
    Calls Try.prog 75 #[.pointer (some ⟨f, 0, none⟩), .int .i64 k] w fun e w' => e = .returned (.int .u32 (rm E fl k)) ∧ w' = w := by
  obtain ⟨c0, c1, c2, c3, c4, c5, c6⟩ := seven_cells hp.hd
  have d0 := hl.cell (v := k / 2 * 6 + 2 + k % 2) (by omega)
  rw [lv_room] at d0
  have hk2 : ((k / 2 : Nat) : Int) < m := by omega
  have ha := and_one k (by omega)
  have hk3 : ((k % 2 : Nat) : Int) < 2 := by omega
  go_enter Try.func75, Try.ntmps75
  go_wp2_with fail
  go_ret
  exact ⟨rfl, rfl⟩
set_option maxRecDepth 100000 in
set_option maxHeartbeats 400000 in
theorem next_any {w : World} {f bl b1 b2 b3 bq bp n m : Nat} {gr : Int} {E : List Ed} {fl nx : Nat → Int} (hp : Pp w f bl b1 b2 b3 bq bp n m gr) (hl : TbV w bl (m * 6) 118 (lv E fl nx)) {k : Nat} (hk : k < 2 * m) (hm : m ≤ 16384) :
    Calls Try.prog 73 #[.pointer (some ⟨f, 0, none⟩), .int .i64 k] w fun e w' => e = .returned (.int .i64 (nx k)) ∧ w' = w := by
  obtain ⟨c0, c1, c2, c3, c4, c5, c6⟩ := seven_cells hp.hd
  have d0 := hl.cell (v := k / 2 * 6 + 4 + k % 2) (by omega)
  rw [lv_next] at d0
  have hk2 : ((k / 2 : Nat) : Int) < m := by omega
  have ha := and_one k (by omega)
  have hk3 : ((k % 2 : Nat) : Int) < 2 := by omega
  go_enter Try.func73, Try.ntmps73
  go_wp2_with fail
  go_ret
  exact ⟨rfl, rfl⟩
theorem frm_other (E : List Ed) (k : Nat) : frm E (if k % 2 = 0 then k + 1 else k - 1) = tto E k := by
  unfold frm tto
  by_cases h : k % 2 = 0
  · rw [if_pos h, if_neg (by omega), if_pos h, show (k + 1) / 2 = k / 2 by omega]
  · rw [if_neg h, if_pos (by omega), if_neg h, show (k - 1) / 2 = k / 2 by omega]
set_option maxRecDepth 100000 in
set_option maxHeartbeats 400000 in
theorem to_any {w : World} {f bl b1 b2 b3 bq bp n m : Nat} {gr : Int} {E : List Ed} {fl nx : Nat → Int} (hp : Pp w f bl b1 b2 b3 bq bp n m gr) (hl : TbV w bl (m * 6) 118 (lv E fl nx)) {k : Nat} (hk : k < 2 * m) (hm : m ≤ 16384) :
    Calls Try.prog 74 #[.pointer (some ⟨f, 0, none⟩), .int .i64 k] w fun e w' => e = .returned (.int .i64 (tto E k)) ∧ w' = w := by
  have HF := Lib.hid (from_any hp hl (k := if k % 2 = 0 then k + 1 else k - 1) (by split <;> omega) hm)
  rw [frm_other] at HF
  have hx := xor_one k (by omega)
  generalize (if k % 2 = 0 then k + 1 else k - 1) = j at *
  go_enter Try.func74, Try.ntmps74
  go_wp2_with fail
  refine HF.out.mono ?_
  rintro e w1 ⟨rfl, rfl⟩
  go_wp2_with fail
  go_ret
  exact ⟨rfl, rfl⟩
set_option maxRecDepth 100000 in
set_option maxHeartbeats 400000 in
theorem reached_any {w : World} {f bl b1 b2 b3 bq bp n m : Nat} {gr : Int} {rk : Nat → Int} (hp : Pp w f bl b1 b2 b3 bq bp n m gr) (ht : TbV w b2 n 3 (fun v => .int .i64 (rk v))) {v : Nat} (hv : v < n) :
    Calls Try.prog 43 #[.pointer (some ⟨f, 0, none⟩), .int .i64 v] w fun e w' => e = .returned (.bool (rk v != -1)) ∧ w' = w := by
  obtain ⟨c0, c1, c2, c3, c4, c5, c6⟩ := seven_cells hp.hd
  have d0 := ht.cell hv
  have hv' : (v : Int) < n := by omega
  generalize rk v = r at *
  go_enter Try.func43, Try.ntmps43
  go_wp2_with fail
  go_ret
  exact ⟨rfl, rfl⟩
end Go.Proofs.Ytpgadcacimjlaab.F6
