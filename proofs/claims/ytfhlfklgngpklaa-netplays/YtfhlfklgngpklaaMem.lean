/-
  A net as it lies in memory: which nodes are down, the map of the bags, the timers, the time.
-/
import Derived.Test.YtfhlfklgngpklaaProg
import Derived.WalkKit
import Derived.WalkMore
import Derived.BigCall
import Derived.Below
import Derived.Lib.Hide
import Derived.Laws.AppendOwn
import Derived.Laws.OwnMore
import Derived.Laws.AppendOwnNone
import Derived.Maps.OwnSet
import Derived.Maps.OwnOps
import Derived.Maps.Range
import Derived.Maps.Ext
import Derived.Maps.AppendAt
import Derived.DeepKeys4
import Derived.Deep.AppendLies
import Derived.Deep.QuietTactic
import Derived.BigQuiet
import Derived.Deep.RegionHeld3
import Derived.Deep.RegionLaw
import Derived.BigRegion
namespace Go.Proofs.Ytfhlfklgngpklaa
open Go.RowKit Go.Maps
theorem named {α : Sort _} (x : α) : ∃ y, Hid (x = y) := ⟨x, rfl⟩
theorem heap_top (w : World) (o : Obj) : (w.alloc o).heap[w.heap.size]? = some o := by show (w.heap.push o)[w.heap.size]? = _; simp
theorem bthen {B : Nat} {w w1 w2 : World} (h : Below B w w1) (k : Below w1.heap.size w1 w2) (hB : B ≤ w1.heap.size) : Below B w w2 := h.trans (k.mono hB)
/-- All blocks outside of D stay. -/
structure Fr (D : Nat → Prop) (w w' : World) : Prop where
  os : w'.os = w.os
  tape : w'.tape = w.tape
  output : w'.output = w.output
  size : w.heap.size ≤ w'.heap.size
  block : ∀ k, k < w.heap.size → ¬ D k → w'.heap[k]? = w.heap[k]?
theorem Fr.refl (D : Nat → Prop) (w : World) : Fr D w w := ⟨rfl, rfl, rfl, Nat.le_refl _, fun _ _ _ => rfl⟩
theorem Fr.trans {D D' : Nat → Prop} {a b c : World} (h : Fr D a b) (k : Fr D' b c) (hd : ∀ x, D' x → D x ∨ a.heap.size ≤ x) : Fr D a c :=
  ⟨k.os.trans h.os, k.tape.trans h.tape, k.output.trans h.output, Nat.le_trans h.size k.size, fun i hi hn => (k.block i (Nat.lt_of_lt_of_le hi h.size) (fun e => by rcases hd i e with e' | e'; exact hn e'; omega)).trans (h.block i hi hn)⟩
theorem Fr.then {D : Nat → Prop} {a b c : World} (h : Fr D a b) (k : Fr D b c) : Fr D a c := h.trans k (fun _ e => Or.inl e)
theorem Fr.of {D : Nat → Prop} {a b : World} (h : Below a.heap.size a b) : Fr D a b := ⟨h.os, h.tape, h.output, h.size, fun k hk _ => h.block k hk⟩
theorem Fr.below {D : Nat → Prop} {a b : World} {B : Nat} (h : Fr D a b) (hB : B ≤ a.heap.size) (hd : ∀ x, D x → B ≤ x) : Below B a b :=
  ⟨h.os, h.tape, h.output, h.size, fun k hk => h.block k (by omega) (fun e => by have := hd k e; omega)⟩
theorem Fr.mono {D D' : Nat → Prop} {a b : World} (h : Fr D a b) (hd : ∀ x, D x → D' x) : Fr D' a b := ⟨h.os, h.tape, h.output, h.size, fun k hk hn => h.block k hk (fun e => hn (hd k e))⟩
theorem Fr.grown {D : Nat → Prop} {a b c : World} {r : Option Nat} (h : Fr D a b) (g : b.grownBy c r) (hr : ∀ k, r = some k → D k ∨ a.heap.size ≤ k) : Fr D a c :=
  ⟨g.os.trans h.os, g.tape.trans h.tape, g.output.trans h.output, Nat.le_trans h.size g.size, fun k hk hn => (g.block k (Nat.lt_of_lt_of_le hk h.size) (fun e => by rcases hr k e.symm with h' | h'; exact hn h'; omega)).trans (h.block k hk hn)⟩
theorem Fr.setCell {D : Nat → Prop} {a b : World} (h : Fr D a b) (p : Addr) (u : Value) (hp : D p.block ∨ a.heap.size ≤ p.block) : Fr D a (b.setCell p u) :=
  ⟨h.os, h.tape, h.output, by simpa using h.size, fun k hk hn => (Below.heap_setCell b p u k (fun e => by subst e; rcases hp with hp | hp; exact hn hp; omega)).trans (h.block k hk hn)⟩
/-- A link. -/
structure Pr where
  a : Int
  b : Int
  deriving DecidableEq
/-- A timer. -/
structure Tm where
  nd : Int
  at_ : Int
  tg : Int
  deriving DecidableEq
/-- What a net is: how many nodes, which are down, the bags, the timers in their order, the time. -/
structure NS where
  N : Nat
  dn : List Bool
  bg : Pr → List ByteArray
  tm : List Tm
  now : Int
def strs (l : List ByteArray) : List Value := l.map Value.string
theorem strs_len (l : List ByteArray) : (strs l).length = l.length := by unfold strs; simp
theorem strs_append (l m : List ByteArray) : strs (l ++ m) = strs l ++ strs m := by unfold strs; simp
def tmC : List Tm → List Value
  | [] => []
  | t :: r => .int .i64 t.nd :: .int .i64 t.at_ :: .int .i64 t.tg :: tmC r
theorem tmC_len : ∀ (l : List Tm), (tmC l).length = l.length * 3
  | [] => rfl
  | _ :: r => by simp only [tmC, List.length_cons, tmC_len r]; omega
theorem tmC_append : ∀ (l m : List Tm), tmC (l ++ m) = tmC l ++ tmC m
  | [], m => rfl
  | _ :: r, m => by simp only [List.cons_append, tmC, tmC_append r m]
def boolsC (l : List Bool) : List Value := l.map Value.bool
theorem boolsC_len (l : List Bool) : (boolsC l).length = l.length := by unfold boolsC; simp
/-- A link between nodes. -/
def In (N : Nat) (p : Pr) : Prop := 0 ≤ p.a ∧ p.a < N ∧ 0 ≤ p.b ∧ p.b < N ∧ p.a ≠ p.b
instance (N : Nat) (p : Pr) : Decidable (In N p) := by unfold In; infer_instance
def pV (p : Pr) : Value := .agg #[.int .i64 p.a, .int .i64 p.b]
theorem laidT : laidOutB Try.prog = true := by kernel_rfl
theorem row64 : (64 : TypeId) < Try.prog.types.size := of_decide_eq_true (by kernel_rfl)
theorem wide64 : (match Try.prog.underlying 64 with | some (.array _ _) | some (.struct _) => true | _ => false) = true := by rw [Try.underlying64]
set_option maxRecDepth 100000 in
theorem lawP : Keyed Try.prog 64 := Keyed.of_law (deep_law_laid laidT (m := 2) (by omega) row64 (by kernel_rfl) wide64)
def kP (p : Pr) : Lit := .string (keyBytes [.int .i64 p.a, .int .i64 p.b])
theorem keyType64 : Try.prog.keyType 64 = true := by kernel_rfl
theorem cells64 : Try.prog.cellsOf 64 = 2 := by kernel_rfl
theorem cells3 : Try.prog.cellsOf 3 = 1 := by kernel_rfl
theorem size_types : ∃ k, Try.prog.types.size + 1 = k + 2 := by
  have h : (64 : Nat) < Try.prog.types.size := row64
  exact ⟨Try.prog.types.size - 1, by omega⟩
theorem formedP (x y : Value) : (Value.agg #[x, y]).formed Try.prog 64 = true := by simp [Value.formed, Try.underlying64, cells64]
theorem wf64 {x : Int} (h0 : 0 ≤ x) (h : x ≤ 9223372036854775807) : (Lit.int .i64 x).wf = true := WalkArith.wf_i64 (by omega)
theorem keyOfP (p : Pr) (ha0 : 0 ≤ p.a) (ha : p.a ≤ 9223372036854775807) (hb0 : 0 ≤ p.b) (hb : p.b ≤ 9223372036854775807) : keyOf Try.prog 64 (pV p) = some (kP p) := by
  obtain ⟨k, hk⟩ := size_types
  have w1 := wf64 ha0 ha
  have w2 := wf64 hb0 hb
  unfold keyOf pV
  rw [Try.underlying64, hk]
  simp only [keyType64, formedP, Bool.and_self, if_true]
  have r2 : List.range 2 = [0, 1] := rfl
  simp [Program.keyLits, Try.underlying64, Try.underlying3, cells64, cells3, Value.cells, w1, w2, kP, r2, List.mapM_cons]
section
variable {N : Nat} {p q : Pr}
theorem In.small (h : In N p) (hN : N ≤ 65) : 0 ≤ p.a ∧ p.a ≤ 64 ∧ 0 ≤ p.b ∧ p.b ≤ 64 := by
  obtain ⟨h1, h2, h3, h4, _⟩ := h
  omega
theorem In.key (h : In N p) (hN : N ≤ 65) : keyOf Try.prog 64 (pV p) = some (kP p) := by
  have := h.small hN
  exact keyOfP p (by omega) (by omega) (by omega) (by omega)
theorem In.inj (h : In N p) (k : In N q) (hN : N ≤ 65) (e : kP p = kP q) : p = q := by
  have h1 := lawP.inj (h.key hN) (e ▸ k.key hN)
  unfold pV at h1
  simp only [Value.agg.injEq, Array.mk.injEq, List.cons.injEq, Value.int.injEq, and_true, true_and] at h1
  cases p; cases q
  simp only [Pr.mk.injEq] at *
  exact h1
theorem In.ne (h : In N p) (k : In N q) (hN : N ≤ 65) (e : p ≠ q) : kP p ≠ kP q := fun e' => e (h.inj k hN e')
theorem In.lit (h : In N p) (hN : N ≤ 65) : WideAt.IsKeyLit (kP p) := lawP.key (h.key hN)
end
/-- What a slice reads as. -/
def slD : Value → DataW Unit
  | .slice (some ⟨g, 0, none⟩) n c => .agg [.lit (.int .i64 g), .lit (.int .i64 n), .lit (.int .i64 c)]
  | _ => .nil
def slR : Value → Option (DataW Unit × List MemPlace)
  | .slice (some ⟨g, 0, none⟩) n c => some (.agg [.lit (.int .i64 g), .lit (.int .i64 n), .lit (.int .i64 c)], [])
  | .slice none 0 0 => some (.nil, [])
  | _ => none
theorem slR_of {w : World} {b : Nat} {e : TypeId} {s n : Nat} {v : Value} {xs : List Value} (h : w.ownsRow b e s v n xs) : slR v = some (slD v, []) := by
  rcases h.2 with ⟨rfl, _⟩ | ⟨g, cap, cur, rfl, _⟩ <;> rfl
theorem slR_D {u v : Value} {ps : List MemPlace} (h : slR u = some (slD v, ps)) (hv : slR v = some (slD v, [])) : u = v := by
  unfold slR at h
  split at h
  · rename_i g n c
    unfold slR at hv
    split at hv
    · rename_i g' n' c'
      simp only [slD, Option.some.injEq, Prod.mk.injEq, DataW.agg.injEq, List.cons.injEq, DataW.lit.injEq, Lit.int.injEq, and_true, true_and] at h
      have e1 : g = g' := by omega
      have e2 : n = n' := by omega
      have e3 : c = c' := by omega
      rw [e1, e2, e3]
    · simp [slD] at h
    · cases hv
  · unfold slR at hv
    split at hv
    · simp [slD] at h
    · rfl
    · cases hv
  · cases h
theorem zeroS (w : World) : (zeroValue 43).run Try.prog w = .ok (.slice none 0 0) w := by kernel_rfl
/-- A net in memory: block n; db its nodes that are down, mb the map of the bags, tv the timers, sv the bags. -/
structure NTx (w : World) (n : Nat) (P : Nat → Prop) (S : NS) (db mb : Nat) (tv : Value) (sv : Pr → Value) (D : DataW Unit) (k : Nat) : Prop where
  hn : w.heap[n]? = some (.cells #[.slice (some ⟨db, 0, none⟩) S.N S.N, .map (some mb), tv, .int .i64 S.now] 59 (0, 0))
  hd : w.heap[db]? = some (.cells (boolsC S.dn).toArray 4 (0, 0))
  hl : S.dn.length = S.N
  hN : 1 ≤ S.N ∧ S.N ≤ 65
  hm : w.ownsMap Try.prog 64 slR mb k D
  ht : w.ownsRow 0 53 3 tv S.tm.length (tmC S.tm)
  row : ∀ p, In S.N p → w.ownsRow 0 9 1 (sv p) (S.bg p).length (strs (S.bg p))
  rd : ∀ p, In S.N p → D.atKey (kP p) .nil = slD (sv p)
  has : ∀ p, In S.N p → Maps.has D (kP p) = decide (S.bg p ≠ [])
  key : ∀ l, Maps.has D l = true → ∃ p, In S.N p ∧ l = kP p
  ap : ∀ p q b, In S.N p → In S.N q → (sv p).ownBlock = some b → (sv q).ownBlock = some b → p = q
  short : ∀ p, In S.N p → (S.bg p).length ≤ 4096 ∧ ∀ s ∈ S.bg p, s.size ≤ 262144
  few : S.tm.length ≤ 16384
  now0 : 0 ≤ S.now ∧ S.now ≤ 1073741824
  on : P n
  od : P db
  om : P mb
  ot : ∀ b, tv.ownBlock = some b → P b
  os : ∀ p b, In S.N p → (sv p).ownBlock = some b → P b
  lt : ∀ b, P b → b < w.heap.size
def NT (w : World) (n : Nat) (P : Nat → Prop) (S : NS) : Prop := ∃ db mb tv sv D k, NTx w n P S db mb tv sv D k
theorem ownsRow_same {w w' : World} {b : Nat} {e : TypeId} {s n : Nat} {v : Value} {xs : List Value} (h : w.ownsRow b e s v n xs) (hs : ∀ g, v.ownBlock = some g → w'.heap[g]? = w.heap[g]?) : w'.ownsRow b e s v n xs := by
  refine ⟨h.1, ?_⟩
  rcases h.2 with h2 | ⟨g, cap, cur, rfl, h2, h3, h4⟩
  · exact Or.inl h2
  · exact Or.inr ⟨g, cap, cur, rfl, h2, (hs g rfl).trans h3, h4⟩
theorem ownsMap_same {w w' : World} {b n : Nat} {D : DataW Unit} (h : w.ownsMap Try.prog 64 slR b n D) (hs : w'.heap[b]? = w.heap[b]?) : w'.ownsMap Try.prog 64 slR b n D := by
  obtain ⟨es, clock, hb, r⟩ := h
  exact ⟨es, clock, hs.trans hb, r⟩
theorem own_tight {w : World} {m n : Nat} {D : DataW Unit} (h : w.ownsMap Try.prog 64 slR m n D) : w.ownsMap Try.prog 64 slR m (Maps.size D) D := by
  obtain ⟨es, clock, hb, F, hs, rfl⟩ := h
  refine ⟨es, clock, hb, F, ?_, rfl⟩
  rw [Maps.size_eq, length_sorted]
  simp
section
variable {w w' : World} {n : Nat} {P : Nat → Prop} {S : NS} {db mb : Nat} {tv : Value} {sv : Pr → Value} {D : DataW Unit} {k : Nat}
theorem NTx.keep (h : NTx w n P S db mb tv sv D k) (hz : w.heap.size ≤ w'.heap.size) (hs : ∀ b, b < w.heap.size → P b → w'.heap[b]? = w.heap[b]?) : NTx w' n P S db mb tv sv D k := by
  have hp : ∀ b, P b → w'.heap[b]? = w.heap[b]? := fun b hb => hs b (h.lt b hb) hb
  exact ⟨(hp n h.on).trans h.hn, (hp db h.od).trans h.hd, h.hl, h.hN, ownsMap_same h.hm (hp mb h.om), ownsRow_same h.ht (fun g hg => hp g (h.ot g hg)), fun p hI => ownsRow_same (h.row p hI) (fun g hg => hp g (h.os p g hI hg)), h.rd, h.has, h.key, h.ap, h.short, h.few, h.now0, h.on, h.od, h.om, h.ot, h.os, fun b hb => Nat.lt_of_lt_of_le (h.lt b hb) hz⟩
theorem NTx.on_ (h : NTx w n P S db mb tv sv D k) (hb : Below w.heap.size w w') : NTx w' n P S db mb tv sv D k := h.keep hb.size (fun b hl _ => hb.block b hl)
theorem NT.keep (h : NT w n P S) (hz : w.heap.size ≤ w'.heap.size) (hs : ∀ b, b < w.heap.size → P b → w'.heap[b]? = w.heap[b]?) : NT w' n P S := by
  obtain ⟨db, mb, tv, sv, D, k, h⟩ := h
  exact ⟨db, mb, tv, sv, D, k, h.keep hz hs⟩
theorem NT.on (h : NT w n P S) (hb : Below w.heap.size w w') : NT w' n P S := h.keep hb.size (fun b hl _ => hb.block b hl)
theorem NT.fr {E : Nat → Prop} (h : NT w n P S) (f : Fr E w w') (hd : ∀ b, P b → ¬ E b) : NT w' n P S := h.keep f.size (fun b hl hb => f.block b hl (hd b hb))
theorem NT.lt (h : NT w n P S) {b : Nat} (hb : P b) : b < w.heap.size := by
  obtain ⟨db, mb, tv, sv, D, k, h⟩ := h
  exact h.lt b hb
/-- Behind a call: a net that comes to S; its blocks are those that were, and new ones. -/
def To (w w' : World) (n : Nat) (P : Nat → Prop) (S : NS) : Prop := ∃ P', NT w' n P' S ∧ (∀ b, P' b → P b ∨ w.heap.size ≤ b) ∧ Fr P w w'
theorem NT.to (h : NT w n P S) (hb : Below w.heap.size w w') : To w w' n P S := ⟨P, h.on hb, fun _ e => Or.inl e, Fr.of hb⟩
theorem To.before {w0 : World} (h : To w w' n P S) (hb : Below w0.heap.size w0 w) : To w0 w' n P S := by
  obtain ⟨P', h1, h2, h3⟩ := h
  exact ⟨P', h1, fun b e => (h2 b e).imp id (fun h => Nat.le_trans hb.size h), (Fr.of hb).trans h3 (fun _ e => Or.inl e)⟩
theorem To.behind {w2 : World} (h : To w w' n P S) (hb : Below w'.heap.size w' w2) : To w w2 n P S := by
  obtain ⟨P', h1, h2, h3⟩ := h
  exact ⟨P', h1.on hb, h2, h3.then (Fr.of hb)⟩
theorem To.below {B : Nat} (h : To w w' n P S) (hB : B ≤ w.heap.size) (hP : ∀ b, P b → B ≤ b) : Below B w w' := by
  obtain ⟨P', h1, h2, h3⟩ := h
  exact h3.below hB hP
theorem NTx.look (h : NTx w n P S db mb tv sv D k) {p : Pr} (hp : In S.N p) : (Instr.lookup 57 (.map (some mb)) (.agg #[.int .i64 p.a, .int .i64 p.b]) false).run Try.prog w = .ok (sv p) w := by
  obtain ⟨v, ps, hr, hv⟩ := World.ownsMap.lookup h.hm lawP Try.underlying57 (zeroS w) (show slR (.slice none 0 0) = some (.nil, []) from rfl) (hp.key h.hN.2)
  rw [h.rd p hp] at hv
  rw [← slR_D hv (slR_of (h.row p hp))]
  exact hr
theorem nodup_le {α β : Type} [DecidableEq α] (f : α → β) : ∀ (l : List α) (m : List β), l.Nodup → (∀ x ∈ l, ∀ y ∈ l, f x = f y → x = y) → (∀ x ∈ l, f x ∈ m) → l.length ≤ m.length
  | [], _, _, _, _ => by simp
  | x :: r, m, hd, hi, hm => by
    classical
    obtain ⟨h1, h2⟩ := List.nodup_cons.1 hd
    have hx := hm x (by simp)
    have e := nodup_le f r (m.erase (f x)) h2 (fun a ha b hb => hi a (by simp [ha]) b (by simp [hb])) (fun y hy => by
      refine (List.mem_erase_of_ne (fun e => ?_)).2 (hm y (by simp [hy]))
      exact h1 (hi y (by simp [hy]) x (by simp) e ▸ hy))
    rw [List.length_erase_of_mem hx] at e
    have : 0 < m.length := List.length_pos_of_mem hx
    simp only [List.length_cons]
    omega
/-- All links of so many nodes, and more. -/
def prs (N : Nat) : List (Nat × Nat) := (List.range N).flatMap fun a => (List.range N).map fun b => (a, b)
theorem prs_len (N : Nat) : (prs N).length = N * N := by
  unfold prs
  rw [List.length_flatMap]
  simp only [List.length_map, List.length_range, List.map_const', List.sum_replicate_nat]
theorem mem_prs {N a b : Nat} (ha : a < N) (hb : b < N) : (a, b) ∈ prs N := by
  unfold prs
  rw [List.mem_flatMap]
  exact ⟨a, List.mem_range.2 ha, List.mem_map.2 ⟨b, List.mem_range.2 hb, rfl⟩⟩
theorem NTx.size (h : NTx w n P S db mb tv sv D k) : Maps.size D ≤ 4225 := by
  classical
  obtain ⟨es, rfl⟩ := World.ownsMap.isMap h.hm
  obtain ⟨es', he, hap⟩ := World.ownsMap.tidy h.hm lawP
  cases he
  have hk : ∀ x ∈ es, ∃ p, In S.N p ∧ x.1 = kP p := fun x hx => by
    obtain ⟨p, hp, e⟩ := h.key x.1 (by
      rw [Maps.has_eq, List.any_eq_true]
      have hc := World.ownsMap.canon h.hm lawP
      obtain ⟨es2, e2, _, hk2⟩ := hc
      cases e2
      exact ⟨x, hx, WideAt.sameKey_self (hk2 x hx)⟩)
    exact ⟨p, hp, e⟩
  rw [Maps.size_eq]
  have e : es.length = (es.map (·.1)).length := by simp
  rw [e]
  have nd : (es.map (·.1)).Nodup := by
    rw [List.Nodup, List.pairwise_map]
    exact hap
  let f : Lit → Nat × Nat := fun l => if hl : ∃ p, In S.N p ∧ l = kP p then ((Classical.choose hl).a.toNat, (Classical.choose hl).b.toNat) else (0, 0)
  have hf : ∀ l, (hl : ∃ p, In S.N p ∧ l = kP p) → ∃ p, In S.N p ∧ l = kP p ∧ f l = (p.a.toNat, p.b.toNat) := fun l hl => by
    refine ⟨Classical.choose hl, (Classical.choose_spec hl).1, (Classical.choose_spec hl).2, ?_⟩
    show (if hl : ∃ p, In S.N p ∧ l = kP p then ((Classical.choose hl).a.toNat, (Classical.choose hl).b.toNat) else (0, 0)) = _
    rw [dif_pos hl]
  have hk' : ∀ l ∈ es.map (·.1), ∃ p, In S.N p ∧ l = kP p := fun l hl => by
    obtain ⟨x, hx, rfl⟩ := List.mem_map.1 hl
    exact hk x hx
  have := nodup_le f (es.map (·.1)) (prs S.N) nd (fun x hx y hy e => by
    obtain ⟨p, hp, rfl, e1⟩ := hf x (hk' x hx)
    obtain ⟨q, hq, rfl, e2⟩ := hf y (hk' y hy)
    rw [e1, e2] at e
    obtain ⟨a1, a2, a3, a4, _⟩ := hp
    obtain ⟨b1, b2, b3, b4, _⟩ := hq
    simp only [Prod.mk.injEq] at e
    have : p = q := by
      cases p; cases q
      simp only [Pr.mk.injEq] at *
      omega
    rw [this]) (fun x hx => by
    obtain ⟨p, hp, rfl, e1⟩ := hf x (hk' x hx)
    rw [e1]
    obtain ⟨a1, a2, a3, a4, _⟩ := hp
    exact mem_prs (by omega) (by omega))
  rw [prs_len] at this
  have hN := h.hN.2
  have : S.N * S.N ≤ 65 * 65 := Nat.mul_le_mul hN hN
  omega
/-- A bag is another one. -/
def NS.set (S : NS) (p : Pr) (l : List ByteArray) : NS := { S with bg := fun q => if q = p then l else S.bg q }
theorem NTx.turn (h : NTx w n P S db mb tv sv D k) {p : Pr} (hp : In S.N p) {D' : DataW Unit} {k' : Nat} {v' : Value} {l' : List ByteArray}
    (hm' : w'.ownsMap Try.prog 64 slR mb k' D') (hz : w.heap.size ≤ w'.heap.size)
    (hb : ∀ j, P j → j ≠ mb → (sv p).ownBlock ≠ some j → w'.heap[j]? = w.heap[j]?)
    (hr : w'.ownsRow 0 9 1 v' l'.length (strs l')) (hv : ∀ j, v'.ownBlock = some j → (sv p).ownBlock = some j ∨ w.heap.size ≤ j)
    (hD : ∀ q, In S.N q → q ≠ p → D'.atKey (kP q) .nil = D.atKey (kP q) .nil ∧ Maps.has D' (kP q) = Maps.has D (kP q))
    (hDp : D'.atKey (kP p) .nil = slD v') (hhp : Maps.has D' (kP p) = decide (l' ≠ [])) (hkey : ∀ l, Maps.has D' l = true → Maps.has D l = true ∨ l = kP p)
    (hs : l'.length ≤ 4096) (hs' : ∀ s ∈ l', s.size ≤ 262144) :
    NTx w' n (fun j => P j ∨ v'.ownBlock = some j) (S.set p l') db mb tv (fun q => if q = p then v' else sv q) D' k' := by
  have hsp : ∀ j, (sv p).ownBlock = some j → ∃ cur, w.heap[j]? = some (.cells cur 9 (0, 0)) := fun j e => by
    rcases (h.row p hp).2 with ⟨e2, _⟩ | ⟨g, cap, cur, e2, h2, h3, h4⟩
    · rw [e2] at e; cases e
    · rw [e2] at e
      injection e with e
      subst e
      exact ⟨cur, h3⟩
  have hmk : ∃ es clock, w.heap[mb]? = some (.map es clock) := by
    obtain ⟨es, clock, hb, r⟩ := h.hm
    exact ⟨es, clock, hb⟩
  have nm : ∀ {j cur t z}, w.heap[j]? = some (.cells cur t z) → j ≠ mb := fun hj e => by
    subst e
    obtain ⟨es, clock, e⟩ := hmk
    rw [e] at hj
    cases hj
  have ns : ∀ {j cur t z}, w.heap[j]? = some (.cells cur t z) → t ≠ 9 → (sv p).ownBlock ≠ some j := fun hj ht e => by
    obtain ⟨cur, e⟩ := hsp _ e
    rw [e] at hj
    injection hj with hj
    injection hj with _ hj _
    exact ht hj.symm
  refine ⟨(hb n h.on (nm h.hn) (ns h.hn (by decide))).trans h.hn, (hb db h.od (nm h.hd) (ns h.hd (by decide))).trans h.hd, h.hl, h.hN, hm', ?_, ?_, ?_, ?_, ?_, ?_, ?_, h.few, h.now0, Or.inl h.on, Or.inl h.od, Or.inl h.om, fun b e => Or.inl (h.ot b e), ?_, ?_⟩
  · refine ownsRow_same h.ht (fun g hg => hb g (h.ot g hg) ?_ ?_)
    · rcases h.ht.2 with ⟨e2, _⟩ | ⟨g', cap, cur, e2, h2, h3, h4⟩
      · rw [e2] at hg; cases hg
      · rw [e2] at hg
        injection hg with hg
        subst hg
        exact nm h3
    · rcases h.ht.2 with ⟨e2, _⟩ | ⟨g', cap, cur, e2, h2, h3, h4⟩
      · rw [e2] at hg; cases hg
      · rw [e2] at hg
        injection hg with hg
        subst hg
        exact ns h3 (by decide)
  · intro q hq
    show w'.ownsRow 0 9 1 (if q = p then v' else sv q) (if q = p then l' else S.bg q).length (strs (if q = p then l' else S.bg q))
    by_cases e : q = p
    · rw [if_pos e, if_pos e]
      exact hr
    · rw [if_neg e, if_neg e]
      refine ownsRow_same (h.row q hq) (fun g hg => hb g (h.os q g hq hg) ?_ (fun e' => e (h.ap q p g hq hp hg e')))
      rcases (h.row q hq).2 with ⟨e2, _⟩ | ⟨g', cap, cur, e2, h2, h3, h4⟩
      · rw [e2] at hg; cases hg
      · rw [e2] at hg
        injection hg with hg
        subst hg
        exact nm h3
  · intro q hq
    show D'.atKey (kP q) .nil = slD (if q = p then v' else sv q)
    by_cases e : q = p
    · rw [if_pos e, e, hDp]
    · rw [if_neg e, (hD q hq e).1, h.rd q hq]
  · intro q hq
    show Maps.has D' (kP q) = decide ((if q = p then l' else S.bg q) ≠ [])
    by_cases e : q = p
    · rw [if_pos e, e, hhp]
    · rw [if_neg e, (hD q hq e).2, h.has q hq]
  · intro l hl
    rcases hkey l hl with h1 | h1
    · exact h.key l h1
    · exact ⟨p, hp, h1⟩
  · intro q q' b hq hq' e1 e2
    by_cases e : q = p
    · by_cases e' : q' = p
      · rw [e, e']
      · exfalso
        simp only [if_pos e, if_neg e'] at e1 e2
        rcases hv b e1 with h1 | h1
        · exact e' (h.ap q' p b hq' hp e2 h1)
        · have := h.lt b (h.os q' b hq' e2)
          omega
    · by_cases e' : q' = p
      · exfalso
        simp only [if_neg e, if_pos e'] at e1 e2
        rcases hv b e2 with h1 | h1
        · exact e (h.ap q p b hq hp e1 h1)
        · have := h.lt b (h.os q b hq e1)
          omega
      · simp only [if_neg e, if_neg e'] at e1 e2
        exact h.ap q q' b hq hq' e1 e2
  · intro q hq
    show (if q = p then l' else S.bg q).length ≤ 4096 ∧ ∀ s ∈ (if q = p then l' else S.bg q), s.size ≤ 262144
    by_cases e : q = p
    · rw [if_pos e]
      exact ⟨hs, hs'⟩
    · rw [if_neg e]
      exact h.short q hq
  · intro q b hq e
    by_cases e' : q = p
    · simp only [if_pos e'] at e
      exact Or.inr e
    · simp only [if_neg e'] at e
      exact Or.inl (h.os q b hq e)
  · intro b hb'
    rcases hb' with hb' | hb'
    · exact Nat.lt_of_lt_of_le (h.lt b hb') hz
    · exact (hr.lt b hb').2
theorem slD_ne {w : World} {b : Nat} {e : TypeId} {s n : Nat} {v : Value} {xs : List Value} (h : w.ownsRow b e s v n xs) (hn : n ≠ 0) : ∃ ds, slD v = .agg ds := by
  rcases h.2 with ⟨_, e⟩ | ⟨g, cap, cur, rfl, _⟩
  · exact absurd e hn
  · exact ⟨_, rfl⟩
/-- A bag is stored: its row has been turned before. -/
theorem NTx.store {w1 : World} (h : NTx w n P S db mb tv sv D k) {p : Pr} (hp : In S.N p) {v' : Value} {l' : List ByteArray}
    (hz : w.heap.size ≤ w1.heap.size) (hb : ∀ j, P j → (sv p).ownBlock ≠ some j → w1.heap[j]? = w.heap[j]?)
    (hr : w1.ownsRow 0 9 1 v' l'.length (strs l')) (hv : ∀ j, v'.ownBlock = some j → (sv p).ownBlock = some j ∨ w.heap.size ≤ j) (hne : l' ≠ [])
    (hs : l'.length ≤ 4096) (hs' : ∀ s ∈ l', s.size ≤ 262144) :
    ∃ w2, (Instr.mapUpdate 57 (.map (some mb)) (.agg #[.int .i64 p.a, .int .i64 p.b]) v').run Try.prog w1 = .ok () w2 ∧ w1.grownBy w2 (some mb) ∧
      ∃ D' k', NTx w2 n (fun j => P j ∨ v'.ownBlock = some j) (S.set p l') db mb tv (fun q => if q = p then v' else sv q) D' k' := by
  have hmk : ∃ es clock, w.heap[mb]? = some (.map es clock) := by
    obtain ⟨es, clock, hb, r⟩ := h.hm
    exact ⟨es, clock, hb⟩
  have hnb : (sv p).ownBlock ≠ some mb := fun e => by
    rcases (h.row p hp).2 with ⟨e2, _⟩ | ⟨g, cap, cur, e2, h2, h3, h4⟩
    · rw [e2] at e; cases e
    · rw [e2] at e
      injection e with e
      obtain ⟨es, clock, e'⟩ := hmk
      rw [← e] at e'
      rw [h3] at e'
      cases e'
  have hm1 := ownsMap_same (own_tight h.hm) (hb mb h.om hnb)
  have h63 := h.size
  obtain ⟨w2, r1, r2, r3⟩ := World.ownsMap.update hm1 lawP Try.underlying57 (by unfold maxLen; omega) (hp.key h.hN.2) (slR_of hr)
  have hne0 : l'.length ≠ 0 := fun e => hne (List.eq_nil_of_length_eq_zero e)
  have hvm : v'.ownBlock ≠ some mb := fun e => by
    rcases hv mb e with h1 | h1
    · exact hnb h1
    · have := h.lt mb h.om
      omega
  refine ⟨w2, r1, r3, D.put (kP p) (slD v'), _, h.turn hp r2 (Nat.le_trans hz r3.size) (fun j hj hjm hjs => ?_) (ownsRow_same hr (fun g hg => ?_)) hv ?_ ?_ ?_ ?_ hs hs'⟩
  · exact (r3.block j (Nat.lt_of_lt_of_le (h.lt j hj) hz) (fun e => hjm (Option.some.inj e))).trans (hb j hj hjs)
  · exact r3.block g (hr.lt g hg).2 (fun e => hvm (by rw [hg, e]))
  · intro q hq hqp
    exact ⟨Maps.atKey_put_other (hq.ne hp h.hN.2 hqp) _ _, Maps.has_put_other (hq.ne hp h.hN.2 hqp) _⟩
  · exact Maps.atKey_put_same (World.ownsMap.isMap h.hm) (hp.lit h.hN.2) _ _
  · rw [Maps.has_put_same (World.ownsMap.isMap h.hm) (hp.lit h.hN.2)]
    simp [hne]
  · intro l hl
    by_cases e : l = kP p
    · exact Or.inr e
    · exact Or.inl (by rw [Maps.has_put_other e] at hl; exact hl)
/-- A bag is struck: its row may have been turned before. -/
theorem NTx.strike {w1 : World} (h : NTx w n P S db mb tv sv D k) {p : Pr} (hp : In S.N p)
    (hz : w.heap.size ≤ w1.heap.size) (hb : ∀ j, P j → (sv p).ownBlock ≠ some j → w1.heap[j]? = w.heap[j]?) (ty : TypeId) :
    ∃ w2, (Builtin.delete_ #[57, 64] ty #[.map (some mb), .agg #[.int .i64 p.a, .int .i64 p.b]]).run Try.prog w1 = .ok (.tuple #[]) w2 ∧ w1.grownBy w2 (some mb) ∧
      ∃ D' k', NTx w2 n (fun j => P j ∨ (Value.slice none 0 0).ownBlock = some j) (S.set p []) db mb tv (fun q => if q = p then .slice none 0 0 else sv q) D' k' := by
  have hmk : ∃ es clock, w.heap[mb]? = some (.map es clock) := by
    obtain ⟨es, clock, hb, r⟩ := h.hm
    exact ⟨es, clock, hb⟩
  have hnb : (sv p).ownBlock ≠ some mb := fun e => by
    rcases (h.row p hp).2 with ⟨e2, _⟩ | ⟨g, cap, cur, e2, h2, h3, h4⟩
    · rw [e2] at e; cases e
    · rw [e2] at e
      injection e with e
      obtain ⟨es, clock, e'⟩ := hmk
      rw [← e] at e'
      rw [h3] at e'
      cases e'
  have hm1 := ownsMap_same (own_tight h.hm) (hb mb h.om hnb)
  obtain ⟨w2, r1, r2, r3⟩ := World.ownsMap.drop hm1 lawP Try.underlying57 (hp.key h.hN.2) ty
  have r4 := r3.grown
  refine ⟨w2, r1, r4, D.del (kP p), _, h.turn hp r2 (Nat.le_trans hz r4.size) (fun j hj hjm hjs => ?_) (World.ownsRow_nil _ _ _ _) (fun j e => by cases e) ?_ ?_ ?_ ?_ (by simp) (by simp)⟩
  · exact (r4.block j (Nat.lt_of_lt_of_le (h.lt j hj) hz) (fun e => hjm (Option.some.inj e))).trans (hb j hj hjs)
  · intro q hq hqp
    exact ⟨Maps.atKey_del_other (hq.ne hp h.hN.2 hqp) _, Maps.has_del_other (hq.ne hp h.hN.2 hqp)⟩
  · exact Maps.atKey_del_same _
  · rw [Maps.has_del_same]
    rfl
  · intro l hl
    by_cases e : l = kP p
    · exact Or.inr e
    · exact Or.inl (by rw [Maps.has_del_other e] at hl; exact hl)
end
end Go.Proofs.Ytfhlfklgngpklaa
