/-
  A list that is filled while other rows stand; contracts of add, graph.marked and graph.inside for it. Contracts of the book's SameInts and SameGraph, at the same ones: true.
-/
import Derived.Test.YtchfccbneedejaaZBB
import Derived.Laws.StructEq
namespace Go.Proofs.Ytchfccbneedejaa.T3
open Go.RowKit
theorem below_drewN (B : Nat) (w : World) (n : Nat) : Below B w (w.drewN n) := ⟨rfl, rfl, rfl, Nat.le_refl _, fun _ _ => rfl⟩
set_option maxRecDepth 100000 in
set_option maxHeartbeats 400000 in
theorem sameInts_any (a a' : Option Addr) (cap cap' : Nat) (xs : List Int) (w : World) (hlen : xs.length ≤ 9223372036854775807) (hr : Ints w a xs) (hr' : Ints w a' xs) :
    Calls Try.prog 16 #[.slice a xs.length cap, .slice a' xs.length cap'] w fun e w' => e = .returned (.bool true) ∧ Below w.heap.size w w' := by
  obtain ⟨b, o, hab⟩ := hr.get
  obtain ⟨b', o', hab'⟩ := hr'.get
  go_enter Try.func16, Try.ntmps16
  go_wp2_with fail
  go_loopw [5] (fun i wr => ∃ k n : Nat, k ≤ xs.length ∧ i = .int .i64 k ∧ wr = w.drewN n) (fun i _ => xs.length - (intOf i).toNat)
  case atStart => exact ⟨0, 0, Nat.zero_le _, rfl, rfl⟩
  case round =>
    obtain ⟨k, n, hk, rfl, rfl⟩ := hrel
    by_cases hlt : k < xs.length
    · obtain ⟨rfl, _, hc⟩ := hab (by omega)
      obtain ⟨rfl, _, hc'⟩ := hab' (by omega)
      have c1 := hc k hlt
      have c2 := hc' k hlt
      clear hc hc'
      generalize xs.getD k 0 = x at *
      go_wp2_with fail
      go_quiet (fail)
      go_wp2_with fail
      exact ⟨⟨k + 1, _, by omega, by go_num, rfl⟩, by simp [intOf]; omega⟩
    · go_wp2_with fail
      go_ret
      exact ⟨rfl, below_drewN _ _ _⟩
set_option maxRecDepth 100000 in
set_option maxHeartbeats 800000 in
theorem sameGraph_any (N : Int) (a a' : Option Addr) (cap cap' : Nat) (l : List A) (w : World) (hlen : l.length ≤ 9223372036854775807) (hr : Arcs w a l) (hr' : Arcs w a' l) :
    Calls Try.prog 36 #[.agg #[.int .i64 N, .slice a l.length cap], .agg #[.int .i64 N, .slice a' l.length cap']] w fun e w' => e = .returned (.bool true) ∧ Below w.heap.size w w' := by
  have hb0 : Below w.heap.size w ((w.alloc (.cells #[.int .i64 N, .slice a l.length cap] 24)).alloc (.cells #[.int .i64 N, .slice a' l.length cap'] 24)) := ((Below.refl _ _).alloc (Nat.le_refl _) _).alloc (by simp) _
  have hg : ((w.alloc (.cells #[.int .i64 N, .slice a l.length cap] 24)).alloc (.cells #[.int .i64 N, .slice a' l.length cap'] 24)).heap[w.heap.size]? = some (.cells #[.int .i64 N, .slice a l.length cap] 24) := (Below.heap_alloc _ _ _ (by simp)).trans (heap_top w _)
  have h1 := heap_top (w.alloc (.cells #[.int .i64 N, .slice a l.length cap] 24)) (.cells #[.int .i64 N, .slice a' l.length cap'] 24)
  rw [show (w.alloc (.cells #[.int .i64 N, .slice a l.length cap] 24)).heap.size = w.heap.size + 1 by simp] at h1
  generalize hW : (w.alloc (.cells #[.int .i64 N, .slice a l.length cap] 24)).alloc (.cells #[.int .i64 N, .slice a' l.length cap'] 24) = W at *
  obtain ⟨⟨g0, g1⟩, gf0, gf1⟩ := two_cells hg
  obtain ⟨⟨k0, k1⟩, kf0, kf1⟩ := two_cells h1
  have hrW := hr.on hb0
  have hrW' := hr'.on hb0
  obtain ⟨b, o, hab⟩ := hrW.b.get
  obtain ⟨b', o', hab'⟩ := hrW'.b.get
  go_enter Try.func36, Try.ntmps36
  go_wp2_with fail
  go_loopw [5] (fun i wr => ∃ k n : Nat, k ≤ l.length ∧ i = .int .i64 k ∧ wr = W.drewN n) (fun i _ => l.length - (intOf i).toNat)
  case atStart => exact ⟨0, 0, Nat.zero_le _, rfl, rfl⟩
  case round =>
    obtain ⟨k, n, hk, rfl, rfl⟩ := hrel
    by_cases hlt : k < l.length
    · obtain ⟨rfl, _, hc⟩ := hab (by omega)
      obtain ⟨rfl, _, hc'⟩ := hab' (by omega)
      obtain ⟨c0, c1, c2⟩ := hc k hlt
      obtain ⟨d0, d1, d2⟩ := hc' k hlt
      clear hc hc'
      generalize l.getD k A.zero = x at *
      go_wp2_with fail
      go_quiet (fail)
      go_wp2_with fail
      exact ⟨⟨k + 1, _, by omega, by go_num, rfl⟩, by simp [intOf]; omega⟩
    · go_wp2_with fail
      go_ret
      exact ⟨rfl, hb0.trans (below_drewN _ _ _)⟩
end Go.Proofs.Ytchfccbneedejaa.T3
namespace Go.Proofs.Ytchfccbneedejaa.T3
open Go.RowKit
/-- A list that is being filled: the variable in block m, what it holds, in a row from B on. -/
def FilB (w : World) (m B : Nat) (xs : List Int) : Prop := ∃ v, w.heap[m]? = some (.cells #[v] 92 (0, 0)) ∧ w.ownsRow B 3 1 v xs.length (cellsI xs)
/-- What is kept while it is filled: all below B but the variable, and what is of another type. -/
structure KpB (m B : Nat) (w w' : World) : Prop where
  os : w'.os = w.os
  tape : w'.tape = w.tape
  output : w'.output = w.output
  size : w.heap.size ≤ w'.heap.size
  block : ∀ k, k < B → k ≠ m → w'.heap[k]? = w.heap[k]?
  other : ∀ k o, w.heap[k]? = some o → k ≠ m → (∀ cur, o ≠ .cells cur 3 (0, 0)) → w'.heap[k]? = some o
theorem KpB.refl (m B : Nat) (w : World) : KpB m B w w := ⟨rfl, rfl, rfl, Nat.le_refl _, fun _ _ _ => rfl, fun _ _ h _ _ => h⟩
theorem KpB.trans {m B : Nat} {a b c : World} (h : KpB m B a b) (k : KpB m B b c) : KpB m B a c :=
  ⟨k.os.trans h.os, k.tape.trans h.tape, k.output.trans h.output, Nat.le_trans h.size k.size, fun i hi hm => (k.block i hi hm).trans (h.block i hi hm), fun i o ho hm ht => k.other i o (h.other i o ho hm ht) hm ht⟩
theorem KpB.of {m B : Nat} {a b : World} (h : Below a.heap.size a b) (hB : B ≤ a.heap.size) : KpB m B a b := ⟨h.os, h.tape, h.output, h.size, fun k hk _ => h.block k (by omega), fun k _ ho _ _ => (h.block k (lt_of_block ho)).trans ho⟩
theorem KpB.alloc {m B : Nat} {a b : World} (h : KpB m B a b) (hB : B ≤ b.heap.size) (o : Obj) : KpB m B a (b.alloc o) := h.trans (KpB.of ((Below.refl _ _).alloc (Nat.le_refl _) o) hB)
theorem KpB.below {m B C : Nat} {w0 w w' : World} (h : KpB m B w w') (hb : Below C w0 w) (hm : C ≤ m) (hB : C ≤ B) : Below C w0 w' :=
  hb.trans ⟨h.os, h.tape, h.output, h.size, fun k hk => h.block k (by omega) (by omega)⟩
theorem FilB.lt {w : World} {m B : Nat} {xs : List Int} (h : FilB w m B xs) : m < w.heap.size := by obtain ⟨v, h, _⟩ := h; exact lt_of_block h
theorem FilB.alloc {w : World} {m B : Nat} {xs : List Int} (h : FilB w m B xs) (o : Obj) : FilB (w.alloc o) m B xs := by
  obtain ⟨v, h1, h2⟩ := h
  exact ⟨v, (Below.heap_alloc w o m (lt_of_block h1)).trans h1, h2.alloc o⟩
set_option maxRecDepth 100000 in
set_option maxHeartbeats 400000 in
theorem addB_any (m B : Nat) (x : Int) (xs : List Int) (w : World) (hx : xs.length ≤ 8192) (hmB : m < B) (hB : B ≤ w.heap.size) (hf : FilB w m B xs) :
    Calls Try.prog 71 #[.pointer (some ⟨m, 0, none⟩), .int .i64 x] w fun e w' => e = .returned (.tuple #[]) ∧ FilB w' m B (xs ++ [x]) ∧ KpB m B w w' := by
  obtain ⟨i0, hi, hz0, hz1, hz2⟩ := info_parts info3
  obtain ⟨v, hm, hown⟩ := hf
  have hlt := lt_of_block hm
  have c0 := cell_of_one hm
  have hne : v.ownBlock ≠ some m := by
    intro h
    have := (hown.lt m h).1
    omega
  have HX : Hid ((cellsI xs ++ [Value.int .i64 x]) = cellsI (xs ++ [x])) := cellsI_snoc xs x
  have HN : Hid (xs.length + 1 = (xs ++ [x]).length) := by show _ = _; simp
  go_enter Try.func71, Try.ntmps71
  go_wp2_with (at_builtin; refine wpList_append_own _ rfl (.tmp 7) (.tmp 9) 92 rfl B 3 i0 (.int .i64 0) 1 8 Try.underlying92 hi hz0 hz1 hz2 rfl (by decide) v xs.length (cellsI xs) rfl (hown.alloc _) ⟨w.heap.size, 0, none⟩ 1 1 [.int .i64 x] rfl rfl ?c1 (one_i64 x) (by unfold maxLen; omega) (by omega) (by simp; omega) ?_)
  case c1 =>
    intro j u hu
    match j, hu with
    | 0, hu => simp at hu; subst hu; simp [Addr.add]
  intro v1 w1 hown1 hgrow1 hnil1
  obtain ⟨g1, cc, rfl, hg1, hc1, hs1, hm1⟩ := own_shape hown1 hnil1
  rw [HX.out] at hown1
  have hm1' : w1.heap[m]? = some (.cells #[v] 92 (0, 0)) := (hgrow1.block m (by simp; omega) (fun h => hne h.symm)).trans ((Below.heap_alloc w _ m hlt).trans hm)
  have d0 := cell_of_one hm1'
  have d1 := free_of_one hm1'
  go_wp2_with fail
  go_end0
  have hset : ∀ k, k ≠ m → (w1.setCell ⟨m, 0, none⟩ (.slice (some ⟨g1, 0, none⟩) (xs.length + 1) cc)).heap[k]? = w1.heap[k]? := fun k hk => Below.heap_setCell w1 _ _ k hk
  have hb1 : Below 0 w w1 := ((Below.refl 0 w).alloc (by omega) _).grown hgrow1 (by simp) (by intro k hk; omega)
  have hb2 := hb1.setCell (p := ⟨m, 0, none⟩) (Nat.zero_le _) (.slice (some ⟨g1, 0, none⟩) (xs.length + 1) cc)
  refine ⟨rfl, ⟨_, one_setCell hm1', ?_⟩, hb2.os, hb2.tape, hb2.output, hb2.size, fun k hk hkm => ?_, fun k o ho hk ht => ?_⟩
  · rw [← HN.out]
    exact ownsRow_setCell_below hown1 (a := ⟨m, 0, none⟩) hmB _
  · rw [hset k hkm, hgrow1.block k (by simp; omega) ?_, Below.heap_alloc w _ k (by omega)]
    intro h
    have := (hown.lt k h.symm).1
    omega
  · rw [hset k hk, hgrow1.block k (by have := lt_of_block ho; simp; omega) ?_, Below.heap_alloc w _ k (lt_of_block ho)]
    · exact ho
    · intro h
      rcases hown.2 with ⟨rfl, _⟩ | ⟨g, c, cur, rfl, _, hg, _⟩
      · simp [Value.ownBlock] at h
      · simp [Value.ownBlock] at h
        subst h
        rw [hg] at ho
        exact ht cur (Option.some.inj ho).symm
/-- A block that stays while the list is filled. -/
def Safe (m B : Nat) (w : World) (b : Nat) : Prop := (b < B ∧ b ≠ m) ∨ (b ≠ m ∧ ∃ o, w.heap[b]? = some o ∧ ∀ cur, o ≠ .cells cur 3 (0, 0))
theorem Safe.same {m B b : Nat} {w w' : World} (h : Safe m B w b) (k : KpB m B w w') : w'.heap[b]? = w.heap[b]? := by
  rcases h with ⟨h1, h2⟩ | ⟨h1, o, ho, ht⟩
  · exact k.block b h1 h2
  · rw [ho]; exact k.other b o ho h1 ht
/-- Truths of a slice lie so in memory. -/
def Bools (P : Nat → Prop) (w : World) (a : Option Addr) (q : List Bool) : Prop :=
  q = [] ∨ ∃ b o, a = some ⟨b, o, none⟩ ∧ P b ∧ ∀ j, j < q.length → w.cell? ⟨b, o + j, none⟩ = some (.bool (q.getD j false))
theorem Bools.get {P : Nat → Prop} {w : World} {a : Option Addr} {q : List Bool} (h : Bools P w a q) : ∃ b o, 0 < q.length → a = some ⟨b, o, none⟩ ∧ P b ∧ ∀ j, j < q.length → w.cell? ⟨b, o + j, none⟩ = some (.bool (q.getD j false)) := by
  rcases h with rfl | ⟨b, o, h⟩
  · exact ⟨0, 0, fun h => absurd h (by simp)⟩
  · exact ⟨b, o, fun _ => h⟩
theorem Bools.imp {P Q : Nat → Prop} {w w' : World} {a : Option Addr} {q : List Bool} (h : Bools P w a q) (hp : ∀ b, P b → Q b) (hs : ∀ b, P b → w'.heap[b]? = w.heap[b]?) : Bools Q w' a q := by
  rcases h with h | ⟨b, o, rfl, hb, hc⟩
  · exact Or.inl h
  · exact Or.inr ⟨b, o, rfl, hp b hb, fun j hj => (World.cell?_of_block (w := w) (a := ⟨b, o + j, none⟩) (hs b hb)).trans (hc j hj)⟩
theorem Bools.on {B : Nat} {w w' : World} {a : Option Addr} {q : List Bool} (h : Bools (· < B) w a q) (hb : Below B w w') : Bools (· < B) w' a q := h.imp (fun _ h => h) (fun b h => hb.block b h)
/-- The marks as a test. -/
def mk (q : List Bool) (k : Nat) : Bool := q.getD k false
set_option maxRecDepth 100000 in
set_option maxHeartbeats 800000 in
theorem marked_any (m B : Nat) (a : Option Addr) (q : List Bool) (cap : Nat) (w : World) (hl : q.length ≤ 8192) (hmB : m < B) (hB : B ≤ w.heap.size) (hr : Bools (Safe m B w) w a q) (hf : FilB w m B []) :
    Calls Try.prog 70 #[.slice a q.length cap, .func (.func 71) #[.pointer (some ⟨m, 0, none⟩)] #[]] w fun e w' => e = .returned (.tuple #[]) ∧ FilB w' m B (hits (mk q) q.length) ∧ KpB m B w w' := by
  obtain ⟨b, o, hab⟩ := hr.get
  go_enter Try.func70, Try.ntmps70
  go_wp2_with fail
  go_loopw [8] (fun i wr => ∃ k : Nat, k ≤ q.length ∧ i = .int .i64 k ∧ FilB wr m B (hits (mk q) k) ∧ KpB m B w wr) (fun i _ => q.length - (intOf i).toNat)
  case atStart => exact ⟨0, Nat.zero_le _, rfl, hf, KpB.refl _ _ _⟩
  case round =>
    obtain ⟨k, hk, rfl, hfil, hkp⟩ := hrel
    have hBr : B ≤ wr.heap.size := by have := hkp.size; omega
    by_cases hlt : k < q.length
    · obtain ⟨rfl, hbs, hat⟩ := hab (by omega)
      have c0 := (World.cell?_of_block (w := w) (a := ⟨b, o + k, none⟩) (hbs.same hkp)).trans (hat k hlt)
      have HL := hits_len (mk q) k
      by_cases hv : q.getD k false = true
      · rw [hv] at c0
        have HT : Hid (hits (mk q) k ++ [(k : Int)] = hits (mk q) (k + 1)) := (hits_t hv).symm
        clear hv
        generalize hits (mk q) k = xs at *
        go_wp2_with (go_at_call 71; refine (addB_any m B k xs _ (by omega) hmB hBr hfil).mono ?_; rintro e w2 ⟨rfl, hf2, hk2⟩)
        rw [HT.out] at hf2
        exact ⟨⟨k + 1, by omega, by go_num, hf2, hkp.trans hk2⟩, by simp [intOf]; omega⟩
      · have hv' : q.getD k false = false := by simpa using hv
        rw [hv'] at c0
        have HT : Hid (hits (mk q) (k + 1) = hits (mk q) k) := hits_f hv'
        clear hv hv'
        go_wp2_with fail
        exact ⟨⟨k + 1, by omega, by go_num, by rw [HT.out]; exact hfil, hkp⟩, by simp [intOf]; omega⟩
    · have hkl : k = q.length := by omega
      rw [hkl] at hfil
      clear hkl
      go_wp2_with fail
      go_end0
      exact ⟨rfl, hfil, hkp⟩
/-- Both ends of an arc are kept. -/
def both (q : Nat → Bool) (x : A) : Bool := q x.f.toNat && q x.t.toNat
set_option maxRecDepth 100000 in
set_option maxHeartbeats 1600000 in
theorem inside_any (m B : Nat) (N : Int) (a : Option Addr) (l : List A) (cap : Nat) (a' : Option Addr) (q : List Bool) (cap' : Nat) (w : World) (hl : l.length ≤ 8192) (hq : q.length ≤ 8192) (hall : ∀ x ∈ l, (0 ≤ x.f ∧ x.f < q.length) ∧ (0 ≤ x.t ∧ x.t < q.length)) (hmB : m < B) (hB : B ≤ w.heap.size)
    (hr : ArcsB m w a l) (hr' : Bools (· < m) w a' q) (hf : FilB w m B []) :
    Calls Try.prog 72 #[.agg #[.int .i64 N, .slice a l.length cap], .slice a' q.length cap', .func (.func 71) #[.pointer (some ⟨m, 0, none⟩)] #[]] w fun e w' => e = .returned (.tuple #[]) ∧ FilB w' m B (hits (fun k => both (mk q) (l.getD k A.zero)) l.length) ∧ KpB m B w w' := by
  have hb0 : Below w.heap.size w (w.alloc (.cells #[.int .i64 N, .slice a l.length cap] 24)) := (Below.refl _ _).alloc (Nat.le_refl _) _
  have hmw := hf.lt
  have HF0 := hf.alloc (.cells #[.int .i64 N, .slice a l.length cap] 24)
  obtain ⟨b, o, hab⟩ := hr.get
  obtain ⟨b', o', hab'⟩ := hr'.get
  have HALL := Lib.hid hall
  obtain ⟨p, HP⟩ := named (fun k => both (mk q) (l.getD k A.zero))
  rw [HP.out]
  clear hf hall
  go_enter Try.func72, Try.ntmps72
  go_wp2_with fail
  go_loopw [11] (fun i wr => ∃ k : Nat, k ≤ l.length ∧ i = .int .i64 k ∧ FilB wr m B (hits p k) ∧ wr.heap[w.heap.size]? = some (.cells #[.int .i64 N, .slice a l.length cap] 24) ∧ KpB m B w wr) (fun i _ => l.length - (intOf i).toNat)
  case atStart => exact ⟨0, Nat.zero_le _, rfl, HF0, heap_top w _, KpB.of hb0 hB⟩
  case round =>
    obtain ⟨k, hk, rfl, hfil, hg, hkp⟩ := hrel
    obtain ⟨⟨g0, g1⟩, gf0, gf1⟩ := two_cells hg
    have hsz : w.heap.size < wr.heap.size := lt_of_block hg
    by_cases hlt : k < l.length
    · obtain ⟨rfl, hbl, hat⟩ := hab (by omega)
      have hbm : Below m w wr := hkp.below (Below.refl _ _) (Nat.le_refl _) (by omega)
      obtain ⟨c0, c1, c2⟩ := (hat k hlt).onB hbl hbm
      have HK : Hid (p k = both (mk q) (l.getD k A.zero)) := by show _ = _; rw [← HP.out]
      have HL := hits_len p k
      have hx := HALL.out (l.getD k A.zero) (by rw [show l.getD k A.zero = l[k] by simp [List.getD, List.getElem?_eq_getElem hlt]]; exact List.getElem_mem hlt)
      generalize l.getD k A.zero = x at *
      obtain ⟨xf, xt, xw⟩ := x
      obtain ⟨f, hf⟩ : ∃ f : Nat, xf = f := ⟨xf.toNat, by have := hx.1.1; simp at this; omega⟩
      obtain ⟨t, ht⟩ : ∃ t : Nat, xt = t := ⟨xt.toNat, by have := hx.2.1; simp at this; omega⟩
      subst hf ht
      have hfn : f < q.length := by have := hx.1.2; simp at this; omega
      have htn : t < q.length := by have := hx.2.2; simp at this; omega
      clear hx
      obtain ⟨rfl, hbl', hat'⟩ := hab' (by omega)
      have d0 := (hbm.cell (p := ⟨b', o' + f, none⟩) hbl').trans (hat' f hfn)
      have d1 := (hbm.cell (p := ⟨b', o' + t, none⟩) hbl').trans (hat' t htn)
      have HK2 : Hid (p k = (q.getD f false && q.getD t false)) := by show _ = _; rw [HK.out]; simp [both, mk]
      have hfa := hfil.alloc (.cells #[.int .i64 f, .int .i64 t, .int .u32 xw] 49)
      have hsb : b' < wr.heap.size := by omega
      by_cases hv : q.getD f false = true
      · by_cases hu : q.getD t false = true
        · have HT : Hid (hits p k ++ [(k : Int)] = hits p (k + 1)) := (hits_t (by rw [HK2.out, hv, hu]; rfl)).symm
          rw [hv] at d0
          rw [hu] at d1
          clear hv hu HK HK2
          generalize hits p k = xs at *
          go_wp2_with (go_at_call 71; refine (addB_any m B k xs _ (by omega) hmB (by simp; omega) hfa).mono ?_; rintro e w2 ⟨rfl, hf2, hk2⟩)
          rw [HT.out] at hf2
          have hk3 := (hkp.alloc (by omega) _).trans hk2
          exact ⟨⟨k + 1, by omega, by go_num, hf2, hk2.other _ _ ((Below.heap_alloc wr _ w.heap.size hsz).trans hg) (by omega) (not3 (by decide)), hk3⟩, by simp [intOf]; omega⟩
        · have hu' : q.getD t false = false := by simpa using hu
          have HT : Hid (hits p (k + 1) = hits p k) := hits_f (by rw [HK2.out, hu']; simp)
          rw [hv] at d0
          rw [hu'] at d1
          clear hv hu hu' HK HK2
          go_wp2_with fail
          exact ⟨⟨k + 1, by omega, by go_num, by rw [HT.out]; exact hfa, (Below.heap_alloc wr _ w.heap.size hsz).trans hg, hkp.alloc (by omega) _⟩, by simp [intOf]; omega⟩
      · have hv' : q.getD f false = false := by simpa using hv
        have HT : Hid (hits p (k + 1) = hits p k) := hits_f (by rw [HK2.out, hv']; simp)
        rw [hv'] at d0
        clear hv hv' HK HK2
        go_wp2_with fail
        exact ⟨⟨k + 1, by omega, by go_num, by rw [HT.out]; exact hfa, (Below.heap_alloc wr _ w.heap.size hsz).trans hg, hkp.alloc (by omega) _⟩, by simp [intOf]; omega⟩
    · have hkl : k = l.length := by omega
      rw [hkl] at hfil
      clear hkl
      go_wp2_with fail
      go_end0
      exact ⟨rfl, hfil, hkp⟩
end Go.Proofs.Ytchfccbneedejaa.T3
