/-
  Neighbours: the marks of a vertex's neighbours; contracts of graph.neighbours and the reference's Near.
-/
import Derived.Test.YtgkpmcpkobphpaaTRCopy
import Derived.Test.YtgkpmcpkobphpaaTLawParts
namespace Go.Proofs.Ytgkpmcpkobphpaa.T3
open Go.RowKit
/-- The marks behind one arc. -/
def nbS (v : Int) (X : List Bool) (x : A) : List Bool :=
  if x.t = v then (if x.f = v then X.set x.t.toNat true else X).set x.f.toNat true else if x.f = v then X.set x.t.toNat true else X
theorem nbS_len (v : Int) (X : List Bool) (x : A) : (nbS v X x).length = X.length := by
  unfold nbS
  split <;> split <;> simp
theorem nbS_ff (f : Nat) (X : List Bool) (u : Int) : nbS f X ⟨f, f, u⟩ = (X.set f true).set f true := by simp [nbS]
theorem nbS_ft (f t : Nat) (X : List Bool) (u : Int) (h : t ≠ f) : nbS f X ⟨f, t, u⟩ = X.set t true := by
  have : ¬ ((t : Int) = (f : Int)) := by omega
  simp [nbS, this]
theorem nbS_tf (f t : Nat) (X : List Bool) (u : Int) (h : f ≠ t) : nbS t X ⟨f, t, u⟩ = X.set f true := by
  have : ¬ ((f : Int) = (t : Int)) := by omega
  simp [nbS, this]
theorem nbS_no (v f t : Nat) (X : List Bool) (u : Int) (h1 : f ≠ v) (h2 : t ≠ v) : nbS v X ⟨f, t, u⟩ = X := by
  have : ¬ ((f : Int) = (v : Int)) := by omega
  have : ¬ ((t : Int) = (v : Int)) := by omega
  simp [nbS, *]
/-- The marks behind some arcs. -/
def nbL (v : Int) (n : Nat) (l : List A) : List Bool := l.foldl (nbS v) (List.replicate n false)
theorem nbL_len (v : Int) (n : Nat) (l : List A) : (nbL v n l).length = n := by
  unfold nbL
  have : ∀ (l : List A) (X : List Bool), (l.foldl (nbS v) X).length = X.length := by
    intro l
    induction l with
    | nil => intro X; rfl
    | cons x r ih => intro X; rw [List.foldl_cons, ih, nbS_len]
  rw [this, List.length_replicate]
theorem nbL_take (v : Int) (n : Nat) (l : List A) (k : Nat) (hk : k < l.length) : nbL v n (l.take (k + 1)) = nbS v (nbL v n (l.take k)) (l.getD k A.zero) := by
  have e : l.getD k A.zero = l[k] := by simp [List.getD, List.getElem?_eq_getElem hk]
  unfold nbL
  rw [List.take_succ_eq_append_getElem hk, List.foldl_append, e]
  rfl
/-- The marks of the neighbours. -/
def nbM (v n : Nat) (l : List A) : List Bool := (nbL v n l).set v false
theorem nbM_len (v n : Nat) (l : List A) : (nbM v n l).length = n := by unfold nbM; rw [List.length_set, nbL_len]
theorem OwnB.alloc {w : World} {g n : Nat} {L : List Bool} (h : OwnB w g n L) (o : Obj) : OwnB (w.alloc o) g n L := World.ownsRow.alloc h o
set_option maxRecDepth 100000 in
set_option maxHeartbeats 1600000 in
theorem near_any (n v : Nat) (a : Option Addr) (l : List A) (cap : Nat) (w : World) (hn : n ≤ 1024) (hv : v < n) (hl : l.length ≤ 8192) (hall : ∀ x ∈ l, (0 ≤ x.f ∧ x.f < n) ∧ (0 ≤ x.t ∧ x.t < n)) (hr : Arcs w a l) :
    Calls Try.prog 56 #[.agg #[.int .i64 n, .slice a l.length cap], .int .i64 v] w fun e w' => ∃ g, e = .returned (.slice (some ⟨g, 0, none⟩) n n) ∧ OwnB w' g n (nbM v n l) ∧ w.heap.size ≤ g ∧ Below w.heap.size w w' := by
  obtain ⟨i4, hi4, hz0, hz1, hz2⟩ := info_parts info4
  have hb0 : Below w.heap.size w (w.alloc (.cells #[.int .i64 n, .slice a l.length cap] 24)) := (Below.refl _ _).alloc (Nat.le_refl _) _
  have hg0 := heap_top w (.cells #[.int .i64 n, .slice a l.length cap] 24)
  have s0 := lt_of_block hg0
  obtain ⟨b, o, hab⟩ := hr.b.get
  have HALL := Lib.hid hall
  clear hall
  go_enter Try.func56, Try.ntmps56
  go_wp2_with (at_make; refine wpList_make_full _ rfl (.tmp 9) (.tmp 9) 48 rfl _ 4 i4 (.bool false) 1 Try.underlying48 hi4 hz0 hz1 .i64 .i64 n n n rfl rfl rfl rfl (by rw [hz2]; omega) (by unfold maxLen; omega) (Nat.le_refl _) ?_; intro w1 hown1 hgrow1)
  have hown0 := ownB_new hown1
  have hb1 := (Below.refl _ _).grown hgrow1 (Nat.le_refl _) (by intro k hk; cases hk)
  clear hown1 hgrow1
  have hg1 := (hb1.block _ s0).trans hg0
  have b1 := bthen hb0 hb1 (by simp)
  have eg : (w.alloc (.cells #[.int .i64 n, .slice a l.length cap] 24)).heap.size = w.heap.size + 1 := by simp
  rw [eg] at hown0
  clear hb1 hb0 hg0 s0 eg
  go_loopw [6] (fun i wr => ∃ k : Nat, k ≤ l.length ∧ i = .int .i64 k ∧ OwnB wr (w.heap.size + 1) n (nbL v n (l.take k)) ∧ wr.heap[w.heap.size]? = some (.cells #[.int .i64 n, .slice a l.length cap] 24) ∧ Below w.heap.size w wr) (fun i _ => l.length - (intOf i).toNat)
  case atStart => exact ⟨0, Nat.zero_le _, rfl, hown0, hg1, b1⟩
  case round =>
    obtain ⟨k, hk, rfl, hown, hg, hb⟩ := hrel
    clear hown0 hg1 b1
    obtain ⟨⟨g0, g1⟩, gf0, gf1⟩ := two_cells hg
    have hsz := hown.lt
    by_cases hlt : k < l.length
    · obtain ⟨rfl, hbl, hat⟩ := hab (by omega)
      obtain ⟨c0, c1, c2⟩ := (hat k hlt).onB hbl hb
      have HS := Lib.hid (nbL_take v n l k hlt)
      have hx := HALL.out _ (mem_getD hlt)
      have HXL := Lib.hid (nbL_len v n (l.take k))
      generalize nbL v n (l.take k) = X at *
      generalize l.getD k A.zero = x at *
      obtain ⟨xf, xt, xw⟩ := x
      obtain ⟨f, hf⟩ : ∃ f : Nat, xf = f := ⟨xf.toNat, by have := hx.1.1; simp at this; omega⟩
      obtain ⟨t, ht⟩ : ∃ t : Nat, xt = t := ⟨xt.toNat, by have := hx.2.1; simp at this; omega⟩
      subst hf ht
      have hfn : f < n := by have := hx.1.2; simp at this; omega
      have htn : t < n := by have := hx.2.2; simp at this; omega
      clear hx
      have ff := hown.free f
      have ft := hown.free t
      have cf := hown.cell HXL.out f hfn
      have ct := hown.cell HXL.out t htn
      generalize X.getD f false = xf0 at *
      generalize X.getD t false = xt0 at *
      have b5 := hb.alloc (by omega) (.cells #[.int .i64 (f : Int), .int .i64 (t : Int), .int .u32 xw] 42)
      have hg5 := (Below.heap_alloc wr (.cells #[.int .i64 (f : Int), .int .i64 (t : Int), .int .u32 xw] 42) _ (lt_of_block hg)).trans hg
      by_cases e1 : f = v
      · subst e1
        by_cases e2 : t = f
        · subst e2
          have HS1 : Hid (nbL t n (l.take (k + 1)) = (X.set t true).set t true) := HS.out.trans (nbS_ff t X xw)
          clear HS
          go_wp2_with fail
          have z1 := (Below.refl (w.heap.size + 1) wr).setCell (p := ⟨w.heap.size + 1, t, none⟩) (Nat.le_refl _) (.bool true)
          have z3 := z1.setCell (p := ⟨w.heap.size + 1, t, none⟩) (Nat.le_refl _) (.bool true)
          have z2 := z3.alloc (by have := z3.size; omega) (.cells #[.int .i64 (t : Int), .int .i64 (t : Int), .int .u32 xw] 42)
          exact ⟨⟨k + 1, by omega, by go_num, by rw [HS1.out]; exact OwnB.alloc ((hown.set t true).set t true) _, (z2.block _ (Nat.lt_succ_self _)).trans hg, hb.trans (z2.mono (Nat.le_succ _))⟩, by simp [intOf]; omega⟩
        · have e2' : ((t : Int) == (f : Int)) = false := beq_eq_false_iff_ne.2 (by omega)
          have HS1 : Hid (nbL f n (l.take (k + 1)) = X.set t true) := HS.out.trans (nbS_ft f t X xw e2)
          clear HS
          go_wp2_with fail
          have z1 := (Below.refl (w.heap.size + 1) wr).setCell (p := ⟨w.heap.size + 1, t, none⟩) (Nat.le_refl _) (.bool true)
          have z2 := z1.alloc (by have := z1.size; omega) (.cells #[.int .i64 (f : Int), .int .i64 (t : Int), .int .u32 xw] 42)
          exact ⟨⟨k + 1, by omega, by go_num, by rw [HS1.out]; exact OwnB.alloc (hown.set t true) _, (z2.block _ (Nat.lt_succ_self _)).trans hg, hb.trans (z2.mono (Nat.le_succ _))⟩, by simp [intOf]; omega⟩
      · have e1' : ((f : Int) == (v : Int)) = false := beq_eq_false_iff_ne.2 (by omega)
        by_cases e2 : t = v
        · subst e2
          have HS1 : Hid (nbL t n (l.take (k + 1)) = X.set f true) := HS.out.trans (nbS_tf f t X xw e1)
          clear HS
          go_wp2_with fail
          have z1 := (Below.refl (w.heap.size + 1) wr).setCell (p := ⟨w.heap.size + 1, f, none⟩) (Nat.le_refl _) (.bool true)
          have z2 := z1.alloc (by have := z1.size; omega) (.cells #[.int .i64 (f : Int), .int .i64 (t : Int), .int .u32 xw] 42)
          exact ⟨⟨k + 1, by omega, by go_num, by rw [HS1.out]; exact OwnB.alloc (hown.set f true) _, (z2.block _ (Nat.lt_succ_self _)).trans hg, hb.trans (z2.mono (Nat.le_succ _))⟩, by simp [intOf]; omega⟩
        · have e2' : ((t : Int) == (v : Int)) = false := beq_eq_false_iff_ne.2 (by omega)
          have HS1 : Hid (nbL v n (l.take (k + 1)) = X) := HS.out.trans (nbS_no v f t X xw e1 e2)
          clear HS
          go_wp2_with fail
          exact ⟨⟨k + 1, by omega, by go_num, by rw [HS1.out]; exact hown.alloc _, hg5, b5⟩, by simp [intOf]; omega⟩
    · have HL := Lib.hid (nbL_len v n l)
      rw [List.take_of_length_le (by omega)] at hown
      have fv := hown.free v
      have cv := hown.cell HL.out v hv
      have hst := hown.set v false
      generalize (nbL v n l).getD v false = x0 at *
      go_wp2_with fail
      go_ret
      exact ⟨w.heap.size + 1, rfl, hst, by omega, hb.setCell (by show _ ≤ w.heap.size + 1; omega) _⟩
end Go.Proofs.Ytgkpmcpkobphpaa.T3
