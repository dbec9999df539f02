/-
  A disk in memory: its struct, the map of its files by names, the files; what is kept while other blocks change.
-/
import Derived.Test.YtlbkmhlpgpfafaaMem
namespace Go.Proofs.Ytlbkmhlpgpfafaa
open Go.RowKit Go.Maps
/-- A file and its block. -/
structure Fl where
  pf : PF
  blk : Nat
abbrev fk (f : Fl) : List UInt8 := f.pf.nm
def ptrR : Value → Option (DataW Unit × List MemPlace)
  | .pointer (some ⟨b, 0, none⟩) => some (.lit (.int .i64 b), [])
  | .pointer none => some (.lit (.bool false), [])
  | _ => none
theorem ptrR_inv {v : Value} {b : Nat} {ps : List MemPlace} (h : ptrR v = some (.lit (.int .i64 b), ps)) : v = .pointer (some ⟨b, 0, none⟩) := by
  unfold ptrR at h
  split at h
  · rename_i b'
    simp at h
    have e : b' = b := by have := h.1; omega
    rw [e]
  · simp at h
  · cases h
theorem ptrR_nil {v : Value} {ps : List MemPlace} (h : ptrR v = some (.lit (.bool false), ps)) : v = .pointer none := by
  unfold ptrR at h
  split at h
  · simp at h
  · rfl
  · cases h
def kv (f : Fl) : Lit × DataW Unit := (.string f.pf.nm, .lit (.int .i64 f.blk))
def mapD (L : List Fl) : DataW Unit := .map (L.map kv)
theorem mapD_at (L : List Fl) (n : List UInt8) (z : DataW Unit) : (mapD L).atKey (.string n) z = match fndK fk n L with | some f => .lit (.int .i64 f.blk) | none => z := by
  unfold mapD DataW.atKey fndK
  dsimp only
  rw [List.find?_map]
  have e : ((fun p : Lit × DataW Unit => p.1.sameKey (.string n)) ∘ kv) = fun f => decide (fk f = n) := by
    funext f
    show (f.pf.nm == n) = decide (f.pf.nm = n)
    rw [Bool.eq_iff_iff]; simp
  rw [e]
  cases List.find? (fun f => decide (fk f = n)) L <;> rfl
theorem mapD_has (L : List Fl) (n : List UInt8) : Maps.has (mapD L) (.string n) = (fndK fk n L).isSome := by
  unfold mapD fndK
  rw [Maps.has_eq, List.any_map]
  have e : ((fun p : Lit × DataW Unit => p.1.sameKey (.string n)) ∘ kv) = fun f => decide (fk f = n) := by
    funext f
    show (f.pf.nm == n) = decide (f.pf.nm = n)
    rw [Bool.eq_iff_iff]; simp
  rw [e, List.isSome_find?]
theorem insD (x : Fl) (L : List Fl) : DataW.insert (kv x) (L.map kv) = (insK fk x L).map kv := by
  induction L with
  | nil => rfl
  | cons y r ih =>
    unfold insK
    rw [List.map_cons]
    unfold DataW.insert
    have e : (kv x).1.before (kv y).1 = bb (fk x) (fk y) := rfl
    rw [e]
    split
    · rfl
    · rw [ih, List.map_cons]
theorem delD (n : List UInt8) (L : List Fl) : (L.map kv).filter (fun p => !p.1.sameKey (.string n)) = (delK fk n L).map kv := by
  unfold delK
  rw [List.filter_map]
  congr 1
  apply List.filter_congr
  intro f _
  show (!(f.pf.nm == n)) = !decide (f.pf.nm = n)
  congr 1
  rw [Bool.eq_iff_iff]; simp
theorem mapD_put (f : Fl) (L : List Fl) : (mapD L).put (.string f.pf.nm) (.lit (.int .i64 f.blk)) = mapD (putK fk f L) := by
  unfold mapD DataW.put putK
  show DataW.map (DataW.insert (kv f) ((L.map kv).filter (fun p => !p.1.sameKey (.string f.pf.nm)))) = _
  rw [delD, insD]
theorem mapD_del (n : List UInt8) (L : List Fl) : (mapD L).del (.string n) = mapD (delK fk n L) := by
  unfold mapD DataW.del
  show DataW.map ((L.map kv).filter (fun p => !p.1.sameKey (.string n))) = _
  rw [delD]
theorem mapD_size (L : List Fl) : Maps.size (mapD L) = L.length := by
  unfold mapD
  rw [Maps.size_eq, List.length_map]
theorem mapD_keys (L : List Fl) : strKeys (mapD L) = L.map fk := by
  show List.map (fun p => strOf p.1) (L.map kv) = _
  rw [List.map_map]
  rfl
/-- Block m is the map of the files L. -/
def MapAt (w : World) (m : Nat) (L : List Fl) : Prop := w.ownsMap Try.prog 9 ptrR m L.length (mapD L)
theorem own_tight {w : World} {m n : Nat} {D : DataW Unit} (h : w.ownsMap Try.prog 9 ptrR m n D) : w.ownsMap Try.prog 9 ptrR m (Maps.size D) D := by
  obtain ⟨es, clock, hb, F, hs, rfl⟩ := h
  refine ⟨es, clock, hb, F, ?_, rfl⟩
  rw [Maps.size_eq, length_sorted]
  simp
theorem MapAt.of {w : World} {m n : Nat} {L : List Fl} (h : w.ownsMap Try.prog 9 ptrR m n (mapD L)) : MapAt w m L := by
  have := own_tight h
  rw [mapD_size] at this
  exact this
def ptrOf : Option Fl → Value
  | some f => .pointer (some ⟨f.blk, 0, none⟩)
  | none => .pointer none
theorem zeroF (w : World) : (zeroValue 62).run Try.prog w = .ok (.pointer none) w := by kernel_rfl
section
variable {w w' : World} {m : Nat} {L : List Fl}
theorem MapAt.lt (h : MapAt w m L) : m < w.heap.size := World.ownsMap.lt h
theorem MapAt.same (h : MapAt w m L) (e : w'.heap[m]? = w.heap[m]?) : MapAt w' m L := by
  obtain ⟨es, clock, hb, r⟩ := h
  exact ⟨es, clock, e.trans hb, r⟩
theorem MapAt.kind (h : MapAt w m L) : ∃ es clock, w.heap[m]? = some (.map es clock) := by
  obtain ⟨es, clock, hb, r⟩ := h
  exact ⟨es, clock, hb⟩
theorem at_ptr {v : Value} {ps : List MemPlace} {n : List UInt8} (hv : ptrR v = some ((mapD L).atKey (.string n) (.lit (.bool false)), ps)) : v = ptrOf (fndK fk n L) := by
  rw [mapD_at] at hv
  cases h : fndK fk n L with
  | none => rw [h] at hv; exact ptrR_nil hv
  | some f => rw [h] at hv; exact ptrR_inv hv
theorem MapAt.look (h : MapAt w m L) {s : ByteArray} (hs : s.size ≤ maxLen) :
    (Instr.lookup 50 (.map (some m)) (.string s) true).run Try.prog w = .ok (.tuple #[ptrOf (fndK fk s.data.toList L), .bool (fndK fk s.data.toList L).isSome]) w := by
  obtain ⟨v, ps, hr, hv⟩ := World.ownsMap.look_ok h (string_keyed Try.underlying9) Try.underlying50 (zeroF w) (show ptrR (.pointer none) = some (.lit (.bool false), []) from rfl) (Go.WideMaps.keyOf_string_mk Try.underlying9 hs)
  rw [hr, mapD_has, at_ptr hv]
theorem MapAt.look1 (h : MapAt w m L) {s : ByteArray} (hs : s.size ≤ maxLen) :
    (Instr.lookup 50 (.map (some m)) (.string s) false).run Try.prog w = .ok (ptrOf (fndK fk s.data.toList L)) w := by
  obtain ⟨v, ps, hr, hv⟩ := World.ownsMap.lookup h (string_keyed Try.underlying9) Try.underlying50 (zeroF w) (show ptrR (.pointer none) = some (.lit (.bool false), []) from rfl) (Go.WideMaps.keyOf_string_mk Try.underlying9 hs)
  rw [hr, at_ptr hv]
theorem MapAt.len (h : MapAt w m L) (ty : TypeId) : (Builtin.len_ #[50] ty #[.map (some m)]).run Try.prog w = .ok (.int .i64 L.length) w := by
  rw [World.ownsMap.len h Try.underlying50 ty, mapD_size]
theorem MapAt.put (h : MapAt w m L) {s : ByteArray} (hs : s.size ≤ maxLen) (hL : L.length ≤ 64) (f : Fl) (hf : f.pf.nm = s.data.toList) :
    ∃ w', (Instr.mapUpdate 50 (.map (some m)) (.string s) (.pointer (some ⟨f.blk, 0, none⟩))).run Try.prog w = .ok () w' ∧ MapAt w' m (putK fk f L) ∧ w.mapTurned w' m := by
  obtain ⟨w', hr, h1, h2⟩ := World.ownsMap.store h (string_keyed Try.underlying9) Try.underlying50 (by unfold maxLen; omega) (Go.WideMaps.keyOf_string_mk Try.underlying9 hs) (show ptrR (.pointer (some ⟨f.blk, 0, none⟩)) = some (.lit (.int .i64 f.blk), []) from rfl)
  rw [← hf, mapD_put] at h1
  exact ⟨w', hr, MapAt.of h1, h2⟩
theorem MapAt.drop (h : MapAt w m L) {s : ByteArray} (hs : s.size ≤ maxLen) (ty : TypeId) :
    ∃ w', (Builtin.delete_ #[50, 9] ty #[.map (some m), .string s]).run Try.prog w = .ok (.tuple #[]) w' ∧ MapAt w' m (delK fk s.data.toList L) ∧ w.mapTurned w' m := by
  obtain ⟨w', hr, h1, h2⟩ := World.ownsMap.drop h (string_keyed Try.underlying9) Try.underlying50 (Go.WideMaps.keyOf_string_mk Try.underlying9 hs) ty
  rw [mapD_del] at h1
  exact ⟨w', hr, MapAt.of h1, h2⟩
end
/-- The map that a disk has: none, or a block. -/
def MB (w : World) (mb : Option Nat) (L : List Fl) : Prop := (mb = none ∧ L = []) ∨ ∃ m, mb = some m ∧ MapAt w m L
section
variable {w w' : World} {mb : Option Nat} {L : List Fl}
theorem MB.look (h : MB w mb L) {s : ByteArray} (hs : s.size ≤ maxLen) :
    (Instr.lookup 50 (.map mb) (.string s) true).run Try.prog w = .ok (.tuple #[ptrOf (fndK fk s.data.toList L), .bool (fndK fk s.data.toList L).isSome]) w := by
  rcases h with ⟨rfl, rfl⟩ | ⟨m, rfl, h⟩
  · exact Maps.look_nil true (string_keyed Try.underlying9) Try.underlying50 (zeroF w) (Go.WideMaps.keyOf_string_mk Try.underlying9 hs)
  · exact h.look hs
theorem MB.look1 (h : MB w mb L) {s : ByteArray} (hs : s.size ≤ maxLen) :
    (Instr.lookup 50 (.map mb) (.string s) false).run Try.prog w = .ok (ptrOf (fndK fk s.data.toList L)) w := by
  rcases h with ⟨rfl, rfl⟩ | ⟨m, rfl, h⟩
  · exact Maps.look_nil false (string_keyed Try.underlying9) Try.underlying50 (zeroF w) (Go.WideMaps.keyOf_string_mk Try.underlying9 hs)
  · exact h.look1 hs
theorem MB.len (h : MB w mb L) (ty : TypeId) : (Builtin.len_ #[50] ty #[.map mb]).run Try.prog w = .ok (.int .i64 L.length) w := by
  rcases h with ⟨rfl, rfl⟩ | ⟨m, rfl, h⟩
  · exact Maps.len_nil Try.underlying50 ty
  · exact h.len ty
theorem MB.same (h : MB w mb L) (e : ∀ m, mb = some m → w'.heap[m]? = w.heap[m]?) : MB w' mb L := by
  rcases h with ⟨rfl, rfl⟩ | ⟨m, rfl, h⟩
  · exact Or.inl ⟨rfl, rfl⟩
  · exact Or.inr ⟨m, rfl, h.same (e m rfl)⟩
end
/-- A file in memory; ow tells to which file a block belongs. -/
def FA (w : World) (ow : Nat → Option Nat) (f : Fl) : Prop :=
  ∃ hv sv gh, w.heap[f.blk]? = some (.cells #[hv, sv, .bool f.pf.kept] 67 (0, 0)) ∧ BS w hv gh f.pf.has ∧ ow gh = some f.blk ∧ f.pf.has.length ≤ 262144 ∧
    ((f.pf.kept = false ∧ sv = .slice none 0 0 ∧ f.pf.safe = []) ∨ (f.pf.kept = true ∧ ∃ gs, BS w sv gs f.pf.safe ∧ ow gs = some f.blk ∧ f.pf.safe.length ≤ 262144 ∧ (gs = gh → f.pf.safe.length ≤ f.pf.has.length)))
theorem FA.keep {w w' : World} {ow ow' : Nat → Option Nat} {f : Fl} (h : FA w ow f) (hs : ∀ k, k < w.heap.size → (k = f.blk ∨ ow k = some f.blk) → w'.heap[k]? = w.heap[k]?) (ho : ∀ k, k < w.heap.size → ow' k = ow k) : FA w' ow' f := by
  obtain ⟨hv, sv, gh, h1, h2, h3, h4, h5⟩ := h
  refine ⟨hv, sv, gh, (hs _ (lt_of_block h1) (Or.inl rfl)).trans h1, h2.same (hs _ h2.lt (Or.inr h3)), (ho _ h2.lt).trans h3, h4, ?_⟩
  rcases h5 with h5 | ⟨a, gs, b, c, d, e⟩
  · exact Or.inl h5
  · exact Or.inr ⟨a, gs, b.same (hs _ b.lt (Or.inr c)), (ho _ b.lt).trans c, d, e⟩
/-- A disk's struct and map. -/
structure DM (w : World) (d : Nat) (ow : Nat → Option Nat) (mb : Option Nat) (L : List Fl) (dn fu : Bool) (n : Int) : Prop where
  hd : w.heap[d]? = some (.cells #[.map mb, .bool dn, .bool fu, .int .i64 n] 52 (0, 0))
  od : ow d = some d
  out : ∀ b, w.heap.size ≤ b → ow b = none
  map : MB w mb L
  om : ∀ m, mb = some m → ow m = some d
  srt : Srt fk L
  ob : ∀ f ∈ L, ow f.blk = some f.blk ∧ f.blk ≠ d
  apart : ∀ f ∈ L, ∀ g ∈ L, f.blk = g.blk → f.pf.nm = g.pf.nm
  len : L.length ≤ 64
  may : ∀ f ∈ L, mayN f.pf.nm = true
  n0 : 0 ≤ n
  n1 : n ≤ 9223372036854775807
section
variable {w w' : World} {d : Nat} {ow ow' : Nat → Option Nat} {mb : Option Nat} {L : List Fl} {dn fu : Bool} {n : Int}
theorem DM.dlt (h : DM w d ow mb L dn fu n) : d < w.heap.size := lt_of_block h.hd
theorem DM.lt (h : DM w d ow mb L dn fu n) {k : Nat} (hk : ow k ≠ none) : k < w.heap.size := by
  rcases Nat.lt_or_ge k w.heap.size with h' | h'
  · exact h'
  · exact absurd (h.out k h') hk
theorem MB.lt {m : Nat} (h : MB w mb L) (hm : mb = some m) : m < w.heap.size := by
  rcases h with ⟨rfl, rfl⟩ | ⟨m', rfl, h⟩
  · cases hm
  · injection hm with hm
    subst hm
    exact h.lt
theorem DM.keep (h : DM w d ow mb L dn fu n) (hs : ∀ k, k < w.heap.size → ow k = some d → w'.heap[k]? = w.heap[k]?) (ho : ∀ k, k < w.heap.size → ow' k = ow k) (hout : ∀ b, w'.heap.size ≤ b → ow' b = none) : DM w' d ow' mb L dn fu n := by
  have hbl : ∀ f ∈ L, f.blk < w.heap.size := fun f hf => h.lt (by rw [(h.ob f hf).1]; simp)
  exact ⟨(hs d h.dlt h.od).trans h.hd, (ho d h.dlt).trans h.od, hout, h.map.same (fun m hm => hs m (h.map.lt hm) (h.om m hm)), fun m hm => (ho m (h.map.lt hm)).trans (h.om m hm), h.srt,
    fun f hf => ⟨(ho _ (hbl f hf)).trans (h.ob f hf).1, (h.ob f hf).2⟩, h.apart, h.len, h.may, h.n0, h.n1⟩
/-- A disk: what it is comes to S. -/
def DK (w : World) (d : Nat) (ow : Nat → Option Nat) (S : PS) : Prop :=
  ∃ mb L fu n, DM w d ow mb L S.dn fu n ∧ (∀ f ∈ L, FA w ow f) ∧ S.fs = L.map Fl.pf ∧ S.left = if fu then n else -1
/-- Own blocks. -/
def Ow (ow : Nat → Option Nat) (k : Nat) : Prop := ow k ≠ none
theorem DK.keep {S : PS} (h : DK w d ow S) (hz : w.heap.size ≤ w'.heap.size) (hs : ∀ k, k < w.heap.size → Ow ow k → w'.heap[k]? = w.heap[k]?) : DK w' d ow S := by
  obtain ⟨mb, L, fu, n, h1, h2, h3, h4⟩ := h
  refine ⟨mb, L, fu, n, h1.keep (fun k hk hk' => hs k hk (by unfold Ow; rw [hk']; simp)) (fun _ _ => rfl) (fun b hb => h1.out b (by omega)), fun f hf => (h2 f hf).keep (fun k hk hk' => hs k hk ?_) (fun _ _ => rfl), h3, h4⟩
  rcases hk' with rfl | hk'
  · unfold Ow; rw [(h1.ob f hf).1]; simp
  · unfold Ow; rw [hk']; simp
theorem DK.on {S : PS} (h : DK w d ow S) (hb : Below w.heap.size w w') : DK w' d ow S := h.keep hb.size (fun k hk _ => hb.block k hk)
theorem DK.fr {S : PS} {D : Nat → Prop} (h : DK w d ow S) (f : Fr D w w') (hd : ∀ k, Ow ow k → ¬ D k) : DK w' d ow S := h.keep f.size (fun k hk ho => f.block k hk (hd k ho))
theorem DK.lt {S : PS} (h : DK w d ow S) {k : Nat} (hk : Ow ow k) : k < w.heap.size := by
  obtain ⟨mb, L, fu, n, h1, h2, h3, h4⟩ := h
  exact h1.lt hk
/-- Behind a call: a disk that comes to S; blocks of its own are those that were, and new ones. -/
def To (w w' : World) (d : Nat) (ow : Nat → Option Nat) (S : PS) : Prop := ∃ ow', DK w' d ow' S ∧ (∀ k, k < w.heap.size → ow' k = ow k) ∧ Fr (Ow ow) w w'
theorem DK.to {S : PS} (h : DK w d ow S) (hb : Below w.heap.size w w') : To w w' d ow S := ⟨ow, h.on hb, fun _ _ => rfl, Fr.of hb⟩
theorem DK.self {S : PS} (h : DK w d ow S) : To w w d ow S := h.to (Below.refl _ _)
end
end Go.Proofs.Ytlbkmhlpgpfafaa
