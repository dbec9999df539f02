/-
  Contract of code.Frame: the number of bytes, their sum, they; or ErrLong.
-/
import Derived.Test.YtchmiiclogmheaaDoorCBytes
namespace Go.Proofs.YtchmiiclogmheaaDoor.C2
open Go.RowKit
set_option maxRecDepth 100000 in
theorem own_slice {w : World} {base : Nat} {e : TypeId} {v : Value} {n : Nat} {xs : List Value} {k : Nat} (h : w.ownsRow base e k v n xs) (hn : 0 < n) : ∃ g c, v = .slice (some ⟨g, 0, none⟩) n c ∧ base ≤ g ∧ n ≤ c ∧ g < w.heap.size ∧ c ≤ 9223372036854775807 := by
  rcases h.2 with ⟨h', h0⟩ | ⟨g, c, cur, h', hb, hg, hnc, hm, _⟩
  · omega
  · exact ⟨g, c, h', hb, hnc, lt_of_block hg, hm⟩
set_option maxRecDepth 100000 in
theorem conv_own {w : World} {base : Nat} {v : Value} {l : List UInt8} (h : w.ownsRow base 5 1 v l.length (bytesC l)) : (convert 79 9 v).run Tryd.prog w = .ok (.string ⟨l.toArray⟩) w := by
  rcases h.2 with ⟨h', h0⟩ | ⟨g, c, cur, h', hb, hg, hnc, hm, _⟩
  · have e : l = [] := List.eq_nil_of_length_eq_zero h0
    subst e; subst h'
    rw [run_convert_bytes_string w 79 9 5 none 0 0 Tryd.underlying79 Tryd.underlying5 Tryd.underlying9]
    simp [Conv.bytesToString, go_sem]
    rfl
  · subst h'
    refine run_convert_bytes_back (P := Tryd.prog) w 79 9 5 ⟨g, 0, none⟩ c l Tryd.underlying79 Tryd.underlying5 Tryd.underlying9 (fun j hj => ?_)
    have h1 := h.cells (g := g) rfl j _ (bytesC_at l j hj)
    exact h1
set_option maxRecDepth 100000 in
theorem str_append (l : List UInt8) (s : ByteArray) : (⟨l.toArray⟩ : ByteArray) ++ s = ⟨(l ++ s.data.toList).toArray⟩ := by
  apply ByteArray.ext
  simp
/-- A frame of bytes. -/
def frameD (l : List UInt8) : List UInt8 := le4 l.length ++ le4 (crcD l) ++ l
set_option maxRecDepth 100000 in
theorem frameD_len (l : List UInt8) : (frameD l).length = l.length + 8 := by unfold frameD; simp [le4_len]; omega
end Go.Proofs.YtchmiiclogmheaaDoor.C2
