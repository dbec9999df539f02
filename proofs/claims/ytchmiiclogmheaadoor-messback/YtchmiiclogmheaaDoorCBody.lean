/-
  Contract of code.firstBody: the body of the frame that stands at the beginning of the bytes, or what is wrong with it.
-/
import Derived.Test.YtchmiiclogmheaaDoorCFrame
namespace Go.Proofs.YtchmiiclogmheaaDoor.C2
open Go.RowKit
/-- The first four bytes as a number. -/
def wordL (l : List UInt8) : Nat := word4 (l.getD 0 0).toNat (l.getD 1 0).toNat (l.getD 2 0).toNat (l.getD 3 0).toNat
set_option maxRecDepth 100000 in
theorem wordL_lt (l : List UInt8) : wordL l < 4294967296 := word4_lt (UInt8.toNat_lt _) (UInt8.toNat_lt _) (UInt8.toNat_lt _) (UInt8.toNat_lt _)
theorem getD_at (s : ByteArray) (i : Nat) (h : i < s.size) : s.data.toList.getD i 0 = s[i] := by
  have h' : i < s.data.toList.length := by simpa using h
  simp [List.getD, List.getElem?_eq_getElem h']
  rfl
/-- The body of the frame that stands at the beginning, or what is wrong. -/
def bodyD (l : List UInt8) : List UInt8 × Int :=
  if l.length < 8 then ([], 23)
  else if 262144 < wordL l then ([], 2)
  else if l.length - 8 < wordL l then ([], 23)
  else if crcD ((l.drop 8).take (wordL l)) = wordL (l.drop 4) then ((l.drop 8).take (wordL l), 0)
  else ([], 25)
set_option maxRecDepth 100000 in
theorem below_drewN (B : Nat) (w : World) (n : Nat) : Below B w (w.drewN n) := ⟨rfl, World.tape_drewN .., rfl, Nat.le_refl _, fun _ _ => rfl⟩
theorem str_back (s : ByteArray) : (⟨s.data.toList.toArray⟩ : ByteArray) = s := rfl
theorem extract_list (s : ByteArray) (a b : Nat) : (s.extract a b).data.toList = (s.data.toList.drop a).take (b - a) := by
  simp [ByteArray.data_extract, Array.toList_extract, List.extract_eq_take_drop]
set_option maxRecDepth 100000 in
theorem drop_list (s : ByteArray) (a : Nat) : (s.extract a s.size).data.toList = s.data.toList.drop a := by
  rw [extract_list, List.take_of_length_le (by simp)]
theorem extract_size (s : ByteArray) (a b : Nat) : (s.extract a b).size = min b s.size - a := by simp [ByteArray.size_extract]
/-- The body, by whatever reads four bytes. -/
def bodyF (F : ByteArray → Nat) (s : ByteArray) : ByteArray × Int :=
  if 262144 < F s then (⟨#[]⟩, 2)
  else if s.size - 8 < F s then (⟨#[]⟩, 23)
  else if crcD ((s.extract 8 s.size).extract 0 (F s)).data.toList = F (s.extract 4 s.size) then ((s.extract 8 s.size).extract 0 (F s), 0)
  else (⟨#[]⟩, 25)
set_option maxRecDepth 100000 in
theorem bodyF_eq (F : ByteArray → Nat) (s : ByteArray) (x y : Nat) (hx : F s = x) (hy : F (s.extract 4 s.size) = y) :
    bodyF F s = if 262144 < x then (⟨#[]⟩, 2) else if s.size - 8 < x then (⟨#[]⟩, 23) else if crcD ((s.data.toList.drop 8).take x) = y then (⟨((s.data.toList.drop 8).take x).toArray⟩, 0) else (⟨#[]⟩, 25) := by
  subst hx; subst hy
  have e : ((s.extract 8 s.size).extract 0 (F s)).data.toList = (s.data.toList.drop 8).take (F s) := by
    rw [extract_list, drop_list, List.drop_zero, Nat.sub_zero]
  have e2 : (⟨((s.data.toList.drop 8).take (F s)).toArray⟩ : ByteArray) = (s.extract 8 s.size).extract 0 (F s) := by
    rw [← e, str_back]
  unfold bodyF
  rw [e, e2]
set_option maxRecDepth 100000 in
theorem bodyD_eq (l : List UInt8) (h : 8 ≤ l.length) (x y : Nat) (hx : wordL l = x) (hy : wordL (l.drop 4) = y) :
    bodyD l = if 262144 < x then ([], 2) else if l.length - 8 < x then ([], 23) else if crcD ((l.drop 8).take x) = y then ((l.drop 8).take x, 0) else ([], 25) := by
  subst hx; subst hy
  unfold bodyD
  rw [if_neg (by omega)]
end Go.Proofs.YtchmiiclogmheaaDoor.C2
