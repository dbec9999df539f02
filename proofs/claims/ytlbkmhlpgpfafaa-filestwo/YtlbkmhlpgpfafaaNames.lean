/-
  Contracts of strings.Clone and of (*Disk).Names: the files' names, rising.
-/
import Derived.Test.YtlbkmhlpgpfafaaTear
import Derived.Lib.SmallJoins
namespace Go.Proofs.Ytlbkmhlpgpfafaa
open Go.RowKit Go.Maps Go.Sort Go.Shelf Go.Joins
theorem sclone_any (s : ByteArray) (hs : s.size ≤ 281474976710656) (w : World) :
    Calls Try.prog 54 #[.string s] w fun e w' => e = .returned (.string s) ∧ Below w.heap.size w w' := by
  have HC := Lib.hid (Try.stringslite_Clone s w hs)
  go_enter Try.func54, Try.ntmps54
  go_wp2_with fail
  refine HC.out.mono ?_
  rintro e w1 ⟨rfl, hb⟩
  go_wp2_with fail
  go_ret
  exact ⟨rfl, hb⟩
theorem own_same {w w' : World} {base : Nat} {e : TypeId} {size : Nat} {v : Value} {n : Nat} {xs : List Value} (h : w.ownsRow base e size v n xs) (hs : ∀ k, v.ownBlock = some k → w'.heap[k]? = w.heap[k]?) : w'.ownsRow base e size v n xs := by
  refine ⟨h.1, ?_⟩
  rcases h.2 with h' | ⟨g, c, cur, rfl, h2, h3, h4⟩
  · exact Or.inl h'
  · exact Or.inr ⟨g, c, cur, rfl, h2, (hs g rfl).trans h3, h4⟩
theorem own_below {w w' : World} {base : Nat} {e : TypeId} {size : Nat} {v : Value} {n : Nat} {xs : List Value} (h : w.ownsRow base e size v n xs) (hb : Below w.heap.size w w') : w'.ownsRow base e size v n xs := own_same h (fun k hk => hb.block k (h.lt k hk).2)
theorem sort_srt {ss l : List (List UInt8)} (hp : ss.Perm l) (hl : l.Pairwise (fun a b => bb a b = true)) : ss.mergeSort (fun x y => decide (x ≤ y)) = l := by
  have h1 : (ss.mergeSort (fun x y => decide (x ≤ y))).Pairwise (fun a b => decide (a ≤ b) = true) := List.pairwise_mergeSort (by
    intro a b c h h'
    simp only [decide_eq_true_eq] at *
    exact List.le_trans h h') (by
    intro a b
    simp only [Bool.or_eq_true, decide_eq_true_eq]
    exact List.le_total a b) ss
  have h2 : l.Pairwise (fun a b => decide (a ≤ b) = true) := hl.imp (fun h => by simpa using bb_le h)
  refine List.Perm.eq_of_pairwise (le := fun a b => decide (a ≤ b) = true) ?_ h1 h2 ((List.mergeSort_perm ss _).trans hp)
  intro a b _ _ h h'
  simp only [decide_eq_true_eq] at h h'
  exact List.le_antisymm h h'
def namesC (l : List (List UInt8)) : List Value := l.map fun n => Value.string ⟨n.toArray⟩
theorem namesC_len (l : List (List UInt8)) : (namesC l).length = l.length := by unfold namesC; simp
theorem namesC_at (l : List (List UInt8)) (j : Nat) (h : j < l.length) : (namesC l)[j]? = some (.string ⟨l[j].toArray⟩) := by
  unfold namesC
  simp [List.getElem?_eq_getElem h]
theorem mayN_len {n : List UInt8} (h : mayN n = true) : n.length ≤ 64 := by
  unfold mayN at h
  simp at h
  omega
section
variable {w : World} {d : Nat} {ow : Nat → Option Nat} {mb : Option Nat} {L : List Fl} {dn fu : Bool} {n : Int}
theorem sorted_any (h : MB w mb L) (hs : Srt fk L) (hl : L.length ≤ 64) :
    Calls Try.prog 52 #[.func (.func 62) #[] #[.pointer (some ⟨w.heap.size, 0, none⟩)]] (w.alloc (.cells #[.map mb] 50)) fun e w' => ∃ v, e = .returned v ∧
      w'.ownsRow w.heap.size 9 1 v L.length (namesC (L.map fk)) ∧ Below w.heap.size w w' := by
  rcases h with ⟨rfl, rfl⟩ | ⟨m, rfl, h⟩
  · refine (callsIn_wide.1 (Try.slices_Sorted_keys_nil_52_53 w)).mono ?_
    rintro e w1 ⟨v, ss, rfl, rfl, hr, hn, hb⟩
    refine ⟨v, rfl, ?_, ((Below.refl _ w).alloc (Nat.le_refl _) _).trans (hb.mono (by simp))⟩
    have := hn.2 rfl
    subst this
    exact ⟨rfl, Or.inl ⟨rfl, rfl⟩⟩
  · refine (callsIn_wide.1 (Try.slices_Sorted_keys_52_53 m L.length (mapD L) ptrR w h (by rw [mapD_size]; unfold maxLen; omega) (by rw [mapD_size]; omega))).mono ?_
    rintro e w1 ⟨v, ss, rfl, hp, hr, hn, hb⟩
    refine ⟨v, rfl, ?_, ((Below.refl _ w).alloc (Nat.le_refl _) _).trans (hb.mono (by simp))⟩
    rw [mapD_keys] at hp
    have e1 := sort_srt hp (by rw [List.pairwise_map]; exact hs)
    rw [e1, hp.length_eq, List.length_map] at hr
    have hr2 := ownsRow_le hr (show w.heap.size ≤ (w.alloc (.cells #[.map (some m)] 50)).heap.size by simp)
    exact hr2
set_option maxHeartbeats 1600000 in
theorem names_any (h : DM w d ow mb L dn fu n) :
    Calls Try.prog 35 #[.pointer (some ⟨d, 0, none⟩)] w fun e w' => ∃ v, e = .returned v ∧ w'.ownsRow w.heap.size 9 1 v L.length (namesC (L.map fk)) ∧ Below w.heap.size w w' := by
  obtain ⟨⟨c0, c1, c2, c3⟩, f0, f1, f2, f3⟩ := cells4 h.hd
  have HS := Lib.hid (sorted_any h.map h.srt h.len)
  have HM := Lib.hid (fun f (hf : f ∈ L) => mayN_len (h.may f hf))
  have hl := h.len
  have HL : Hid ((L.map fk).length = L.length) := by show _ = _; rw [List.length_map]
  obtain ⟨NS, HNS⟩ := named (L.map fk)
  rw [HNS.out] at HS HL ⊢
  have HN64 : Hid (∀ j (hj : j < NS.length), (NS[j]).length ≤ 64) := by
    intro j hj
    have : NS[j] ∈ L.map fk := by rw [HNS.out]; exact List.getElem_mem hj
    obtain ⟨f, hf, e⟩ := List.mem_map.1 this
    rw [← e]
    exact HM.out f hf
  generalize L.length = N at *
  clear h HM
  go_enter Try.func35, Try.ntmps35
  go_wp2_with fail
  refine (callsIn_wide.1 (Try.maps_Keys_53 mb w)).mono ?_
  rintro e w1 ⟨rfl, rfl⟩
  go_wp2_with fail
  refine HS.out.mono ?_
  rintro e w2 ⟨v, rfl, hr, hb⟩
  obtain ⟨a, c, hv⟩ : ∃ a c, v = .slice a N c := by
    rcases hr.2 with ⟨rfl, rfl⟩ | ⟨g, c, cur, rfl, _⟩
    · exact ⟨none, 0, rfl⟩
    · exact ⟨_, c, rfl⟩
  have HR := Lib.hid hr
  clear hr
  subst hv
  clear c0 c1 c2 c3 f0 f1 f2 f3
  go_wp2_with fail
  go_loopw [14] (fun i wr => ∃ j : Nat, j ≤ N ∧ i = .int .i64 j ∧ Hid (wr.ownsRow w.heap.size 9 1 (.slice a N c) N (namesC NS)) ∧ Below w.heap.size w wr) (fun i _ => N - (intOf i).toNat)
  case atStart => exact ⟨0, Nat.zero_le _, rfl, HR, hb⟩
  case round =>
    clear HR hb
    obtain ⟨j, hj, rfl, HR, hb⟩ := hrel
    by_cases hlt : j < N
    · obtain ⟨g, c', hv⟩ := ownsRow_form HR.out (show 0 < N by omega)
      injection hv with hv1 hv2 hv3
      subst hv1 hv3
      have hjN : j < NS.length := by rw [HL.out]; exact hlt
      have e0 := (HR.out.cellAt j (by omega)).trans (namesC_at NS j hjN)
      have e1 := HR.out.frozenAt j
      have hsz : (⟨NS[j].toArray⟩ : ByteArray).size ≤ 64 := by
        have := HN64.out j hjN
        simpa [ByteArray.size] using this
      have hgl : g < wr.heap.size := (HR.out.lt g rfl).2
      have hgB : w.heap.size ≤ g := (HR.out.lt g rfl).1
      have HSET : Hid ((namesC NS).set j (.string ⟨NS[j].toArray⟩) = namesC NS) := by
        show _ = _
        apply List.ext_getElem?
        intro k
        rw [List.getElem?_set]
        split
        · rename_i e; subst e; rw [namesC_len, if_pos hjN, namesC_at NS j hjN]
        · rfl
      generalize hs : (⟨NS[j].toArray⟩ : ByteArray) = s at *
      go_wp2_with fail
      refine (sclone_any s (by omega) wr).mono ?_
      rintro e w3 ⟨rfl, hb3⟩
      have hr3 : w3.ownsRow w.heap.size 9 1 (.slice (some ⟨g, 0, none⟩) N c) N (namesC NS) := own_below HR.out hb3
      have e2 := (hr3.cellAt j (by omega)).trans ((HR.out.cellAt j (by omega)).symm.trans e0)
      have e3 := hr3.frozenAt j
      have HST := Lib.hid (hr3.stored j (.string s))
      rw [HSET.out] at HST
      have HB3 := Lib.hid (bthen hb hb3 hb.size)
      go_wp2_with fail
      exact ⟨⟨j + 1, by omega, by go_num, HST.out.1, HB3.out.grown HST.out.2 (by have := HB3.out.size; omega) (fun k hk => by injection hk with hk; omega)⟩, by simp [intOf]; omega⟩
    · go_wp2_with fail
      go_ret
      exact ⟨_, rfl, HR.out, hb⟩
end
end Go.Proofs.Ytlbkmhlpgpfafaa
