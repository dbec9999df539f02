/-
  Contracts of slices.SortFunc over links, of slices.Collect, maps.Keys, slices.SortedFunc, and of (*Net).Links.
-/
import Derived.Test.YtfhlfklgngpklaaApp
namespace Go.Proofs.Ytfhlfklgngpklaa
open Go.RowKit
open Go.Sort (Holds HoldsK flatK putRow putRowK putCells mapBlock onCells grow heap_grow_old get_flatK size_flatK)
instance : Inhabited Pr := ⟨⟨0, 0⟩⟩
def pz : Pr := ⟨0, 0⟩
theorem lkC_at : ∀ (l : List Pr) (j : Nat), j < l.length → (lkC l)[j * 2]? = some (.int .i64 (l.getD j pz).a) ∧ (lkC l)[j * 2 + 1]? = some (.int .i64 (l.getD j pz).b)
  | [], j, h => absurd h (by simp)
  | p :: r, 0, _ => ⟨rfl, rfl⟩
  | p :: r, j + 1, h => by
    have ih := lkC_at r j (by simpa using h)
    rw [show (j + 1) * 2 = j * 2 + 1 + 1 by omega]
    exact ih
def OwnP (w : World) (B : Nat) (a : Option Addr) (c : Nat) (l : List Pr) : Prop := w.ownsRow B 64 2 (.slice a l.length c) l.length (lkC l)
theorem flat_at (d : List Pr) {j : Nat} (hj : j < d.length * 2) : (lkC d)[j]? = some ((flatK encP 2 d.toArray)[j]!) := by
  rw [get_flatK _ _ _ _ (by simpa using hj)]
  obtain ⟨i, hi⟩ : ∃ i, j = i * 2 ∨ j = i * 2 + 1 := ⟨j / 2, by omega⟩
  obtain ⟨q1, q2⟩ := lkC_at d i (by omega)
  have e : (d.toArray)[j / 2]! = d.getD i pz := by
    rw [show j / 2 = i by omega]
    have hi' : i < d.length := by omega
    simp [List.getD, hi', getElem!_pos]
  rw [e]
  rcases hi with rfl | rfl
  · rw [q1, show i * 2 % 2 = 0 by omega]; rfl
  · rw [q2, show (i * 2 + 1) % 2 = 1 by omega]; rfl
theorem holds_P {w : World} {B g c : Nat} {d : List Pr} (h : OwnP w B (some ⟨g, 0, none⟩) c d) : HoldsK encP 2 w g 0 d.toArray := by
  intro j hj
  rw [size_flatK] at hj
  have hj' : j < d.length * 2 := by simpa using hj
  refine ⟨?_, h.frozenAt _⟩
  rw [Nat.zero_add, World.ownsRow.cellAt h j (by omega), flat_at d hj']
  rfl
theorem own_sorted {w : World} {B g c q : Nat} {os : Array Obj} {d e : List Pr} (h : OwnP w B (some ⟨g, 0, none⟩) c d) (he : e.length = d.length) : OwnP (sortWorldK encP 2 w g 0 q e.toArray os) B (some ⟨g, 0, none⟩) c e := by
  unfold OwnP
  rw [he]
  rcases h.2 with ⟨e0, _⟩ | ⟨g', cap', cur, e0, hb, hg, hn, hm, hs, ht⟩
  · cases e0
  · injection e0 with e1 _ e3
    injection e1 with e1
    injection e1 with e1
    subst e1; subst e3
    have hlt : g < w.heap.size := lt_of_block hg
    refine ⟨by rw [lkC_len, he], .inr ⟨g, c, putCells id 0 (flatK encP 2 e.toArray) cur, rfl, hb, ?_, hn, hm, by simpa [putCells] using hs, ?_⟩⟩
    · unfold sortWorldK putRowK
      rw [heap_grow_old _ _ (by simpa [putRow, mapBlock, Sort.ahead] using hlt)]
      simp [putRow, mapBlock, Sort.ahead, Array.getElem?_modify, hg, onCells]
    · apply List.ext_getElem?
      intro j
      rw [List.getElem?_take, Array.getElem?_toList]
      by_cases hj : j < d.length * 2
      · have hjc : j < cur.size := by omega
        rw [if_pos hj, flat_at e (by omega)]
        simp only [putCells, Array.getElem?_mapIdx, Array.getElem?_eq_getElem hjc, Option.map_some]
        rw [if_pos ⟨by omega, by simp; omega⟩]
        simp
      · rw [if_neg hj, List.getElem?_eq_none (by rw [lkC_len]; omega)]
theorem sorted_fr {w : World} {g q : Nat} {os : Array Obj} {e : Array Pr} : Fr (fun j => j = g) w (sortWorldK encP 2 w g 0 q e os) := by
  unfold sortWorldK putRowK
  refine ⟨rfl, rfl, rfl, by simp [grow, putRow, mapBlock, Sort.ahead], fun j hj hn => ?_⟩
  rw [heap_grow_old _ _ (by simpa [putRow, mapBlock, Sort.ahead] using hj)]
  simp [putRow, mapBlock, Sort.ahead, Array.getElem?_modify, Ne.symm hn]
theorem cmpLaysP (g size : Nat) (w : World) : CmpLays Try.prog 49 #[] encP 2 cmpP g 0 size w := by
  intro m os dk _ x y
  refine (linkcmp_any x y _).mono ?_
  rintro e w' ⟨he, n, os', hw⟩
  exact ⟨he, n, os', hw⟩
theorem isAgg64' : ∀ w, (isAgg 64).run Try.prog w = .ok true w := Try.isAgg64
theorem sizeOf64' : ∀ w, (Go.sizeOf 64).run Try.prog w = .ok 2 w := Try.sizeOf64
theorem sortP_any {w : World} {B g c : Nat} {d : List Pr} (h : OwnP w B (some ⟨g, 0, none⟩) c d) (hb : d.length < 4611686018427387904) :
    Calls Try.prog 66 #[.slice (some ⟨g, 0, none⟩) d.length c, .func (.func 49) #[] #[]] w fun e w' => e = .returned (.tuple #[]) ∧ ∃ d', d'.length = d.length ∧ d'.Perm d ∧ d'.Pairwise (fun x y => ltOf cmpP y x = false) ∧ OwnP w' B (some ⟨g, 0, none⟩) c d' ∧ Fr (fun j => j = g) w w' := by
  have eg : ∀ args w, (callFunc 49 args).run Try.prog w = .ok (.enter 49 args) w := enters_of Try.func49 (by kernel_rfl) rfl
  have hlt : g < w.heap.size := by
    rcases h.2 with ⟨e, _⟩ | ⟨g', c', cur, e, _, hg, _⟩
    · cases e
    · injection e with e1 _ _
      injection e1 with e1
      injection e1 with e1
      subst e1
      exact lt_of_block hg
  have hcon := Try.slices_SortFunc 2 isAgg64' sizeOf64' encP (fun _ => rfl) (fun x v hv => by simp [encP] at hv; rcases hv with rfl | rfl <;> rfl) cmpP swoP 49 #[] g 0 c d.toArray w eg (cmpLaysP g _ w) (holds_P h) hlt (by simpa using hb)
  have hcon2 : Calls Try.prog 66 #[.slice (some ⟨g, 0, none⟩) d.length c, .func (.func 49) #[] #[]] w _ := hcon
  refine hcon2.mono ?_
  rintro e w' ⟨he, d', n, os, hp, hs, rfl⟩
  obtain ⟨p1, _, p3⟩ := hp
  have hsz : d'.size = d.length := by simpa using p1
  have hperm : d'.toList.Perm d := by
    have e1 : d'.extract 0 d.toArray.size = d' := by rw [← p1]; simp
    have e2 : d.toArray.extract 0 d.toArray.size = d.toArray := by simp
    rw [e1, e2] at p3
    simpa using p3
  refine ⟨he, d'.toList, by simpa using hsz, hperm, ?_, ?_, sorted_fr⟩
  · rw [List.pairwise_iff_getElem]
    intro i j hi hj hij
    have hi' : i < d'.size := by simpa using hi
    have hj' : j < d'.size := by simpa using hj
    have := hs i j (Nat.zero_le _) hij (by simpa [hsz] using hj')
    rw [getElem!_pos d' j hj', getElem!_pos d' i hi'] at this
    simpa using this
  · have := own_sorted (q := n) (os := os) (e := d'.toList) h (by simpa using hsz)
    simpa using this

theorem keys_any (mb : Nat) (w : World) : Calls Try.prog 48 #[.map (some mb)] w fun e w' => e = .returned (.func (.func 67) #[] #[.pointer (some ⟨w.heap.size, 0, none⟩)]) ∧ w' = w.alloc (.cells #[.map (some mb)] 57) := by
  go_enter Try.func48, Try.ntmps48
  go_wp2_with fail
  go_ret
  exact ⟨rfl, rfl⟩
section
variable {w : World} {n : Nat} {P : Nat → Prop} {S : NS} {db mb : Nat} {tv : Value} {sv : Pr → Value} {D : DataW Unit} {k : Nat}
open Go.Maps in
theorem collect_any (h : NTx w n P S db mb tv sv D k) :
    Calls Try.prog 65 #[.func (.func 67) #[] #[.pointer (some ⟨w.heap.size, 0, none⟩)]] (w.alloc (.cells #[.map (some mb)] 57)) fun e w' => ∃ (a : Option Addr) (c : Nat) (ss : List Pr), e = .returned (.slice a ss.length c) ∧ (ss.Nodup ∧ ∀ p, p ∈ ss ↔ (In S.N p ∧ S.bg p ≠ [])) ∧ ss.length ≤ 4225 ∧
      OwnP w' (w.alloc (.cells #[.map (some mb)] 57)).heap.size a c ss ∧ Below (w.alloc (.cells #[.map (some mb)] 57)).heap.size (w.alloc (.cells #[.map (some mb)] 57)) w' := by
  have hbx : (w.alloc (.cells #[.map (some mb)] 57)).cell? ⟨w.heap.size, 0, none⟩ = some (.map (some mb)) := by rw [cell_of_row _ _ 0 _ _ _ (heap_top w _)]; rfl
  have hst := keysP_stops 2 (by decide) w.heap.size mb k S.N h.hN.2 D h.key (w.alloc (.cells #[.map (some mb)] 57)) (by simp) hbx (h.hm.alloc _)
  have hap := callsIn_wide.1 (appP_in 3 (by decide) w.heap.size _ (Maps.size D) (by have := h.size; omega) (w.alloc (.cells #[.map (some mb)] 57)) hst)
  have HA := Lib.hid hap
  have HS := Lib.hid h.size
  have HH := Lib.hid h.has
  have HM : Hid (∀ ss : List Pr, ss.Nodup → (∀ p, p ∈ ss ↔ (In S.N p ∧ Maps.has D (kP p) = true)) → ss.length ≤ 4225) := Lib.hid (fun ss h1 h2 => by
    have hN := h.hN.2
    have := nodup_le (fun p : Pr => (p.a.toNat, p.b.toNat)) ss (prs S.N) h1 (fun x hx y hy e => by
      obtain ⟨a1, a2, a3, a4, _⟩ := ((h2 x).1 hx).1
      obtain ⟨b1, b2, b3, b4, _⟩ := ((h2 y).1 hy).1
      simp only [Prod.mk.injEq] at e
      cases x; cases y
      simp only [Pr.mk.injEq] at *
      omega) (fun x hx => by
      obtain ⟨a1, a2, a3, a4, _⟩ := ((h2 x).1 hx).1
      exact mem_prs (by omega) (by omega))
    rw [prs_len] at this
    have h5 : S.N * S.N ≤ 65 * 65 := Nat.mul_le_mul hN hN
    omega)
  clear h hbx hst hap
  go_enter Try.func65, Try.ntmps65
  go_wp2_with fail
  refine HA.out.mono ?_
  rintro e w1 ⟨v, ss, rfl, hs, hr, hb⟩
  obtain ⟨a, c, rfl⟩ := own_slice hr
  have HR := Lib.hid hr
  have HB := Lib.hid hb
  have H1 := Lib.hid hs
  clear hr hb hs
  go_wp2_with fail
  go_ret
  exact ⟨a, c, ss, rfl, ⟨H1.out.1, fun p => by
    rw [H1.out.2 p]
    constructor
    · rintro ⟨h1, h2⟩
      rw [HH.out p h1] at h2
      exact ⟨h1, by simpa using h2⟩
    · rintro ⟨h1, h2⟩
      exact ⟨h1, by rw [HH.out p h1]; simpa using h2⟩⟩, HM.out ss H1.out.1 H1.out.2, HR.out, HB.out⟩
/-- The links of the bags that hold letters, in their order. -/
def LinksOf (S : NS) (l : List Pr) : Prop := l.Nodup ∧ (∀ p, p ∈ l ↔ (In S.N p ∧ S.bg p ≠ [])) ∧ l.Pairwise (fun x y => ltOf cmpP y x = false)
set_option maxRecDepth 100000 in
theorem Links_any (h : NTx w n P S db mb tv sv D k) :
    Calls Try.prog 22 #[.pointer (some ⟨n, 0, none⟩)] w fun e w' => ∃ (a : Option Addr) (c : Nat) (l : List Pr), e = .returned (.slice a l.length c) ∧ LinksOf S l ∧ OwnP w' w.heap.size a c l ∧ Below w.heap.size w w' := by
  obtain ⟨c0, c1, c2, c3⟩ := (cells4 h.hn).1
  have HK := Lib.hid (keys_any mb w)
  have HC := Lib.hid (collect_any h)
  have hb1 : Below w.heap.size w (w.alloc (.cells #[.map (some mb)] 57)) := (Below.refl _ _).alloc (Nat.le_refl _) _
  have HB1 := Lib.hid hb1
  have HSF : Hid (Calls Try.prog 47 #[.func (.func 67) #[] #[.pointer (some ⟨w.heap.size, 0, none⟩)], .func (.func 49) #[] #[]] (w.alloc (.cells #[.map (some mb)] 57)) fun e w' => ∃ (a : Option Addr) (c : Nat) (l : List Pr), e = .returned (.slice a l.length c) ∧ LinksOf S l ∧ OwnP w' w.heap.size a c l ∧ Below w.heap.size w w') := by
    show Calls _ _ _ _ _
    clear h c0 c1 c2 c3 HK hb1
    go_enter Try.func47, Try.ntmps47
    go_wp2_with fail
    refine HC.out.mono ?_
    rintro e w1 ⟨a, c, ss, rfl, hss, hlen, hr, hb⟩
    have HR := Lib.hid hr
    have HB := Lib.hid (bthen HB1.out hb HB1.out.size)
    have HSS := Lib.hid hss
    rcases hr.2 with ⟨e0, h0⟩ | ⟨g, c', cur, e0, hbg, hg, _⟩
    · injection e0 with e1 e2 e3
      subst e1 e3
      have hnil : ss = [] := List.eq_nil_of_length_eq_zero h0
      subst hnil
      clear hr hb hss hlen e2 h0
      go_wp2_with fail
      refine (Try.slices_SortFunc_none (α := Pr) none 0 (.func (.func 49) #[] #[]) w1).mono ?_
      rintro e w2 ⟨rfl, rfl⟩
      go_wp2_with fail
      go_ret
      exact ⟨none, 0, [], rfl, ⟨HSS.out.1, HSS.out.2, List.Pairwise.nil⟩, World.ownsRow_nil _ _ _ _, HB.out⟩
    · injection e0 with e1 e2 e3
      subst e1
      have HSO := Lib.hid (sortP_any hr (by omega))
      have hgB : w.heap.size ≤ g := by have := HB1.out.size; omega
      have HGB := Lib.hid hgB
      have HL : ∃ L, Hid (ss.length = L) := ⟨_, Lib.hid rfl⟩
      obtain ⟨L, HL⟩ := HL
      rw [HL.out] at HSO
      have hLL := HL.out
      clear hr hb hss e2 e3 hg hbg hgB hlen
      rw [hLL]
      clear hLL
      go_wp2_with fail
      refine HSO.out.mono ?_
      rintro e w2 ⟨rfl, d', hd1, hd2, hd3, hd4, hd5⟩
      have HD1 := Lib.hid hd1
      have HD2 := Lib.hid hd2
      have HD3 := Lib.hid hd3
      have HD4 := Lib.hid hd4
      have HD5 := Lib.hid hd5
      clear hd1 hd2 hd3 hd4 hd5
      go_wp2_with fail
      go_ret
      refine ⟨some ⟨g, 0, none⟩, c, d', by first | rfl | (rw [HD1.out]; rfl) | (rw [HD1.out, HL.out]; rfl), ⟨(HD2.out.nodup_iff).2 HSS.out.1, fun p => (HD2.out.mem_iff).trans (HSS.out.2 p), HD3.out⟩, own_le HD4.out HB1.out.size, ?_⟩
      exact HB.out.trans (HD5.out.below HB.out.size (fun x e => by rw [e]; exact HGB.out))
  clear h HC hb1 c0 c2 c3
  go_enter Try.func22, Try.ntmps22
  go_wp2_with fail
  refine HK.out.mono ?_
  rintro e w1 ⟨rfl, rfl⟩
  go_wp2_with fail
  refine HSF.out.mono ?_
  rintro e w2 ⟨a, c, l, rfl, h1, h2, h3⟩
  have H1 := Lib.hid h1
  have H2 := Lib.hid h2
  have H3 := Lib.hid h3
  clear h1 h2 h3
  go_wp2_with fail
  go_ret
  exact ⟨a, c, l, rfl, H1.out, H2.out, H3.out⟩
end
end Go.Proofs.Ytfhlfklgngpklaa
