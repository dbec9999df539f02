/-
  Contracts of slices.Clone and split.CutUp. The contract of joining.join. A map from links to places. The contract of split.linksOf.
-/
import Derived.Test.YtchfccbneedejaaZAK
import Derived.Test.YtchfccbneedejaaZAC
import Derived.Test.YtchfccbneedejaaZAJ
import Derived.DeepKeys4
import Derived.Deep.DeepMust
namespace Go.Proofs.Ytchfccbneedejaa
open Go.RowKit
theorem below_drew {B : Nat} {a b : World} (h : Below B a b) : Below B a b.drew := ⟨h.os, h.tape, h.output, h.size, h.block⟩
theorem mrg_nil (a b : Nat) : mrg [] a b = [] := rfl
theorem mrg_app (L M : List Nat) (a b : Nat) : mrg (L ++ M) a b = mrg L a b ++ mrg M a b := by simp [mrg]
theorem take_snocJ {L : List Nat} {k : Nat} (h : k < L.length) : L.take (k + 1) = L.take k ++ [L.getD k 0] := by
  rw [List.take_succ_eq_append_getElem h]
  simp [List.getD, h]
/-- Labels of which the first so many are put together. -/
def part (L : List Nat) (a b k : Nat) : List Nat := mrg (L.take k) a b ++ L.drop k
theorem part_len (L : List Nat) (a b k : Nat) : (part L a b k).length = L.length := by
  unfold part
  rw [List.length_append, mrg_len, List.length_take, List.length_drop]
  omega
theorem part_get {L : List Nat} (a b : Nat) {k : Nat} (h : k < L.length) : (part L a b k).getD k 0 = L.getD k 0 := by
  unfold part
  have hl : (mrg (L.take k) a b).length = k := by rw [mrg_len, List.length_take]; omega
  simp only [List.getD]
  rw [List.getElem?_append_right (by omega), hl, List.getElem?_drop]
  congr 2
  omega
theorem part_next {L : List Nat} (a b : Nat) {k : Nat} (h : k < L.length) : part L a b (k + 1) = (part L a b k).set k (if L.getD k 0 = b then a else L.getD k 0) := by
  have hl : (mrg (L.take k) a b).length = k := by rw [mrg_len, List.length_take]; omega
  unfold part
  rw [take_snocJ h, mrg_app, List.set_append_right _ _ (by omega), hl, Nat.sub_self, List.append_assoc]
  have e : L.drop k = L[k] :: L.drop (k + 1) := List.drop_eq_getElem_cons h
  rw [e, List.set_cons_zero]
  rfl
theorem part_same {L : List Nat} (a b : Nat) {k : Nat} (h : k < L.length) (hn : L.getD k 0 ≠ b) : part L a b (k + 1) = part L a b k := by
  have hl : (mrg (L.take k) a b).length = k := by rw [mrg_len, List.length_take]; omega
  unfold part
  rw [take_snocJ h, mrg_app, List.append_assoc]
  have e : L.drop k = L.getD k 0 :: L.drop (k + 1) := by rw [List.drop_eq_getElem_cons h, getD_in h]
  rw [e]
  show mrg (L.take k) a b ++ ((if L.getD k 0 = b then a else L.getD k 0) :: L.drop (k + 1)) = _
  rw [if_neg hn]
theorem part_end (L : List Nat) (a b : Nat) : part L a b L.length = mrg L a b := by
  unfold part
  rw [List.take_length, List.drop_length, List.append_nil]
/-- Other labels in the same row. -/
theorem JS.setL {w : World} {jb B bd : Nat} {L S : List Nat} {O : List K} {lg sg lc sc : Nat} {ov : Value} (h : JS w jb B bd L S O lg sg lc sc ov) (k x : Nat) : JS (w.setCell ⟨lg, k, none⟩ (.int .i64 (x : Int))) jb B bd (L.set k x) S O lg sg lc sc ov := by
  have hs : Fr (fun k => k = lg) w (w.setCell ⟨lg, k, none⟩ (.int .i64 (x : Int))) := (Fr.refl _ w).setCell ⟨lg, k, none⟩ _ rfl
  refine ⟨?_, own_setI h.lo k x, own_frQ h.so hs (fun j hj e => ?_), own_frQ h.oo hs (fun j hj e => h.nlo (e ▸ hj)), h.ne, h.jl⟩
  · rw [List.length_set]
    exact (hs.block jb (lt_of_block h.hd) h.njl).trans h.hd
  · injection hj with hj
    have hj : sg = j := hj
    exact h.ne (by omega)
theorem JS.setS {w : World} {jb B bd : Nat} {L S : List Nat} {O : List K} {lg sg lc sc : Nat} {ov : Value} (h : JS w jb B bd L S O lg sg lc sc ov) (k x : Nat) : JS (w.setCell ⟨sg, k, none⟩ (.int .i64 (x : Int))) jb B bd L (S.set k x) O lg sg lc sc ov := by
  have hs : Fr (fun k => k = sg) w (w.setCell ⟨sg, k, none⟩ (.int .i64 (x : Int))) := (Fr.refl _ w).setCell ⟨sg, k, none⟩ _ rfl
  refine ⟨?_, own_frQ h.lo hs (fun j hj e => ?_), own_setI h.so k x, own_frQ h.oo hs (fun j hj e => h.nso (e ▸ hj)), h.ne, h.jl⟩
  · rw [List.length_set]
    exact (hs.block jb (lt_of_block h.hd) h.njs).trans h.hd
  · injection hj with hj
    have hj : lg = j := hj
    exact h.ne (by omega)
theorem JS.drew {w : World} {jb B bd : Nat} {L S : List Nat} {O : List K} {lg sg lc sc : Nat} {ov : Value} (h : JS w jb B bd L S O lg sg lc sc ov) : JS w.drew jb B bd L S O lg sg lc sc ov := h.on ⟨rfl, rfl, rfl, Nat.le_refl _, fun _ _ => rfl⟩
set_option maxRecDepth 100000 in
set_option maxHeartbeats 1600000 in
theorem join_any (jb B bd : Nat) (L S : List Nat) (O : List K) (lg sg lc sc og oc : Nat) (l : K) (w : World) (hj : JS w jb B bd L S O lg sg lc sc (.slice (some ⟨og, 0, none⟩) O.length oc)) (hin : ∀ m, m ∈ O → m.a < S.length ∧ m.b < S.length ∧ m.n ≤ 100000) (hO : O.length ≤ 500000) (hS : S.length ≤ 1024) (hL : L.length ≤ 1024) (hbd : bd ≤ 1024) (hB : B ≤ w.heap.size)
    (ha : l.a < S.length) (hb : l.b < S.length) (hs : ∀ j, (S.set l.a (S.getD l.a 0 + S.getD l.b 0)).getD j 0 ≤ 1024) (hs0 : S.getD l.a 0 + S.getD l.b 0 ≤ 1024) :
    Calls Try.prog 39 #[.pointer (some ⟨jb, 0, none⟩), l.val] w fun e w' => e = .returned (.tuple #[]) ∧ ∃ ov', JS w' jb B bd (mrg L l.a l.b) (S.set l.a (S.getD l.a 0 + S.getD l.b 0)) (oth l O ++ nwK l bd (S.set l.a (S.getD l.a 0 + S.getD l.b 0)) O S.length) lg sg lc sc ov' ∧ Below B w w' := by
  have HJ0 := Lib.hid (hj.on (show Below w.heap.size w (w.alloc (Obj.cells #[Value.int IntKind.i64 l.a, Value.int IntKind.i64 l.b, Value.int IntKind.i64 l.n] 60)) from (Below.refl _ _).alloc (Nat.le_refl _) _))
  have HB0 : Hid (Below B w (w.alloc (Obj.cells #[Value.int IntKind.i64 l.a, Value.int IntKind.i64 l.b, Value.int IntKind.i64 l.n] 60))) := (Below.refl _ _).alloc hB _
  have hg2 := heap_top w (Obj.cells #[Value.int IntKind.i64 l.a, Value.int IntKind.i64 l.b, Value.int IntKind.i64 l.n] 60)
  have HXV : Hid (l.val = .agg #[.int .i64 (l.a : Int), .int .i64 (l.b : Int), .int .i64 (l.n : Int)]) := rfl
  rw [HXV.out]
  obtain ⟨j0, j1, j2, j3⟩ := four_cellsJ HJ0.out.hd
  have HG2 := Lib.hid hg2
  have hjw : jb < w.heap.size := lt_of_block hj.hd
  have hBj : B ≤ jb := hj.jl
  have hogp : og < w.heap.size := (hj.oo.lt og rfl).2
  have hBo : B ≤ og := (hj.oo.lt og rfl).1
  have hlgp : lg < w.heap.size := (hj.lo.lt lg rfl).2
  have hBl : B ≤ lg := (hj.lo.lt lg rfl).1
  have hsgp : sg < w.heap.size := (hj.so.lt sg rfl).2
  have hBs : B ≤ sg := (hj.so.lt sg rfl).1
  have HIN := Lib.hid hin
  have HSS := Lib.hid hs
  obtain ⟨S', HS'⟩ := named (S.set l.a (S.getD l.a 0 + S.getD l.b 0))
  rw [HS'.out] at HSS ⊢
  have HSL : Hid (S'.length = S.length) := by show _ = _; rw [← HS'.out, List.length_set]
  have ha' : (l.a : Int) < S.length := by omega
  have hb' : (l.b : Int) < S.length := by omega
  clear hg2 hj hin hs
  have hpw : w.heap.size < (w.alloc (Obj.cells #[Value.int IntKind.i64 l.a, Value.int IntKind.i64 l.b, Value.int IntKind.i64 l.n] 60)).heap.size := by simp
  generalize hp : w.heap.size = p at *
  go_enter Try.func39, Try.ntmps39
  go_wp2_with fail
  generalize hW : w.alloc (Obj.cells #[Value.int IntKind.i64 l.a, Value.int IntKind.i64 l.b, Value.int IntKind.i64 l.n] 60) = W at *
  clear hW j0 j1 j2 j3
  go_loopw [13] (fun i wr => ∃ k : Nat, k ≤ L.length ∧ i = .int .i64 k ∧ Hid (JS wr jb B bd (part L l.a l.b k) S O lg sg lc sc (.slice (some ⟨og, 0, none⟩) O.length oc)) ∧ Hid (wr.heap[p]? = some (.cells #[.int .i64 (l.a : Int), .int .i64 (l.b : Int), .int .i64 (l.n : Int)] 60)) ∧ Hid (Below B w wr)) (fun i _ => L.length - (intOf i).toNat)
  case atStart => exact ⟨0, Nat.zero_le _, rfl, (show part L l.a l.b 0 = L from rfl) ▸ HJ0, HG2, HB0⟩
  case round =>
    obtain ⟨k, hk, rfl, HJ, HG, HBW⟩ := hrel
    clear HJ0 HB0 HG2
    obtain ⟨x0, x1, x2⟩ := three_cells HG.out
    obtain ⟨j0, j1, j2, j3⟩ := four_cellsJ HJ.out.hd
    rw [part_len] at j1
    by_cases hlk : k < L.length
    · have hlk' : (k : Int) < L.length := by omega
      have y0 := own_cellI HJ.out.lo (k := k) (by rw [part_len]; exact hlk)
      have y1 := World.ownsRow.frozenAt HJ.out.lo k
      rw [part_get l.a l.b hlk] at y0
      by_cases hv : L.getD k 0 = l.b
      · have HPN := Lib.hid (part_next (L := L) l.a l.b hlk)
        rw [if_pos hv] at HPN
        rw [hv] at y0
        have HJN := Lib.hid (HJ.out.setL k l.a)
        rw [← HPN.out] at HJN
        clear hv
        go_wp2_with fail
        go_region
        go_wp2_with fail
        exact ⟨⟨k + 1, by omega, by simp, HJN.out.drew, (Below.heap_setCell wr ⟨lg, k, none⟩ _ p (by show p ≠ lg; omega)).trans HG.out, below_drew (HBW.out.setCell hBl _)⟩, by simp [intOf]; omega⟩
      · have hv' : (((L.getD k 0 : Nat) : Int) == (l.b : Int)) = false := by simp only [beq_eq_false_iff_ne]; omega
        have HPN := Lib.hid (part_same (L := L) l.a l.b hlk hv)
        generalize L.getD k 0 = lv at *
        clear hv
        go_wp2_with fail
        refine ⟨⟨k + 1, by omega, by simp, ?_, HG, HBW⟩, by simp [intOf]; omega⟩
        rw [HPN.out]
        exact HJ
    · obtain rfl : k = L.length := by omega
      have hlk' : ¬ (L.length : Int) < L.length := by omega
      rw [part_end] at HJ
      have y0 := own_cellI HJ.out.so ha
      have y1 := own_cellI HJ.out.so hb
      have y2 := World.ownsRow.frozenAt HJ.out.so l.a
      have HJN := Lib.hid (HJ.out.setS l.a (S.getD l.a 0 + S.getD l.b 0))
      rw [HS'.out] at HJN
      generalize S.getD l.a 0 = s at *
      generalize S.getD l.b 0 = t at *
      have hw : IntKind.i64.wrap ((s : Int) + (t : Int)) = (s : Int) + (t : Int) := by rw [IntKind.wrap_i64]; omega
      have HJ2 : Hid (JS (wr.setCell ⟨sg, l.a, none⟩ (.int .i64 ((s : Int) + (t : Int)))).drew jb B bd (mrg L l.a l.b) S' O lg sg lc sc (.slice (some ⟨og, 0, none⟩) O.length oc)) := by
        have h := HJN.out.drew
        rw [show (((s + t : Nat)) : Int) = (s : Int) + (t : Int) by omega] at h
        exact h
      have HG3 : Hid ((wr.setCell ⟨sg, l.a, none⟩ (.int .i64 ((s : Int) + (t : Int)))).drew.heap[p]? = some (.cells #[.int .i64 (l.a : Int), .int .i64 (l.b : Int), .int .i64 (l.n : Int)] 60)) := (Below.heap_setCell wr ⟨sg, l.a, none⟩ _ p (by show p ≠ sg; omega)).trans HG.out
      have HB3 : Hid (Below B w (wr.setCell ⟨sg, l.a, none⟩ (.int .i64 ((s : Int) + (t : Int)))).drew) := below_drew (HBW.out.setCell hBs _)
      go_wp2_with fail
      go_region
      generalize hX : (wr.setCell ⟨sg, l.a, none⟩ (.int .i64 ((s : Int) + (t : Int)))).drew = X at *
      clear hX HJ HJN HG HBW x0 x1 x2 j0 j1 j2 j3 y0 y1 y2 hw
      obtain ⟨x0, x1, x2⟩ := three_cells HG3.out
      have hpX : p < X.heap.size := lt_of_block HG3.out
      have HTO := Lib.hid (takeOut_any jb B bd (mrg L l.a l.b) S' O lg sg lc sc og oc l X HJ2.out (fun m hm => by rw [HSL.out]; exact HIN.out m hm) (by omega) (by rw [HSL.out]; exact hS))
      rw [HXV.out, HSL.out] at HTO
      go_wp2_with fail
      refine HTO.out.mono ?_
      rintro e w2 ⟨g, rfl, hg, ht, hj2, hf2⟩
      have HT2 := Lib.hid ht
      have HJ3 := Lib.hid hj2
      have HG4 := Lib.hid ((hf2.block p hpX (by omega)).trans HG3.out)
      have HB4 : Hid (Below B w w2) := HB3.out.trans (hf2.below (by omega) (fun k hk => by omega))
      have hgp : p < g := by omega
      clear ht hj2 hf2 hg HTO HJ2 HG3 HB3 x0 x1 x2
      go_wp2_with fail
      go_loopw [53] (fun i wr => ∃ (o : Nat) (ov : Value), o ≤ S.length ∧ i = .int .i64 o ∧ Hid (JS wr jb B bd (mrg L l.a l.b) S' (oth l O ++ nwK l bd S' O o) lg sg lc sc ov) ∧ Hid (ov.ownBlock ≠ some p) ∧ Hid (TbV wr g S.length 3 (fun o => .int .i64 ((bs l O o : Nat) : Int))) ∧ Hid (wr.heap[p]? = some (.cells #[.int .i64 (l.a : Int), .int .i64 (l.b : Int), .int .i64 (l.n : Int)] 60)) ∧ Hid (Below B w wr)) (fun i _ => S.length - (intOf i).toNat)
      case atStart =>
        refine ⟨0, .slice (some ⟨og, 0, none⟩) (oth l O).length oc, Nat.zero_le _, rfl, ?_, ?_, HT2, HG4, HB4⟩
        · have e : oth l O ++ nwK l bd S' O 0 = oth l O := List.append_nil _
          rw [e]; exact HJ3
        · intro e
          injection e with e
          have e : og = p := e
          omega
      case round =>
        obtain ⟨o, ov, ho, rfl, HJ, HNP, HT, HG, HBW⟩ := hrel
        clear HJ3 HT2 HG4 HB4
        by_cases hlo : o < S.length
        · have hlo' : (o : Int) < S.length := by omega
          have d1 := HT.out.cell hlo
          obtain ⟨x0, x1, x2⟩ := three_cells HG.out
          have HNN : Hid (nwK l bd S' O (o + 1) = nwK l bd S' O o ++ if 0 < bs l O o ∧ S'.getD (min l.a o) 0 + S'.getD (max l.a o) 0 ≤ bd then [⟨min l.a o, max l.a o, bs l O o⟩] else []) := rfl
          by_cases hb0 : 0 < bs l O o
          · have hOL : (oth l O ++ nwK l bd S' O o).length ≤ 1000000 := by
              have h1 := oth_le l O
              have h2 := nwK_len l bd S' O o
              rw [List.length_append]
              omega
            have HOF := Lib.hid (offer_any jb B bd (mrg L l.a l.b) S' (oth l O ++ nwK l bd S' O o) lg sg lc sc ov ⟨min l.a o, max l.a o, bs l O o⟩ wr HJ.out (by rw [HSL.out]; show min l.a o < _; omega) (by rw [HSL.out]; show max l.a o < _; omega) (by have h1 := HSS.out (min l.a o); have h2 := HSS.out (max l.a o); show S'.getD (min l.a o) 0 + S'.getD (max l.a o) 0 ≤ _; omega) hbd hOL (by have := HBW.out.size; omega))
            have HVV : Hid ((⟨min l.a o, max l.a o, bs l O o⟩ : K).val = .agg #[.int .i64 ((min l.a o : Nat) : Int), .int .i64 ((max l.a o : Nat) : Int), .int .i64 ((bs l O o : Nat) : Int)]) := rfl
            rw [HVV.out] at HOF
            have HNE : Hid (∀ W' ov', JS W' jb B bd (mrg L l.a l.b) S' ((oth l O ++ nwK l bd S' O o) ++ if S'.getD (min l.a o) 0 + S'.getD (max l.a o) 0 ≤ bd then [⟨min l.a o, max l.a o, bs l O o⟩] else []) lg sg lc sc ov' → JS W' jb B bd (mrg L l.a l.b) S' (oth l O ++ nwK l bd S' O (o + 1)) lg sg lc sc ov') := fun W' ov' h => by
              rw [HNN.out, ← List.append_assoc]
              by_cases hc : S'.getD (min l.a o) 0 + S'.getD (max l.a o) 0 ≤ bd
              · rw [if_pos ⟨hb0, hc⟩]; rw [if_pos hc] at h; exact h
              · rw [if_neg (fun h => hc h.2)]; rw [if_neg hc] at h; exact h
            have hwp : p < wr.heap.size := lt_of_block HG.out
            have HGN : Hid (jb ≠ g ∧ ov.ownBlock ≠ some g) := by
              refine ⟨by omega, fun e => ?_⟩
              obtain ⟨cur, hc⟩ := own_block HJ.out.oo e
              have := HT.out.symm.trans hc
              injection this with this
              injection this with _ this
              cases this
            have HOB : Hid (∀ k, ov.ownBlock = some k → B ≤ k) := fun k hk => (HJ.out.oo.lt k hk).1
            have hoa : o ≠ l.a := fun e => by rw [bs_own (.inl e)] at hb0; omega
            rcases Nat.lt_or_ge o l.a with hoa | hoa
            · have h1 : (o : Int) < l.a := by omega
              have h2 : ¬ (l.a : Int) < o := by omega
              have hmn : min (l.a : Int) (o : Int) = (o : Int) := by omega
              have hmx : max (l.a : Int) (o : Int) = (l.a : Int) := by omega
              have HMI : Hid (min l.a o = o) := Nat.min_eq_right (by omega)
              have HMX : Hid (max l.a o = l.a) := Nat.max_eq_left (by omega)
              rw [HMI.out, HMX.out] at HOF HNE
              clear HNN HVV
              generalize bs l O o = bo at *
              have hb0' : (0 : Int) < bo := by omega
              go_wp2_with fail
              refine HOF.out.mono ?_
              rintro e w5 ⟨rfl, ov5, hj5, hf5, hob5⟩
              have HJ5 := Lib.hid (HNE.out _ _ hj5)
              have HT5 := Lib.hid (HT.out.same (hf5.block g HT.out.lt (by rintro (e | e); exact HGN.out.1 e.symm; exact HGN.out.2 e)))
              have HG5 := Lib.hid ((hf5.block p hwp (by rintro (e | e); omega; exact HNP.out e)).trans HG.out)
              have HB5 : Hid (Below B w w5) := HBW.out.trans (hf5.below (by omega) (fun k hk => by rcases hk with e | e; omega; exact HOB.out k e))
              have HN5 : Hid (ov5.ownBlock ≠ some p) := by
                rcases hob5 with e | ⟨k, e, hk⟩
                · rw [e]; exact HNP.out
                · rw [e]; intro e2; injection e2 with e2; omega
              clear hj5 hf5 hob5 HOF HNE d1 x0 x1 x2
              go_wp2_with fail
              exact ⟨⟨o + 1, ov5, by omega, by simp, HJ5, HN5, HT5, HG5, HB5⟩, by simp [intOf]; omega⟩
            · have h1 : ¬ (o : Int) < l.a := by omega
              have h2 : (l.a : Int) < o := by omega
              have hmn : min (l.a : Int) (o : Int) = (l.a : Int) := by omega
              have hmx : max (l.a : Int) (o : Int) = (o : Int) := by omega
              have HMI : Hid (min l.a o = l.a) := Nat.min_eq_left (by omega)
              have HMX : Hid (max l.a o = o) := Nat.max_eq_right (by omega)
              rw [HMI.out, HMX.out] at HOF HNE
              clear HNN HVV
              generalize bs l O o = bo at *
              have hb0' : (0 : Int) < bo := by omega
              go_wp2_with fail
              refine HOF.out.mono ?_
              rintro e w5 ⟨rfl, ov5, hj5, hf5, hob5⟩
              have HJ5 := Lib.hid (HNE.out _ _ hj5)
              have HT5 := Lib.hid (HT.out.same (hf5.block g HT.out.lt (by rintro (e | e); exact HGN.out.1 e.symm; exact HGN.out.2 e)))
              have HG5 := Lib.hid ((hf5.block p hwp (by rintro (e | e); omega; exact HNP.out e)).trans HG.out)
              have HB5 : Hid (Below B w w5) := HBW.out.trans (hf5.below (by omega) (fun k hk => by rcases hk with e | e; omega; exact HOB.out k e))
              have HN5 : Hid (ov5.ownBlock ≠ some p) := by
                rcases hob5 with e | ⟨k, e, hk⟩
                · rw [e]; exact HNP.out
                · rw [e]; intro e2; injection e2 with e2; omega
              clear hj5 hf5 hob5 HOF HNE d1 x0 x1 x2
              go_wp2_with fail
              exact ⟨⟨o + 1, ov5, by omega, by simp, HJ5, HN5, HT5, HG5, HB5⟩, by simp [intOf]; omega⟩
          · have hb0' : ¬ (0 : Int) < ((bs l O o : Nat) : Int) := by omega
            have HNE : Hid (nwK l bd S' O (o + 1) = nwK l bd S' O o) := by show _ = _; rw [HNN.out, if_neg (fun h => hb0 h.1), List.append_nil]
            generalize bs l O o = bo at *
            clear HNN
            go_wp2_with fail
            refine ⟨⟨o + 1, ov, by omega, by simp, ?_, HNP, HT, HG, HBW⟩, by simp [intOf]; omega⟩
            rw [HNE.out]; exact HJ
        · obtain rfl : o = S.length := by omega
          have hlo' : ¬ (S.length : Int) < S.length := by omega
          go_wp2_with fail
          go_end0
          exact ⟨rfl, ⟨ov, HJ.out⟩, HBW.out⟩
end Go.Proofs.Ytchfccbneedejaa
namespace Go.Proofs.Ytchfccbneedejaa
open Go.RowKit Go.Maps
theorem laidT : laidOutB Try.prog = true := by kernel_rfl
theorem row60 : (60 : TypeId) < Try.prog.types.size := of_decide_eq_true (by kernel_rfl)
theorem wide60 : (match Try.prog.underlying 60 with | some (.array _ _) | some (.struct _) => true | _ => false) = true := by rw [Try.underlying60]
set_option maxRecDepth 100000 in
theorem lawK : Keyed Try.prog 60 := Keyed.of_law (deep_law_laid laidT (m := 2) (by omega) row60 (by kernel_rfl) wide60)
/-- What a link with no pairs reads as. -/
def kK (x y : Nat) : Lit := .string (keyBytes [.int .i64 (x : Int), .int .i64 (y : Int), .int .i64 0])
theorem keyType60 : Try.prog.keyType 60 = true := by kernel_rfl
theorem cells60 : Try.prog.cellsOf 60 = 3 := by kernel_rfl
theorem cells3 : Try.prog.cellsOf 3 = 1 := by kernel_rfl
theorem size_types : ∃ k, Try.prog.types.size + 1 = k + 2 := by
  have h : (60 : Nat) < Try.prog.types.size := row60
  exact ⟨Try.prog.types.size - 1, by omega⟩
theorem formedK (x y z : Value) : (Value.agg #[x, y, z]).formed Try.prog 60 = true := by simp [Value.formed, Try.underlying60, cells60]
theorem keyOfK (x y : Nat) (ha : x ≤ 1024) (hb : y ≤ 1024) : keyOf Try.prog 60 (.agg #[.int .i64 (x : Int), .int .i64 (y : Int), .int .i64 0]) = some (kK x y) := by
  obtain ⟨k, hk⟩ := size_types
  have w1 := wfN (x := x) (by omega)
  have w2 := wfN (x := y) (by omega)
  have w3 : (Lit.int .i64 (0 : Int)).wf = true := wfN (x := 0) (by omega)
  unfold keyOf
  rw [Try.underlying60, hk]
  simp only [keyType60, formedK, Bool.and_self, if_true]
  simp [Program.keyLits, Try.underlying60, Try.underlying3, cells60, cells3, Value.cells, w1, w2, w3, kK]
theorem kK_inj {x y x' y' : Nat} (h1 : x ≤ 1024) (h2 : y ≤ 1024) (h3 : x' ≤ 1024) (h4 : y' ≤ 1024) (h : kK x y = kK x' y') : x = x' ∧ y = y' := by
  have e := lawK.inj (keyOfK x y h1 h2) (h ▸ keyOfK x' y' h3 h4)
  simp only [Value.agg.injEq, Array.mk.injEq, List.cons.injEq, Value.int.injEq, and_true, true_and] at e
  omega
theorem kK_lit {x y : Nat} (h1 : x ≤ 1024) (h2 : y ≤ 1024) : WideAt.IsKeyLit (kK x y) := lawK.key (keyOfK x y h1 h2)
/-- Labels of links are small. -/
def SmK (l : List K) : Prop := ∀ x, x ∈ l → x.a ≤ 1024 ∧ x.b ≤ 1024
/-- Block z is a map with the places of links. -/
def MapK (w : World) (z nn : Nat) (l : List K) : Prop := ∃ D : DataW Unit, w.ownsMap Try.prog 60 (plainElem (H := Unit) Try.prog 3) z nn D ∧ (∀ i, i < l.length → Maps.has D (kK (l.getD i K.zero).a (l.getD i K.zero).b) = true ∧ D.atKey (kK (l.getD i K.zero).a (l.getD i K.zero).b) (.lit (.int .i64 0)) = .lit (.int .i64 (i : Int))) ∧ ∀ x y, x ≤ 1024 → y ≤ 1024 → (∀ i, i < l.length → ¬ ((l.getD i K.zero).a = x ∧ (l.getD i K.zero).b = y)) → Maps.has D (kK x y) = false
theorem MapK.made (w : World) : MapK (w.alloc (.map #[] 0)) w.heap.size 0 [] := ⟨_, World.ownsMap_made _ _ _ _, fun i hi => absurd hi (by simp), fun x y _ _ _ => by simp [Maps.has]⟩
theorem MapK.kept {w w' : World} {z nn : Nat} {l : List K} {row : Option Nat} (h : MapK w z nn l) (hg : w.grownBy w' row) (hne : some z ≠ row) : MapK w' z nn l := by
  obtain ⟨D, h1, h2⟩ := h
  exact ⟨D, h1.kept hg hne, h2⟩
theorem MapK.on {w w' : World} {z nn : Nat} {l : List K} (h : MapK w z nn l) (hb : Below w.heap.size w w') : MapK w' z nn l := h.kept (row := none) ⟨hb.os, hb.tape, hb.output, hb.size, fun k hk _ => hb.block k hk⟩ (by simp)
theorem MapK.lt {w : World} {z nn : Nat} {l : List K} (h : MapK w z nn l) : z < w.heap.size := by
  obtain ⟨D, h1, _⟩ := h
  exact h1.lt
theorem MapK.like {w : World} {z nn : Nat} {l l' : List K} (h : MapK w z nn l) (hl : l'.length = l.length) (he : ∀ i, i < l.length → (l'.getD i K.zero).a = (l.getD i K.zero).a ∧ (l'.getD i K.zero).b = (l.getD i K.zero).b) : MapK w z nn l' := by
  obtain ⟨D, h1, h2, h3⟩ := h
  refine ⟨D, h1, fun i hi => ?_, fun x y hx hy hn => h3 x y hx hy (fun i hi => ?_)⟩
  · rw [hl] at hi
    rw [(he i hi).1, (he i hi).2]
    exact h2 i hi
  · have := hn i (by omega)
    rw [(he i hi).1, (he i hi).2] at this
    exact this
theorem cellsK_n (y : K) : ∀ (R : List K) (k : Nat), k < R.length → (R.getD k K.zero).a = y.a → (R.getD k K.zero).b = y.b → cellsK (R.set k y) = (cellsK R).set (k * 3 + 2) (.int .i64 (y.n : Int))
  | [], k, h, _, _ => by simp at h
  | x :: r, 0, _, h1, h2 => by
    have h1 : x.a = y.a := h1
    have h2 : x.b = y.b := h2
    simp [cellsK, h1, h2]
  | x :: r, k + 1, h, h1, h2 => by
    have ih := cellsK_n y r k (by simpa using h) (by simpa using h1) (by simpa using h2)
    rw [show (k + 1) * 3 + 2 = k * 3 + 2 + 3 by omega]
    simpa [cellsK] using ih
/-- The pairs of a link are other ones. -/
theorem own_setN {w : World} {B g c : Nat} {R : List K} (h : w.ownsRow B 60 3 (.slice (some ⟨g, 0, none⟩) R.length c) R.length (cellsK R)) {k : Nat} {y : K} (hk : k < R.length) (h1 : (R.getD k K.zero).a = y.a) (h2 : (R.getD k K.zero).b = y.b) : (w.setCell ⟨g, k * 3 + 2, none⟩ (.int .i64 (y.n : Int))).ownsRow B 60 3 (.slice (some ⟨g, 0, none⟩) (R.set k y).length c) (R.set k y).length (cellsK (R.set k y)) := by
  have h3 := (World.ownsRow.stored h (k * 3 + 2) (.int .i64 (y.n : Int))).1
  rw [← cellsK_n y R k hk h1 h2] at h3
  rw [List.length_set]
  exact h3
end Go.Proofs.Ytchfccbneedejaa
namespace Go.Proofs.Ytchfccbneedejaa
open Go.RowKit Go.Maps
theorem take_snocR {P : List Pr} {k : Nat} (h : k < P.length) : P.take (k + 1) = P.take k ++ [P.getD k Pr.zero] := by
  rw [List.take_succ_eq_append_getElem h]
  simp [List.getD, h]
theorem getD_memR {P : List Pr} {k : Nat} (h : k < P.length) : P.getD k Pr.zero ∈ P := by simp [List.getD, h]
theorem getD_memN {L : List Nat} {k : Nat} (h : k < L.length) : L.getD k 0 ∈ L := by simp [List.getD, h]
theorem rowK_atS {w : World} {B g c : Nat} {R : List K} (h : w.ownsRow B 60 3 (.slice (some ⟨g, 0, none⟩) R.length c) R.length (cellsK R)) (j : Nat) (hj : j < R.length) : (R.getD j K.zero).at w g (j * 3) := OwnK.at h j hj
/-- The labels of a pair. -/
def LabAt (L : List Nat) (q : Pr) (la lb : Nat) : Prop := L.getD q.a 0 = la ∧ L.getD q.b 0 = lb
theorem Lks.skipL {P : List Pr} {L : List Nat} {l : List K} (h : Lks P L l) {p : Pr} {la : Nat} (e : LabAt L p la la) : Lks (P ++ [p]) L l := h.skip (e.1.trans e.2.symm)
theorem Lks.newL {P : List Pr} {L : List Nat} {l : List K} (h : Lks P L l) {p : Pr} {la lb x y : Nat} (e : LabAt L p la lb) (hne : la ≠ lb) (hx : x = min la lb) (hy : y = max la lb) (hn : ∀ i, i < l.length → ¬ ((l.getD i K.zero).a = x ∧ (l.getD i K.zero).b = y)) : Lks (P ++ [p]) L (l ++ [⟨x, y, 1⟩]) :=
  h.new (by rw [e.1, e.2]; exact hne) (by rw [e.1, e.2]; exact hx) (by rw [e.1, e.2]; exact hy) (fun m hm => by obtain ⟨j, hj, rfl⟩ := mem_getDK hm; exact hn j hj)
theorem Lks.moreL {P : List Pr} {L : List Nat} {l : List K} (h : Lks P L l) {p : Pr} {la lb x y i n : Nat} (e : LabAt L p la lb) (hne : la ≠ lb) (hx : x = min la lb) (hy : y = max la lb) (hi : i < l.length) (he : l.getD i K.zero = ⟨x, y, n⟩) : Lks (P ++ [p]) L (l.set i ⟨x, y, n + 1⟩) :=
  h.more (by rw [e.1, e.2]; exact hne) (by rw [e.1, e.2]; exact hx) (by rw [e.1, e.2]; exact hy) hi he
theorem Lks.len {P : List Pr} {L : List Nat} {l : List K} (h : Lks P L l) {i x y n : Nat} (hi : i < l.length) (he : l.getD i K.zero = ⟨x, y, n⟩) : n ≤ P.length := by
  have h1 := h.fit _ (getD_memK hi)
  rw [he] at h1
  have h2 : n = bw P L x y := h1.2.1
  rw [h2]
  exact bw_le P L x y
theorem SmK.set {l : List K} (h : SmK l) (i : Nat) {x y n : Nat} (hx : x ≤ 1024) (hy : y ≤ 1024) : SmK (l.set i ⟨x, y, n⟩) := fun m hm => by
  rcases List.mem_or_eq_of_mem_set hm with h1 | h1
  · exact h m h1
  · rw [h1]; exact ⟨hx, hy⟩
theorem SmK.snoc {l : List K} (h : SmK l) {x y n : Nat} (hx : x ≤ 1024) (hy : y ≤ 1024) : SmK (l ++ [⟨x, y, n⟩]) := fun m hm => by
  rcases List.mem_append.1 hm with h1 | h1
  · exact h m h1
  · rw [List.mem_singleton] at h1; rw [h1]; exact ⟨hx, hy⟩
theorem MapK.set {w : World} {z nn : Nat} {l : List K} (h : MapK w z nn l) {i x y n : Nat} (hi : i < l.length) (h1 : (l.getD i K.zero).a = x) (h2 : (l.getD i K.zero).b = y) : MapK w z nn (l.set i ⟨x, y, n⟩) :=
  h.like (List.length_set ..) (fun j hj => by
    rw [getD_setK l i j _ hi]
    split
    · rename_i e; subst e; exact ⟨h1.symm, h2.symm⟩
    · exact ⟨rfl, rfl⟩)
theorem MapK.cell {w : World} {z nn : Nat} {l : List K} (h : MapK w z nn l) {a : Addr} (v : Value) (hne : z ≠ a.block) : MapK (w.setCell a v) z nn l := by
  obtain ⟨D, h1, h2⟩ := h
  exact ⟨D, h1.setCell hne v, h2⟩
theorem getD_appL (l : List K) (x : K) {j : Nat} (h : j < l.length) : (l ++ [x]).getD j K.zero = l.getD j K.zero := by simp [List.getD, List.getElem?_append_left h]
theorem getD_appR (l : List K) (x : K) : (l ++ [x]).getD l.length K.zero = x := by simp [List.getD]
theorem set_appR (l : List K) (x y : K) : (l ++ [x]).set l.length y = l ++ [y] := by simp
theorem MapK.put {D : DataW Unit} {l : List K} {x y n : Nat} (hD : IsMap D) (hs : SmK l) (hx : x ≤ 1024) (hy : y ≤ 1024)
    (h2 : ∀ i, i < l.length → Maps.has D (kK (l.getD i K.zero).a (l.getD i K.zero).b) = true ∧ D.atKey (kK (l.getD i K.zero).a (l.getD i K.zero).b) (.lit (.int .i64 0)) = .lit (.int .i64 (i : Int)))
    (h3 : ∀ x y, x ≤ 1024 → y ≤ 1024 → (∀ i, i < l.length → ¬ ((l.getD i K.zero).a = x ∧ (l.getD i K.zero).b = y)) → Maps.has D (kK x y) = false)
    (hn : ∀ i, i < l.length → ¬ ((l.getD i K.zero).a = x ∧ (l.getD i K.zero).b = y)) :
    (∀ i, i < (l ++ [(⟨x, y, n⟩ : K)]).length → Maps.has (D.put (kK x y) (.lit (.int .i64 (l.length : Int)))) (kK ((l ++ [(⟨x, y, n⟩ : K)]).getD i K.zero).a ((l ++ [(⟨x, y, n⟩ : K)]).getD i K.zero).b) = true ∧ (D.put (kK x y) (.lit (.int .i64 (l.length : Int)))).atKey (kK ((l ++ [(⟨x, y, n⟩ : K)]).getD i K.zero).a ((l ++ [(⟨x, y, n⟩ : K)]).getD i K.zero).b) (.lit (.int .i64 0)) = .lit (.int .i64 (i : Int))) ∧
    ∀ x' y', x' ≤ 1024 → y' ≤ 1024 → (∀ i, i < (l ++ [(⟨x, y, n⟩ : K)]).length → ¬ (((l ++ [(⟨x, y, n⟩ : K)]).getD i K.zero).a = x' ∧ ((l ++ [(⟨x, y, n⟩ : K)]).getD i K.zero).b = y')) → Maps.has (D.put (kK x y) (.lit (.int .i64 (l.length : Int)))) (kK x' y') = false := by
  refine ⟨fun i hi => ?_, fun x' y' hx' hy' hn' => ?_⟩
  · rw [List.length_append, List.length_singleton] at hi
    by_cases e : i = l.length
    · subst e
      rw [getD_appR]
      exact ⟨has_put_same hD (kK_lit hx hy) _, atKey_put_same hD (kK_lit hx hy) _ _⟩
    · have hil : i < l.length := by omega
      rw [getD_appL l _ hil]
      have hsm := hs _ (getD_memK hil)
      have hne : kK (l.getD i K.zero).a (l.getD i K.zero).b ≠ kK x y := fun e2 => hn i hil (kK_inj hsm.1 hsm.2 hx hy e2)
      rw [has_put_other hne, atKey_put_other hne]
      exact h2 i hil
  · have hne : kK x' y' ≠ kK x y := fun e2 => hn' l.length (by simp) (by rw [getD_appR]; have := kK_inj hx' hy' hx hy e2; exact ⟨this.1.symm, this.2.symm⟩)
    rw [has_put_other hne]
    refine h3 x' y' hx' hy' (fun i hi => ?_)
    have := hn' i (by rw [List.length_append]; omega)
    rw [getD_appL l _ hi] at this
    exact this
set_option maxRecDepth 100000 in
set_option maxHeartbeats 3200000 in
theorem linksOf_any (pa : Option Addr) (P : List Pr) (pc : Nat) (b : Option Addr) (L : List Nat) (bc : Nat) (w : World) (hP : P.length ≤ 8192) (hL : L.length ≤ 1024) (hPI : PIn P L.length) (hM : ∀ x, x ∈ L → x ≤ 1024) (hpr : Prs w pa P) (hi : Ints w b (ints L)) :
    Calls Try.prog 58 #[.slice pa P.length pc, .slice b L.length bc] w fun e w' => ∃ v c l, e = .returned (.slice v l.length c) ∧ w'.ownsRow w.heap.size 60 3 (.slice v l.length c) l.length (cellsK l) ∧ Hid (Lks P L l) ∧ l.length ≤ P.length ∧ Below w.heap.size w w' := by
  obtain ⟨i0, hi0, hz0, hz1, hz2⟩ := info_parts info60K
  have hmm := @run_makeMap Try.prog
  obtain ⟨ib, io, hib⟩ := hpr.get
  obtain ⟨ix, ox, hix⟩ := hi.get
  have HIB := Lib.hid hib
  have HIX := Lib.hid hix
  have HPI := Lib.hid hPI
  have HMX := Lib.hid hM
  clear hib hix hpr hi hPI hM
  have HM0 := Lib.hid (MapK.made w)
  have HB0 : Hid (Below w.heap.size w (w.alloc (.map #[] 0))) := (Below.refl _ _).alloc (Nat.le_refl _) _
  have hU0 : (w.alloc (.map #[] 0)).heap.size = w.heap.size + 1 := by simp
  generalize hp : w.heap.size = p at *
  go_enter Try.func58, Try.ntmps58
  go_wp2_with fail
  generalize hU : w.alloc (.map #[] 0) = U at *
  clear hU hmm
  go_loopw [5, 17] (fun s5 i wr => ∃ (k nn : Nat) (av : Option Addr) (cv : Nat) (l : List K), k ≤ P.length ∧ nn ≤ k ∧ i = .int .i64 k ∧ s5 = .slice av l.length cv ∧ l.length ≤ k ∧ Hid (Lks (P.take k) L l) ∧ Hid (SmK l) ∧ Hid (MapK wr p nn l) ∧ Hid (wr.ownsRow (p + 1) 60 3 (.slice av l.length cv) l.length (cellsK l)) ∧ Hid (Below p w wr)) (fun _ i _ => P.length - (intOf i).toNat)
  case atStart => exact ⟨0, 0, none, 0, [], Nat.zero_le _, Nat.le_refl _, rfl, rfl, Nat.zero_le _, Lks.nil L, fun x hx => absurd hx List.not_mem_nil, HM0, World.ownsRow_nil _ _ _ _, HB0⟩
  case round =>
    obtain ⟨k, nn, av, cv, l, hk, hnn, rfl, rfl, hlk0, HLK, HSM, HMP, HOW, HBW⟩ := hrel
    clear HM0 HB0
    by_cases hlk : k < P.length
    · have hlk' : (k : Int) < P.length := by omega
      obtain ⟨rfl, hbl, hat⟩ := HIB.out (by omega)
      have hPk := HPI.out _ (getD_memR hlk)
      have HPT := Lib.hid (take_snocR hlk)
      have hat := hat k hlk
      obtain ⟨q, HQ⟩ := named (P.getD k Pr.zero)
      rw [HQ.out] at hat hPk HPT
      obtain ⟨qa, qb⟩ := q
      have y0 : wr.cell? ⟨ib, io + k * 2, none⟩ = some (.int .i64 (qa : Int)) := (HBW.out.cell (p := ⟨ib, io + k * 2, none⟩) (hp ▸ hbl)).trans hat.1
      have y1 : wr.cell? ⟨ib, io + k * 2 + 1, none⟩ = some (.int .i64 (qb : Int)) := (HBW.out.cell (p := ⟨ib, io + k * 2 + 1, none⟩) (hp ▸ hbl)).trans hat.2
      have hqa : qa < L.length := hPk.1
      have hqb : qb < L.length := hPk.2
      have hqa' : (qa : Int) < L.length := by omega
      have hqb' : (qb : Int) < L.length := by omega
      clear hat hPk
      obtain ⟨rfl, hbx, hax⟩ := HIX.out (by rw [ints_len]; omega)
      have HBX : Hid (Below wr.heap.size wr (wr.alloc (.cells #[.int .i64 (qa : Int), .int .i64 (qb : Int)] 42))) := (Below.refl _ _).alloc (Nat.le_refl _) _
      have HBY : Hid (Below p w (wr.alloc (.cells #[.int .i64 (qa : Int), .int .i64 (qb : Int)] 42))) := HBW.out.trans (HBX.out.mono (by have := HBW.out.size; omega))
      have z0 := (HBY.out.cell (p := ⟨ix, ox + qa, none⟩) (hp ▸ hbx)).trans (hax qa (by rw [ints_len]; exact hqa))
      have z1 := (HBY.out.cell (p := ⟨ix, ox + qb, none⟩) (hp ▸ hbx)).trans (hax qb (by rw [ints_len]; exact hqb))
      rw [ints_getD hqa] at z0
      rw [ints_getD hqb] at z1
      have hla := HMX.out _ (getD_memN hqa)
      have hlb := HMX.out _ (getD_memN hqb)
      have HLA : Hid (LabAt L ⟨qa, qb⟩ (L.getD qa 0) (L.getD qb 0)) := ⟨rfl, rfl⟩
      generalize L.getD qa 0 = la at *
      generalize L.getD qb 0 = lb at *
      clear hax
      go_wp2_with fail
      clear y0 y1
      have HMX1 := Lib.hid (HMP.out.on HBX.out)
      have HOX := Lib.hid (own_on HOW.out HBX.out)
      have hgx := heap_top wr (.cells #[.int .i64 (qa : Int), .int .i64 (qb : Int)] 42)
      obtain ⟨⟨c0, c1⟩, _⟩ := two_cells hgx
      clear hgx
      generalize hX : wr.alloc (.cells #[.int .i64 (qa : Int), .int .i64 (qb : Int)] 42) = X at *
      clear hX HBX HOW HMP HBW
      go_quiet (fail)
      have HM2 : Hid (MapK (X.drewN nq) p nn l) := HMX1.out.on ⟨rfl, rfl, rfl, Nat.le_refl _, fun _ _ => rfl⟩
      have HO2 : Hid ((X.drewN nq).ownsRow (p + 1) 60 3 (.slice av l.length cv) l.length (cellsK l)) := own_on HOX.out ⟨rfl, rfl, rfl, Nat.le_refl _, fun _ _ => rfl⟩
      have HB2 : Hid (Below p w (X.drewN nq)) := HBY.out.trans ⟨rfl, rfl, rfl, Nat.le_refl _, fun _ _ => rfl⟩
      clear HMX1 HOX HBY c0 c1 z0 z1
      generalize X.drewN nq = Y at *
      by_cases hab : la = lb
      · subst hab
        have HLN : Hid (Lks (P.take (k + 1)) L l) := by rw [HPT.out]; exact HLK.out.skipL HLA.out
        go_wp2_with fail
        exact ⟨⟨k + 1, nn, av, cv, l, by omega, by omega, by simp, rfl, by omega, HLN, HSM, HM2, HO2, HB2⟩, by simp [intOf]; omega⟩
      · have hab' : ((la : Int) == (lb : Int)) = false := by simp only [beq_eq_false_iff_ne]; omega
        rcases Nat.lt_or_ge la lb with hc | hc
        · have h1 : (la : Int) < lb := by omega
          have h2 : ¬ (lb : Int) < la := by omega
          have hmn : min (la : Int) (lb : Int) = (la : Int) := by omega
          have hmx : max (la : Int) (lb : Int) = (lb : Int) := by omega
          have HKX := Lib.hid (keyOfK la lb (by omega) (by omega))
          have HB3 : Hid (Below Y.heap.size Y (Y.alloc (.cells #[.int .i64 (la : Int), .int .i64 (lb : Int), .int .i64 0] 60))) := (Below.refl _ _).alloc (Nat.le_refl _) _
          have HM3 := Lib.hid (HM2.out.on HB3.out)
          have HO3 := Lib.hid (own_on HO2.out HB3.out)
          have HW3 : Hid (Below p w (Y.alloc (.cells #[.int .i64 (la : Int), .int .i64 (lb : Int), .int .i64 0] 60))) := HB2.out.trans (HB3.out.mono (by have := HB2.out.size; omega))
          have hgx := heap_top Y (.cells #[.int .i64 (la : Int), .int .i64 (lb : Int), .int .i64 0] 60)
          obtain ⟨e0, e1, e2⟩ := three_cells hgx
          have HGX := Lib.hid hgx
          have hYp : p < Y.heap.size := HM2.out.lt
          clear hgx HM2 HO2 HB2 HB3
          obtain ⟨D, hown, hseen, hnew⟩ := HM3.out
          have HOW := Lib.hid hown
          by_cases hs : ∃ i, i < l.length ∧ (l.getD i K.zero).a = la ∧ (l.getD i K.zero).b = lb
          · obtain ⟨i, hil, hi1, hi2⟩ := hs
            obtain ⟨g1, g2⟩ := hseen i hil
            rw [hi1, hi2] at g1 g2
            have HHS := Lib.hid g1
            have HAT := Lib.hid g2
            have hil' : (i : Int) < l.length := by omega
            obtain ⟨g, cg, hv, hg1, _, _, _⟩ := own_shape HO3.out (fun e => by injection e with _ e2 _; omega)
            injection hv with hv1 _ hv3
            subst hv1 hv3
            obtain ⟨n, HN⟩ : ∃ n, Hid (l.getD i K.zero = ⟨la, lb, n⟩) := ⟨(l.getD i K.zero).n, by show _ = _; rw [← hi1, ← hi2]⟩
            have d1 : (Y.alloc (.cells #[.int .i64 (la : Int), .int .i64 (lb : Int), .int .i64 0] 60)).cell? ⟨g, i * 3 + 2, none⟩ = some (.int .i64 (n : Int)) := by
              have h := (rowK_atS HO3.out i hil).2.2
              rw [HN.out] at h
              exact h
            have d2 := World.ownsRow.frozenAt HO3.out (i * 3 + 2)
            have hnb : n ≤ 8192 := by have h := HLK.out.len hil HN.out; rw [List.length_take] at h; omega
            have HLN : Hid (Lks (P.take (k + 1)) L (l.set i ⟨la, lb, n + 1⟩)) := by rw [HPT.out]; exact HLK.out.moreL HLA.out hab (by omega) (by omega) hil HN.out
            have HSN : Hid (SmK (l.set i ⟨la, lb, n + 1⟩)) := HSM.out.set i (by omega) (by omega)
            have HMN := Lib.hid ((HM3.out.set (n := n + 1) hil hi1 hi2).cell (a := ⟨g, i * 3 + 2, none⟩) (.int .i64 ((n : Int) + 1)) (by show p ≠ g; omega))
            have HON : Hid (((Y.alloc (.cells #[.int .i64 (la : Int), .int .i64 (lb : Int), .int .i64 0] 60)).setCell ⟨g, i * 3 + 2, none⟩ (.int .i64 ((n : Int) + 1))).ownsRow (p + 1) 60 3 (.slice (some ⟨g, 0, none⟩) (l.set i ⟨la, lb, n + 1⟩).length cv) (l.set i ⟨la, lb, n + 1⟩).length (cellsK (l.set i ⟨la, lb, n + 1⟩))) := own_setN (y := ⟨la, lb, n + 1⟩) HO3.out hil hi1 hi2
            clear hown hseen hnew g1 g2 hi1 hi2
            go_wp2_with (at_lookup; go_must (refine wpList_lookup_own_ok_int _ rfl _ _ 105 rfl 60 3 .i64 lawK Try.underlying105 Try.underlying3 (zero3 _) p nn D rfl HOW.out _ (kK la lb) rfl HKX.out ?_; intro c hat hwc; rw [HAT.out] at hat; obtain rfl : c = (i : Int) := (by injection hat with h; injection h with _ h; exact h.symm); rw [HHS.out]; clear hat hwc))
            exact ⟨⟨k + 1, nn, some ⟨g, 0, none⟩, cv, l.set i ⟨la, lb, n + 1⟩, by omega, by omega, by simp, by rw [List.length_set], by rw [List.length_set]; omega, HLN, HSN, HMN, HON, Lib.hid (HW3.out.setCell (by show p ≤ g; omega) _)⟩, by simp [intOf]; omega⟩
          · have hs' : ∀ i, i < l.length → ¬ ((l.getD i K.zero).a = la ∧ (l.getD i K.zero).b = lb) := fun i hi h => hs ⟨i, hi, h⟩
            have HHS := Lib.hid (hnew la lb (by omega) (by omega) hs')
            have HAT := Lib.hid (atKey_of_not_has HHS.out (.lit (.int .i64 0)))
            have HPU := Lib.hid (MapK.put (n := 0) (x := la) (y := lb) hown.isMap HSM.out (by omega) (by omega) hseen hnew hs')
            have HOB : Hid (∀ w8, w8.ownsMap Try.prog 60 (plainElem (H := Unit) Try.prog 3) p (nn + 1) (D.put (kK la lb) (.lit (.int .i64 (l.length : Int)))) → MapK w8 p (nn + 1) (l ++ [⟨la, lb, 0⟩])) := fun w8 h => ⟨_, h, HPU.out⟩
            have HLN : Hid (Lks (P.take (k + 1)) L (l ++ [⟨la, lb, 1⟩])) := by rw [HPT.out]; exact HLK.out.newL HLA.out hab (by omega) (by omega) hs'
            have HSN : Hid (SmK (l ++ [⟨la, lb, 1⟩])) := HSM.out.snoc (by omega) (by omega)
            have HGR : Hid (∀ w8, (Y.alloc (.cells #[.int .i64 (la : Int), .int .i64 (lb : Int), .int .i64 0] 60)).grownBy w8 (some p) → Fr (fun k => k = p) (Y.alloc (.cells #[.int .i64 (la : Int), .int .i64 (lb : Int), .int .i64 0] 60)) w8) := fun w8 h => ⟨h.os, h.tape, h.output, h.size, fun k hk hn => h.block k hk (fun e => hn (by injection e))⟩
            have HLL : Hid ((l ++ [(⟨la, lb, 0⟩ : K)]).length = l.length + 1) := by show _ = _; simp
            clear hown hseen hnew hs hs' HPU
            go_wp2_with (first | (at_lookup; go_must (refine wpList_lookup_own_ok_int _ rfl _ _ 105 rfl 60 3 .i64 lawK Try.underlying105 Try.underlying3 (zero3 _) p nn D rfl HOW.out _ (kK la lb) rfl HKX.out ?_; intro c hat hwc; rw [HAT.out] at hat; obtain rfl : c = (0 : Int) := (by injection hat with h; injection h with _ h; exact h.symm); rw [HHS.out]; clear hat hwc)) | (at_mapUpdate; go_must (refine wpList_mapUpdate_own _ rfl _ _ _ 105 rfl 60 3 lawK Try.underlying105 (plainElem (H := Unit) Try.prog 3) p nn D rfl HOW.out (by unfold maxLen; omega) _ _ (kK la lb) rfl rfl HKX.out (.lit (.int .i64 (l.length : Int))) [] (plainElem_int Try.underlying3 (wfN (by omega))) ?_; intro w8 hown8 hgrow8; have hf8 := HGR.out w8 hgrow8; have HM8 := Lib.hid (HOB.out w8 hown8); have HO8 := Lib.hid (own_frQ HO3.out hf8 (fun j hj => by have := (HO3.out.lt j hj).1; show ¬ j = p; omega)); have HB8 : Hid (Below p w w8) := HW3.out.trans (hf8.below (by have := HM3.out.lt; omega) (fun j hj => by have hj : j = p := hj; omega)); obtain ⟨f0, f1, f2⟩ := three_cells ((hf8.block Y.heap.size (by simp) (by show ¬ Y.heap.size = p; omega)).trans HGX.out); have HNW : Hid (∀ j u, (K.cells ⟨la, lb, 0⟩)[j]? = some u → (w8.alloc (.cells #[.int .i64 (la : Int), .int .i64 (lb : Int), .int .i64 0] 60)).cell? ((⟨w8.heap.size, 0, none⟩ : Addr).add j) = some u) := newK w8 ⟨la, lb, 0⟩; have HB9 : Hid (Below w8.heap.size w8 (w8.alloc (.cells #[.int .i64 (la : Int), .int .i64 (lb : Int), .int .i64 0] 60))) := (Below.refl _ _).alloc (Nat.le_refl _) _; have HM9 := Lib.hid (HM8.out.on HB9.out); have HO9 := Lib.hid (own_on HO8.out HB9.out); have hz9 : p < w8.heap.size := HM8.out.lt; have HW9 : Hid (Below p w (w8.alloc (.cells #[.int .i64 (la : Int), .int .i64 (lb : Int), .int .i64 0] 60))) := HB8.out.trans (HB9.out.mono (Nat.le_of_lt hz9)); have HZ9 : Hid (p + 1 ≤ (w8.alloc (.cells #[.int .i64 (la : Int), .int .i64 (lb : Int), .int .i64 0] 60)).heap.size) := Nat.le_trans hz9 HB9.out.size; clear hown8 hgrow8 hf8 e0 e1 e2)) | (at_builtin; go_must (refine wpList_append_own _ rfl (.tmp 54) (.tmp 56) 55 rfl (p + 1) 60 i0 (.agg #[.int .i64 0, .int .i64 0, .int .i64 0]) 3 24 Try.underlying55 hi0 hz0 hz1 hz2 rfl (by decide) (.slice av l.length cv) l.length (cellsK l) rfl HO9.out ⟨w8.heap.size, 0, none⟩ 1 1 (K.cells ⟨la, lb, 0⟩) rfl rfl HNW.out (oneK _) (by unfold maxLen; omega) (by omega) HZ9.out ?_; intro v6 w6 hown6 hgrow6 hnil6; obtain ⟨g6, c6, hv6, hg6, hc6, _, hm6⟩ := own_shape hown6 (fun e => by have := hnil6.1 e; simp at this); subst hv6; rw [← cellsK_snoc, ← HLL.out] at hown6; have HM6 : Hid (MapK w6 p (nn + 1) (l ++ [⟨la, lb, 0⟩])) := HM9.out.kept hgrow6 (fun e => by have := (HO9.out.lt p e.symm).1; omega); have HB6 : Hid (Below p w w6) := HW9.out.grown hgrow6 (Nat.le_of_lt (Nat.lt_of_lt_of_le hz9 HB9.out.size)) (fun j hj => by have := (HO9.out.lt j hj).1; omega); have d1 : w6.cell? ⟨g6, l.length * 3 + 2, none⟩ = some (.int .i64 0) := (by have h := (rowK_atS hown6 l.length (by rw [HLL.out]; omega)).2.2; rw [getD_appR] at h; exact h); have d2 := World.ownsRow.frozenAt hown6 (l.length * 3 + 2); have HO7 : Hid ((w6.setCell ⟨g6, l.length * 3 + 2, none⟩ (.int .i64 1)).ownsRow (p + 1) 60 3 (.slice (some ⟨g6, 0, none⟩) ((l ++ [(⟨la, lb, 0⟩ : K)]).set l.length ⟨la, lb, 1⟩).length c6) ((l ++ [(⟨la, lb, 0⟩ : K)]).set l.length ⟨la, lb, 1⟩).length (cellsK ((l ++ [(⟨la, lb, 0⟩ : K)]).set l.length ⟨la, lb, 1⟩))) := own_setN (y := ⟨la, lb, 1⟩) hown6 (by rw [HLL.out]; omega) (by rw [getD_appR]) (by rw [getD_appR]); have HM7 := Lib.hid ((HM6.out.set (n := 1) (i := l.length) (x := la) (y := lb) (by rw [HLL.out]; omega) (by rw [getD_appR]) (by rw [getD_appR])).cell (a := ⟨g6, l.length * 3 + 2, none⟩) (.int .i64 1) (by show p ≠ g6; omega)); rw [set_appR] at HO7 HM7; have hc6' : ((l.length : Int) + 1) ≤ c6 := (by omega); clear hown6 hgrow6 hnil6)))
            refine ⟨⟨k + 1, nn + 1, some ⟨g6, 0, none⟩, c6, l ++ [⟨la, lb, 1⟩], by omega, by omega, by simp, by simp, by simp; omega, HLN, HSN, HM7, ?_, Lib.hid (HB6.out.setCell (by show p ≤ g6; omega) _)⟩, by simp [intOf]; omega⟩
            exact HO7
        · have h1 : (lb : Int) < la := by omega
          have h2 : ¬ (la : Int) < lb := by omega
          have hmn : min (la : Int) (lb : Int) = (lb : Int) := by omega
          have hmx : max (la : Int) (lb : Int) = (la : Int) := by omega
          have HKX := Lib.hid (keyOfK lb la (by omega) (by omega))
          have HB3 : Hid (Below Y.heap.size Y (Y.alloc (.cells #[.int .i64 (lb : Int), .int .i64 (la : Int), .int .i64 0] 60))) := (Below.refl _ _).alloc (Nat.le_refl _) _
          have HM3 := Lib.hid (HM2.out.on HB3.out)
          have HO3 := Lib.hid (own_on HO2.out HB3.out)
          have HW3 : Hid (Below p w (Y.alloc (.cells #[.int .i64 (lb : Int), .int .i64 (la : Int), .int .i64 0] 60))) := HB2.out.trans (HB3.out.mono (by have := HB2.out.size; omega))
          have hgx := heap_top Y (.cells #[.int .i64 (lb : Int), .int .i64 (la : Int), .int .i64 0] 60)
          obtain ⟨e0, e1, e2⟩ := three_cells hgx
          have HGX := Lib.hid hgx
          have hYp : p < Y.heap.size := HM2.out.lt
          clear hgx HM2 HO2 HB2 HB3
          obtain ⟨D, hown, hseen, hnew⟩ := HM3.out
          have HOW := Lib.hid hown
          by_cases hs : ∃ i, i < l.length ∧ (l.getD i K.zero).a = lb ∧ (l.getD i K.zero).b = la
          · obtain ⟨i, hil, hi1, hi2⟩ := hs
            obtain ⟨g1, g2⟩ := hseen i hil
            rw [hi1, hi2] at g1 g2
            have HHS := Lib.hid g1
            have HAT := Lib.hid g2
            have hil' : (i : Int) < l.length := by omega
            obtain ⟨g, cg, hv, hg1, _, _, _⟩ := own_shape HO3.out (fun e => by injection e with _ e2 _; omega)
            injection hv with hv1 _ hv3
            subst hv1 hv3
            obtain ⟨n, HN⟩ : ∃ n, Hid (l.getD i K.zero = ⟨lb, la, n⟩) := ⟨(l.getD i K.zero).n, by show _ = _; rw [← hi1, ← hi2]⟩
            have d1 : (Y.alloc (.cells #[.int .i64 (lb : Int), .int .i64 (la : Int), .int .i64 0] 60)).cell? ⟨g, i * 3 + 2, none⟩ = some (.int .i64 (n : Int)) := by
              have h := (rowK_atS HO3.out i hil).2.2
              rw [HN.out] at h
              exact h
            have d2 := World.ownsRow.frozenAt HO3.out (i * 3 + 2)
            have hnb : n ≤ 8192 := by have h := HLK.out.len hil HN.out; rw [List.length_take] at h; omega
            have HLN : Hid (Lks (P.take (k + 1)) L (l.set i ⟨lb, la, n + 1⟩)) := by rw [HPT.out]; exact HLK.out.moreL HLA.out hab (by omega) (by omega) hil HN.out
            have HSN : Hid (SmK (l.set i ⟨lb, la, n + 1⟩)) := HSM.out.set i (by omega) (by omega)
            have HMN := Lib.hid ((HM3.out.set (n := n + 1) hil hi1 hi2).cell (a := ⟨g, i * 3 + 2, none⟩) (.int .i64 ((n : Int) + 1)) (by show p ≠ g; omega))
            have HON : Hid (((Y.alloc (.cells #[.int .i64 (lb : Int), .int .i64 (la : Int), .int .i64 0] 60)).setCell ⟨g, i * 3 + 2, none⟩ (.int .i64 ((n : Int) + 1))).ownsRow (p + 1) 60 3 (.slice (some ⟨g, 0, none⟩) (l.set i ⟨lb, la, n + 1⟩).length cv) (l.set i ⟨lb, la, n + 1⟩).length (cellsK (l.set i ⟨lb, la, n + 1⟩))) := own_setN (y := ⟨lb, la, n + 1⟩) HO3.out hil hi1 hi2
            clear hown hseen hnew g1 g2 hi1 hi2
            go_wp2_with (at_lookup; go_must (refine wpList_lookup_own_ok_int _ rfl _ _ 105 rfl 60 3 .i64 lawK Try.underlying105 Try.underlying3 (zero3 _) p nn D rfl HOW.out _ (kK lb la) rfl HKX.out ?_; intro c hat hwc; rw [HAT.out] at hat; obtain rfl : c = (i : Int) := (by injection hat with h; injection h with _ h; exact h.symm); rw [HHS.out]; clear hat hwc))
            exact ⟨⟨k + 1, nn, some ⟨g, 0, none⟩, cv, l.set i ⟨lb, la, n + 1⟩, by omega, by omega, by simp, by rw [List.length_set], by rw [List.length_set]; omega, HLN, HSN, HMN, HON, Lib.hid (HW3.out.setCell (by show p ≤ g; omega) _)⟩, by simp [intOf]; omega⟩
          · have hs' : ∀ i, i < l.length → ¬ ((l.getD i K.zero).a = lb ∧ (l.getD i K.zero).b = la) := fun i hi h => hs ⟨i, hi, h⟩
            have HHS := Lib.hid (hnew lb la (by omega) (by omega) hs')
            have HAT := Lib.hid (atKey_of_not_has HHS.out (.lit (.int .i64 0)))
            have HPU := Lib.hid (MapK.put (n := 0) (x := lb) (y := la) hown.isMap HSM.out (by omega) (by omega) hseen hnew hs')
            have HOB : Hid (∀ w8, w8.ownsMap Try.prog 60 (plainElem (H := Unit) Try.prog 3) p (nn + 1) (D.put (kK lb la) (.lit (.int .i64 (l.length : Int)))) → MapK w8 p (nn + 1) (l ++ [⟨lb, la, 0⟩])) := fun w8 h => ⟨_, h, HPU.out⟩
            have HLN : Hid (Lks (P.take (k + 1)) L (l ++ [⟨lb, la, 1⟩])) := by rw [HPT.out]; exact HLK.out.newL HLA.out hab (by omega) (by omega) hs'
            have HSN : Hid (SmK (l ++ [⟨lb, la, 1⟩])) := HSM.out.snoc (by omega) (by omega)
            have HGR : Hid (∀ w8, (Y.alloc (.cells #[.int .i64 (lb : Int), .int .i64 (la : Int), .int .i64 0] 60)).grownBy w8 (some p) → Fr (fun k => k = p) (Y.alloc (.cells #[.int .i64 (lb : Int), .int .i64 (la : Int), .int .i64 0] 60)) w8) := fun w8 h => ⟨h.os, h.tape, h.output, h.size, fun k hk hn => h.block k hk (fun e => hn (by injection e))⟩
            have HLL : Hid ((l ++ [(⟨lb, la, 0⟩ : K)]).length = l.length + 1) := by show _ = _; simp
            clear hown hseen hnew hs hs' HPU
            go_wp2_with (first | (at_lookup; go_must (refine wpList_lookup_own_ok_int _ rfl _ _ 105 rfl 60 3 .i64 lawK Try.underlying105 Try.underlying3 (zero3 _) p nn D rfl HOW.out _ (kK lb la) rfl HKX.out ?_; intro c hat hwc; rw [HAT.out] at hat; obtain rfl : c = (0 : Int) := (by injection hat with h; injection h with _ h; exact h.symm); rw [HHS.out]; clear hat hwc)) | (at_mapUpdate; go_must (refine wpList_mapUpdate_own _ rfl _ _ _ 105 rfl 60 3 lawK Try.underlying105 (plainElem (H := Unit) Try.prog 3) p nn D rfl HOW.out (by unfold maxLen; omega) _ _ (kK lb la) rfl rfl HKX.out (.lit (.int .i64 (l.length : Int))) [] (plainElem_int Try.underlying3 (wfN (by omega))) ?_; intro w8 hown8 hgrow8; have hf8 := HGR.out w8 hgrow8; have HM8 := Lib.hid (HOB.out w8 hown8); have HO8 := Lib.hid (own_frQ HO3.out hf8 (fun j hj => by have := (HO3.out.lt j hj).1; show ¬ j = p; omega)); have HB8 : Hid (Below p w w8) := HW3.out.trans (hf8.below (by have := HM3.out.lt; omega) (fun j hj => by have hj : j = p := hj; omega)); obtain ⟨f0, f1, f2⟩ := three_cells ((hf8.block Y.heap.size (by simp) (by show ¬ Y.heap.size = p; omega)).trans HGX.out); have HNW : Hid (∀ j u, (K.cells ⟨lb, la, 0⟩)[j]? = some u → (w8.alloc (.cells #[.int .i64 (lb : Int), .int .i64 (la : Int), .int .i64 0] 60)).cell? ((⟨w8.heap.size, 0, none⟩ : Addr).add j) = some u) := newK w8 ⟨lb, la, 0⟩; have HB9 : Hid (Below w8.heap.size w8 (w8.alloc (.cells #[.int .i64 (lb : Int), .int .i64 (la : Int), .int .i64 0] 60))) := (Below.refl _ _).alloc (Nat.le_refl _) _; have HM9 := Lib.hid (HM8.out.on HB9.out); have HO9 := Lib.hid (own_on HO8.out HB9.out); have hz9 : p < w8.heap.size := HM8.out.lt; have HW9 : Hid (Below p w (w8.alloc (.cells #[.int .i64 (lb : Int), .int .i64 (la : Int), .int .i64 0] 60))) := HB8.out.trans (HB9.out.mono (Nat.le_of_lt hz9)); have HZ9 : Hid (p + 1 ≤ (w8.alloc (.cells #[.int .i64 (lb : Int), .int .i64 (la : Int), .int .i64 0] 60)).heap.size) := Nat.le_trans hz9 HB9.out.size; clear hown8 hgrow8 hf8 e0 e1 e2)) | (at_builtin; go_must (refine wpList_append_own _ rfl (.tmp 54) (.tmp 56) 55 rfl (p + 1) 60 i0 (.agg #[.int .i64 0, .int .i64 0, .int .i64 0]) 3 24 Try.underlying55 hi0 hz0 hz1 hz2 rfl (by decide) (.slice av l.length cv) l.length (cellsK l) rfl HO9.out ⟨w8.heap.size, 0, none⟩ 1 1 (K.cells ⟨lb, la, 0⟩) rfl rfl HNW.out (oneK _) (by unfold maxLen; omega) (by omega) HZ9.out ?_; intro v6 w6 hown6 hgrow6 hnil6; obtain ⟨g6, c6, hv6, hg6, hc6, _, hm6⟩ := own_shape hown6 (fun e => by have := hnil6.1 e; simp at this); subst hv6; rw [← cellsK_snoc, ← HLL.out] at hown6; have HM6 : Hid (MapK w6 p (nn + 1) (l ++ [⟨lb, la, 0⟩])) := HM9.out.kept hgrow6 (fun e => by have := (HO9.out.lt p e.symm).1; omega); have HB6 : Hid (Below p w w6) := HW9.out.grown hgrow6 (Nat.le_of_lt (Nat.lt_of_lt_of_le hz9 HB9.out.size)) (fun j hj => by have := (HO9.out.lt j hj).1; omega); have d1 : w6.cell? ⟨g6, l.length * 3 + 2, none⟩ = some (.int .i64 0) := (by have h := (rowK_atS hown6 l.length (by rw [HLL.out]; omega)).2.2; rw [getD_appR] at h; exact h); have d2 := World.ownsRow.frozenAt hown6 (l.length * 3 + 2); have HO7 : Hid ((w6.setCell ⟨g6, l.length * 3 + 2, none⟩ (.int .i64 1)).ownsRow (p + 1) 60 3 (.slice (some ⟨g6, 0, none⟩) ((l ++ [(⟨lb, la, 0⟩ : K)]).set l.length ⟨lb, la, 1⟩).length c6) ((l ++ [(⟨lb, la, 0⟩ : K)]).set l.length ⟨lb, la, 1⟩).length (cellsK ((l ++ [(⟨lb, la, 0⟩ : K)]).set l.length ⟨lb, la, 1⟩))) := own_setN (y := ⟨lb, la, 1⟩) hown6 (by rw [HLL.out]; omega) (by rw [getD_appR]) (by rw [getD_appR]); have HM7 := Lib.hid ((HM6.out.set (n := 1) (i := l.length) (x := lb) (y := la) (by rw [HLL.out]; omega) (by rw [getD_appR]) (by rw [getD_appR])).cell (a := ⟨g6, l.length * 3 + 2, none⟩) (.int .i64 1) (by show p ≠ g6; omega)); rw [set_appR] at HO7 HM7; have hc6' : ((l.length : Int) + 1) ≤ c6 := (by omega); clear hown6 hgrow6 hnil6)))
            refine ⟨⟨k + 1, nn + 1, some ⟨g6, 0, none⟩, c6, l ++ [⟨lb, la, 1⟩], by omega, by omega, by simp, by simp, by simp; omega, HLN, HSN, HM7, ?_, Lib.hid (HB6.out.setCell (by show p ≤ g6; omega) _)⟩, by simp [intOf]; omega⟩
            exact HO7
    · obtain rfl : k = P.length := by omega
      have hlk' : ¬ (P.length : Int) < P.length := by omega
      rw [List.take_length] at HLK
      go_wp2_with fail
      go_ret
      exact ⟨av, cv, l, rfl, own_base HOW.out (by omega), HLK, hlk0, HBW.out⟩
end Go.Proofs.Ytchfccbneedejaa
namespace Go.Proofs.Ytchfccbneedejaa
open Go.RowKit
theorem one_I (xs : List Int) : ∀ u ∈ cellsI xs, u.oneCell' = true := by
  intro u hu
  unfold cellsI at hu
  obtain ⟨x, _, rfl⟩ := List.mem_map.1 hu
  rfl
theorem ints_newsC {w : World} {ad : Addr} {xs : List Int} (h : Ints w (some ad) xs) (o : Obj) : ∀ j u, (cellsI xs)[j]? = some u → (w.alloc o).cell? (ad.add j) = some u := by
  intro j u hu
  rcases h with rfl | ⟨b, o', hab, hl, hc⟩
  · simp [cellsI] at hu
  · cases hab
    have hj : j < xs.length := by
      rcases Nat.lt_or_ge j xs.length with h' | h'
      · exact h'
      · rw [List.getElem?_eq_none (by rw [cellsI_len]; exact h')] at hu; cases hu
    rw [cellsI_getD xs j hj] at hu
    rw [Go.WideShapes.add_plain]
    exact ((((Below.refl w.heap.size w).alloc (Nat.le_refl _) o).cell (p := ⟨b, o' + j, none⟩) hl).trans (hc j hj)).trans hu
set_option maxRecDepth 100000 in
set_option maxHeartbeats 800000 in
theorem clone_any (ad : Addr) (xs : List Int) (bc : Nat) (w : World) (hl : xs.length ≤ 1024) (hi : Ints w (some ad) xs) :
    Calls Try.prog 28 #[.slice (some ad) xs.length bc] w fun e w' => ∃ g c, e = .returned (.slice (some ⟨g, 0, none⟩) xs.length c) ∧ w'.ownsRow w.heap.size 3 1 (.slice (some ⟨g, 0, none⟩) xs.length c) xs.length (cellsI xs) ∧ Below w.heap.size w w' := by
  obtain ⟨i3, hi3, hz3, hs3, hby3⟩ := info_parts info3
  have HNW := Lib.hid (ints_newsC hi (.cells #[] 3))
  have HOW : Hid ((w.alloc (.cells #[] 3)).ownsRow w.heap.size 3 1 (.slice (some ⟨w.heap.size, 0, none⟩) 0 0) 0 []) := World.ownsRow_lit (base := w.heap.size) (e := 3) (size := 1) w #[] 0 (Nat.le_refl _) (by decide) rfl
  have HBB : Hid (Below w.heap.size w (w.alloc (.cells #[] 3))) := (Below.refl _ _).alloc (Nat.le_refl _) _
  have HCL : Hid ((cellsI xs).length = xs.length * 1) := by show _ = _; rw [cellsI_len]; omega
  have q25 : ∀ (w : World) (a : Option Addr) (n c n' c' : Nat), (binOp .eql 25 (.slice a n c) (.slice none n' c')).run Try.prog w = .ok (.bool a.isNone) w := fun w a n c n' c' => Lib.run_eql_slice_nil w _ _ a n c n' c' Try.underlying25
  go_enter Try.func28, Try.ntmps28
  go_wp2_with (at_builtin; refine wpList_append_own _ rfl (.tmp 5) (.tmp 6) 25 rfl w.heap.size 3 i3 (.int .i64 0) 1 8 Try.underlying25 hi3 hz3 hs3 hby3 rfl (by decide) (.slice (some ⟨w.heap.size, 0, none⟩) 0 0) 0 [] rfl HOW.out ad xs.length bc (cellsI xs) rfl HCL.out HNW.out (one_I _) (by unfold maxLen; omega) (by omega) (by simp) ?_; intro v6 w6 hown6 hgrow6 hnil6; obtain ⟨g6, c6, hv6, _, _, _, _⟩ := own_shape hown6 (fun e => by have := hnil6.1 e; simp at this); rw [hv6] at hown6 ⊢; clear hnil6 hv6; simp only [Nat.zero_add, List.nil_append] at hown6 ⊢; have HO6 := Lib.hid hown6; have HB6 : Hid (Below w.heap.size w w6) := HBB.out.grown hgrow6 (by simp) (by intro k hk; cases hk; exact Nat.le_refl _); clear hown6 hgrow6)
  go_ret
  exact ⟨g6, c6, rfl, HO6.out, HB6.out⟩
theorem right_ints {xs : List Int} (h : tdy xs 0 = true) : xs = ints (xs.map Int.toNat) := by
  apply List.ext_getElem
  · rw [ints_len, List.length_map]
  · intro i h1 h2
    have h3 := (right_next h i h1).1
    rw [show xs.getD i 0 = xs[i] by simp [List.getD, List.getElem?_eq_getElem h1]] at h3
    simp only [ints, List.getElem_map]
    omega
theorem cuS_le {l : List A} {L S : List Nat} {bd k : Nat} (h : S.getD k 0 ≤ bd) : cuS l L S bd (k + 1) = cuS l L S bd k := if_pos h
theorem cuS_gt {l : List A} {L S : List Nat} {bd k : Nat} (h : ¬ S.getD k 0 ≤ bd) : cuS l L S bd (k + 1) = (asg (cuS l L S bd k).1 (orL l L k) (cuS l L S bd k).2 bd (orL l L k).length, (cuS l L S bd k).2 + ((orL l L k).length - 1) / bd + 1) := if_neg h
theorem cu_next {l : List A} {L S : List Nat} {bd c : Nat} (hb : ∀ k, bd < S.getD k 0 → (orL l L k).length + 1 ≤ c) : ∀ k, (cuS l L S bd k).2 ≤ S.length + k * c
  | 0 => Nat.le_add_right _ _
  | k + 1 => by
    have ih := cu_next hb k
    have e : (k + 1) * c = k * c + c := Nat.succ_mul k c
    rw [e]
    generalize k * c = kc at ih ⊢
    by_cases h : S.getD k 0 ≤ bd
    · rw [cuS_le h]; omega
    · rw [cuS_gt h]
      have h1 := hb k (by omega)
      have h2 : ((orL l L k).length - 1) / bd ≤ (orL l L k).length - 1 := Nat.div_le_self _ _
      show (cuS l L S bd k).2 + ((orL l L k).length - 1) / bd + 1 ≤ _
      generalize ((orL l L k).length - 1) / bd = q at h2 ⊢
      omega
theorem asg_le {P M : List Nat} {nx bd m : Nat} (hP : ∀ u, u ∈ P → u ≤ m) : ∀ k, (∀ j, j < k → nx + j / bd ≤ m) → ∀ u, u ∈ asg P M nx bd k → u ≤ m
  | 0, _, u, hu => hP u hu
  | k + 1, h, u, hu => by
    rcases List.mem_or_eq_of_mem_set hu with h1 | h1
    · exact asg_le hP k (fun j hj => h j (by omega)) u h1
    · rw [h1]; exact h k (by omega)
theorem cuS_mem {l : List A} {L S : List Nat} {bd m c : Nat} (hb : ∀ k, bd < S.getD k 0 → (orL l L k).length + 1 ≤ c) (hL : ∀ u, u ∈ L → u ≤ m) : ∀ k, S.length + k * c ≤ m → ∀ u, u ∈ (cuS l L S bd k).1 → u ≤ m
  | 0, _, u, hu => hL u hu
  | k + 1, hm, u, hu => by
    have e : (k + 1) * c = k * c + c := Nat.succ_mul k c
    rw [e] at hm
    have ih := cuS_mem (bd := bd) hb hL k (by omega)
    by_cases h : S.getD k 0 ≤ bd
    · rw [cuS_le h] at hu; exact ih u hu
    · rw [cuS_gt h] at hu
      have h1 := hb k (by omega)
      have h2 := cu_next hb k
      refine asg_le ih _ (fun j hj => ?_) u hu
      have h3 : j / bd ≤ j := Nat.div_le_self _ _
      generalize j / bd = q at h3 ⊢
      generalize k * c = kc at hm h2
      omega
theorem asg_last {P M : List Nat} {nx bd k : Nat} (hk : M.getD k 0 < P.length) : (asg P M nx bd (k + 1)).getD (M.getD k 0) 0 = nx + k / bd := by
  show ((asg P M nx bd k).set (M.getD k 0) (nx + k / bd)).getD (M.getD k 0) 0 = _
  rw [getD_setN (by rw [asg_len]; exact hk), if_pos rfl]
end Go.Proofs.Ytchfccbneedejaa
