/-
  The contract of natcut.checkMarks. A set of pairs: a map whose keys are structs. The contract of markedPairs.add. While takeFrom goes. The contract of markedPairs.takeFrom.
-/
import Derived.Test.YtpgadcacimjlaabZB
import Derived.Test.YtpgadcacimjlaabZE
import Derived.Maps.OwnSet
import Derived.Maps.OwnOps
import Derived.DeepKeys4
import Derived.Test.YtpgadcacimjlaabZF
import Derived.Maps.AppendAt
import Derived.Test.YtpgadcacimjlaabZG
namespace Go.Proofs.Ytpgadcacimjlaab
open Go.RowKit Go.Maps
theorem laidT : laidOutB Try.prog = true := by kernel_rfl
theorem row41 : (36 : TypeId) < Try.prog.types.size := of_decide_eq_true (by kernel_rfl)
theorem wide41 : (match Try.prog.underlying 36 with | some (.array _ _) | some (.struct _) => true | _ => false) = true := by rw [Try.underlying36]
set_option maxRecDepth 100000 in
theorem lawP : Keyed Try.prog 36 := Keyed.of_law (deep_law_laid laidT (m := 2) (by omega) row41 (by kernel_rfl) wide41)
/-- What a pair reads as. -/
def kP (p : Pr) : Lit := .string (keyBytes [.int .i64 (p.a : Int), .int .i64 (p.b : Int)])
theorem keyType41 : Try.prog.keyType 36 = true := by kernel_rfl
theorem cells41 : Try.prog.cellsOf 36 = 2 := by kernel_rfl
theorem cells3 : Try.prog.cellsOf 3 = 1 := by kernel_rfl
theorem size_types : ∃ k, Try.prog.types.size + 1 = k + 2 := by
  have h : (36 : Nat) < Try.prog.types.size := row41
  exact ⟨Try.prog.types.size - 1, by omega⟩
theorem formedP (x y : Value) : (Value.agg #[x, y]).formed Try.prog 36 = true := by simp [Value.formed, Try.underlying36, cells41]
theorem wf64 {x : Int} (h0 : 0 ≤ x) (h : x ≤ 9223372036854775807) : (Lit.int .i64 x).wf = true := WalkArith.wf_i64 (by omega)
theorem keyOfP (p : Pr) (ha : p.a ≤ 9223372036854775807) (hb : p.b ≤ 9223372036854775807) : keyOf Try.prog 36 (.agg #[.int .i64 (p.a : Int), .int .i64 (p.b : Int)]) = some (kP p) := by
  obtain ⟨k, hk⟩ := size_types
  have w1 := wf64 (x := (p.a : Int)) (by omega) (by omega)
  have w2 := wf64 (x := (p.b : Int)) (by omega) (by omega)
  unfold keyOf
  rw [Try.underlying36, hk]
  simp only [keyType41, formedP, Bool.and_self, if_true]
  simp [Program.keyLits, Try.underlying36, Try.underlying3, cells41, cells3, Value.cells, w1, w2, kP]
theorem kP_inj {p q : Pr} (hpa : p.a ≤ 9223372036854775807) (hpb : p.b ≤ 9223372036854775807) (hqa : q.a ≤ 9223372036854775807) (hqb : q.b ≤ 9223372036854775807) (h : kP p = kP q) : p = q := by
  have h1 := lawP.inj (keyOfP p hpa hpb) (h ▸ keyOfP q hqa hqb)
  simp only [Value.agg.injEq, Array.mk.injEq, List.cons.injEq, Value.int.injEq, and_true, true_and] at h1
  cases p; cases q
  simp only [Pr.mk.injEq] at *
  omega
theorem zero85 (w : World) : (zeroValue 72).run Try.prog w = .ok (.agg #[]) w := by kernel_rfl
/-- A pair of vertices. -/
def Sm (p : Pr) : Prop := p.a < 1024 ∧ p.b < 1024
theorem Sm.key {p : Pr} (h : Sm p) : keyOf Try.prog 36 (.agg #[.int .i64 (p.a : Int), .int .i64 (p.b : Int)]) = some (kP p) := keyOfP p (by have := h.1; omega) (by have := h.2; omega)
theorem Sm.ne {p q : Pr} (hp : Sm p) (hq : Sm q) (h : p ≠ q) : kP p ≠ kP q := fun e => h (kP_inj (by have := hp.1; omega) (by have := hp.2; omega) (by have := hq.1; omega) (by have := hq.2; omega) e)
theorem Sm.lit {p : Pr} (h : Sm p) : WideAt.IsKeyLit (kP p) := lawP.key h.key
/-- Block b is a map whose keys are the pairs of S. -/
def MapS (w : World) (b n : Nat) (S : List Pr) : Prop := ∃ D : DataW Unit, w.ownsMap Try.prog 36 (unitElem (H := Unit)) b n D ∧ ∀ p, Sm p → Maps.has D (kP p) = decide (p ∈ S)
theorem MapS.made (w : World) : MapS (w.alloc (.map #[] 0)) w.heap.size 0 [] := ⟨_, World.ownsMap_made _ _ _ _, fun p _ => by simp [Maps.has]⟩
theorem MapS.put {D : DataW Unit} {S : List Pr} {q : Pr} (hD : IsMap D) (h : ∀ p, Sm p → Maps.has D (kP p) = decide (p ∈ S)) (hq : Sm q) : ∀ p, Sm p → Maps.has (D.put (kP q) (.agg [])) (kP p) = decide (p ∈ S ++ [q]) := fun p hp => by
  by_cases e : p = q
  · subst e
    rw [has_put_same hD hp.lit]
    simp
  · rw [has_put_other (hp.ne hq e), h p hp]
    simp [e]
theorem MapS.del {D : DataW Unit} {S : List Pr} {q : Pr} (h : ∀ p, Sm p → Maps.has D (kP p) = decide (p ∈ S)) (hq : Sm q) : ∀ p, Sm p → Maps.has (D.del (kP q)) (kP p) = decide (p ∈ S.filter (fun x => !decide (x = q))) := fun p hp => by
  by_cases e : p = q
  · subst e
    rw [has_del_same]
    simp
  · rw [has_del_other (hp.ne hq e), h p hp]
    simp [e]
theorem MapS.none {D : DataW Unit} {S : List Pr} (hD : IsMap D) (h : ∀ p, Sm p → Maps.has D (kP p) = decide (p ∈ S)) (h0 : Maps.size D = 0) : ∀ p, Sm p → p ∉ S := fun p hp hm => by
  obtain ⟨es, rfl⟩ := hD
  rw [size_eq] at h0
  have : es = [] := List.eq_nil_of_length_eq_zero h0
  subst this
  have := h p hp
  simp [Maps.has, hm] at this
end Go.Proofs.Ytpgadcacimjlaab
namespace Go.Proofs.Ytpgadcacimjlaab
open Go.RowKit Go.Maps
theorem gby_refl (w : World) (row : Option Nat) : w.grownBy w row := ⟨rfl, rfl, rfl, Nat.le_refl _, fun _ _ _ => rfl⟩
/-- Pairs that lie outside of a block. -/
def PrsN (w : World) (a : Option Addr) (l : List Pr) (b : Nat) : Prop := l = [] ∨ ∃ g o, a = some ⟨g, o, none⟩ ∧ g < w.heap.size ∧ g ≠ b ∧ ∀ j, j < l.length → (l.getD j Pr.zero).at w g (o + j * 2)
theorem PrsN.get {w : World} {a : Option Addr} {l : List Pr} {b : Nat} (h : PrsN w a l b) : ∃ g o, 0 < l.length → a = some ⟨g, o, none⟩ ∧ g < w.heap.size ∧ g ≠ b ∧ ∀ j, j < l.length → (l.getD j Pr.zero).at w g (o + j * 2) := by
  rcases h with rfl | ⟨g, o, h⟩
  · exact ⟨0, 0, fun h => absurd h (by simp)⟩
  · exact ⟨g, o, fun _ => h⟩
theorem Prs.off {w0 w : World} {a : Option Addr} {l : List Pr} {b : Nat} (h : Prs w0 a l) (hw : Below w0.heap.size w0 w) (hb : w0.heap.size ≤ b) : PrsN w a l b := by
  rcases h.on hw with h1 | ⟨g, o, rfl, hl, hc⟩
  · exact .inl h1
  · rcases h with h1 | ⟨g', o', e, hl', _⟩
    · exact .inl h1
    · injection e with e
      injection e with e1 e2
      subst e1
      exact .inr ⟨g, o, rfl, hl, by omega, hc⟩
theorem Pr.at.grown {x : Pr} {w w' : World} {g o b : Nat} (h : x.at w g o) (hg : w.grownBy w' (some b)) (hl : g < w.heap.size) (hb : g ≠ b) : x.at w' g o := by
  have e := hg.block g hl (by simpa using hb)
  exact ⟨(World.cell?_of_block (a := ⟨g, o, none⟩) e).trans h.1, (World.cell?_of_block (a := ⟨g, o + 1, none⟩) e).trans h.2⟩
theorem PrsN.grown {w w' : World} {a : Option Addr} {l : List Pr} {b : Nat} (h : PrsN w a l b) (hg : w.grownBy w' (some b)) : PrsN w' a l b := by
  rcases h with h1 | ⟨g, o, e, hl, hb, hc⟩
  · exact .inl h1
  · exact .inr ⟨g, o, e, Nat.lt_of_lt_of_le hl hg.size, hb, fun j hj => (hc j hj).grown hg hl hb⟩
set_option maxRecDepth 100000 in
set_option maxHeartbeats 800000 in
theorem add_any (w : World) (b n : Nat) (S ms : List Pr) (a : Option Addr) (c : Nat) (hml : ms.length ≤ 16384) (hn : n ≤ 1000000000000) (hsm : ∀ p, p ∈ ms → Sm p) (hps : PrsN w a ms b) (hm : MapS w b n S) :
    Calls Try.prog 15 #[.map (some b), .slice a ms.length c] w fun e w' => e = .returned (.tuple #[]) ∧ MapS w' b (n + ms.length) (S ++ ms) ∧ w.grownBy w' (some b) := by
  obtain ⟨ix, ox, hix⟩ := hps.get
  have HIX := Lib.hid hix
  have HSM := Lib.hid hsm
  have HM := Lib.hid hm
  clear hix hps hsm hm
  go_enter Try.func15, Try.ntmps15
  go_wp2_with fail
  go_loopw [8] (fun i wr => ∃ (k : Nat), k ≤ ms.length ∧ i = .int .i64 k ∧ Hid (MapS wr b (n + k) (S ++ ms.take k)) ∧ Hid (w.grownBy wr (some b))) (fun i _ => ms.length - (intOf i).toNat)
  case atStart => exact ⟨0, Nat.zero_le _, rfl, by rw [List.take_zero, List.append_nil]; exact HM, gby_refl _ _⟩
  case round =>
    obtain ⟨k, hk, rfl, HMR, HBR⟩ := hrel
    by_cases hlk : k < ms.length
    · obtain ⟨rfl, hbl, hbn, hat⟩ := HIX.out (by omega)
      have hlk' : (k : Int) < ms.length := by omega
      obtain ⟨y0, y1⟩ := (hat k hlk).grown HBR.out hbl hbn
      have HTS := Lib.hid (take_snocP hlk)
      have HSX := Lib.hid (HSM.out _ (getD_memP hlk))
      clear hat
      generalize ms.getD k Pr.zero = x at *
      obtain ⟨⟨b0, b1⟩, _⟩ := two_cells (heap_top wr (.cells #[.int .i64 (x.a : Int), .int .i64 (x.b : Int)] 36))
      obtain ⟨D, hown, hhas⟩ := HMR.out
      have HOW := Lib.hid (hown.alloc (.cells #[.int .i64 (x.a : Int), .int .i64 (x.b : Int)] 36))
      have HPU := Lib.hid (MapS.put hown.isMap hhas HSX.out)
      have HBA : Hid (w.grownBy (wr.alloc (.cells #[.int .i64 (x.a : Int), .int .i64 (x.b : Int)] 36)) (some b)) := HBR.out.trans (World.grownBy_alloc _ _ _)
      have HKX := Lib.hid HSX.out.key
      clear hown hhas
      go_wp2_with (at_mapUpdate; refine wpList_mapUpdate_own _ rfl _ _ _ 49 rfl 36 72 lawP Try.underlying49 (unitElem (H := Unit)) b (n + k) D rfl HOW.out (by unfold maxLen; omega) _ _ (kP x) rfl rfl HKX.out (.agg []) [] unitElem_mk ?_; intro w1 hown1 hgrow1; have HO1 := Lib.hid hown1; have HB1 := Lib.hid (HBA.out.trans hgrow1); clear hown1 hgrow1)
      refine ⟨⟨k + 1, by omega, by simp, ?_, HB1⟩, by simp [intOf]; omega⟩
      rw [HTS.out, ← List.append_assoc]
      exact ⟨_, HO1.out, HPU.out⟩
    · obtain rfl : k = ms.length := by omega
      have hlk' : ¬ (ms.length : Int) < ms.length := by omega
      rw [List.take_length] at HMR
      go_wp2_with fail
      go_end0
      exact ⟨rfl, HMR.out, HBR.out⟩
end Go.Proofs.Ytpgadcacimjlaab
namespace Go.Proofs.Ytpgadcacimjlaab
open Go.RowKit Go.Maps
structure Tk (wr w0 : World) (b n B : Nat) (D : DataW Unit) (T O : List Pr) (vt vo : Value) : Prop where
  own : wr.ownsMap Try.prog 36 (unitElem (H := Unit)) b n D
  tk : wr.ownsRow B 36 2 vt T.length (cellsP T)
  ot : wr.ownsRow B 36 2 vo O.length (cellsP O)
  ap : ∀ g, vt.ownBlock = some g → vo.ownBlock ≠ some g
  bl : w0.grownBy wr (some b)
  sz : B ≤ wr.heap.size
theorem gby_row {w0 wr w1 : World} {b : Nat} {row : Option Nat} (h : w0.grownBy wr (some b)) (hg : wr.grownBy w1 row) (hr : ∀ j, row = some j → w0.heap.size ≤ j) : w0.grownBy w1 (some b) :=
  ⟨hg.os.trans h.os, hg.tape.trans h.tape, hg.output.trans h.output, Nat.le_trans h.size hg.size, fun k hk hn => (hg.block k (Nat.lt_of_lt_of_le hk h.size) (fun e => by have := hr k e.symm; omega)).trans (h.block k hk hn)⟩
section
variable {wr w0 w1 : World} {b n B : Nat} {D : DataW Unit} {T O : List Pr} {vt vo : Value}
theorem Tk.alloc (h : Tk wr w0 b n B D T O vt vo) (_ : b < B) (o : Obj) : Tk (wr.alloc o) w0 b n B D T O vt vo := ⟨h.own.alloc o, h.tk.alloc o, h.ot.alloc o, h.ap, h.bl.trans (World.grownBy_alloc _ _ _), by have := h.sz; simp; omega⟩
theorem Tk.other (h : Tk wr w0 b n B D T O vt vo) (hb : b < B) (hB : w0.heap.size = B) {O' : List Pr} {v' : Value} {k : Nat} (hk : O'.length = k) (ho : w1.ownsRow B 36 2 v' k (cellsP O')) (hg : wr.grownBy w1 vo.ownBlock) (hl : v'.ownBlock = vo.ownBlock ∨ v'.ownBlock = some wr.heap.size) : Tk w1 w0 b n B D T O' vt v' := by
  refine ⟨h.own.kept hg (fun e => ?_), h.tk.kept hg ?_, hk ▸ ho, fun g hg1 hg2 => ?_, gby_row h.bl hg (fun j hj => ?_), Nat.le_trans h.sz hg.size⟩
  · have := (h.ot.lt b e.symm).1; omega
  · cases e : vt.ownBlock with
    | none => exact .inl rfl
    | some g => exact .inr (fun e2 => h.ap g e e2.symm)
  · rcases hl with e | e
    · exact h.ap g hg1 (e ▸ hg2)
    · have := (h.tk.lt g hg1).2
      rw [e] at hg2
      injection hg2 with hg2
      omega
  · have := (h.ot.lt j hj).1; omega
theorem Tk.taken (h : Tk wr w0 b n B D T O vt vo) (hb : b < B) (hB : w0.heap.size = B) {T' : List Pr} {v' : Value} {k : Nat} (hk : T'.length = k) (ho : w1.ownsRow B 36 2 v' k (cellsP T')) (hg : wr.grownBy w1 vt.ownBlock) (hl : v'.ownBlock = vt.ownBlock ∨ v'.ownBlock = some wr.heap.size) : Tk w1 w0 b n B D T' O v' vo := by
  refine ⟨h.own.kept hg (fun e => ?_), hk ▸ ho, h.ot.kept hg ?_, fun g hg1 hg2 => ?_, gby_row h.bl hg (fun j hj => ?_), Nat.le_trans h.sz hg.size⟩
  · have := (h.tk.lt b e.symm).1; omega
  · cases e : vo.ownBlock with
    | none => exact .inl rfl
    | some g => exact .inr (fun e2 => h.ap g e2.symm e)
  · rcases hl with e | e
    · exact h.ap g (e ▸ hg1) hg2
    · have := (h.ot.lt g hg2).2
      rw [e] at hg1
      injection hg1 with hg1
      omega
  · have := (h.tk.lt j hj).1; omega
theorem Tk.turned (h : Tk wr w0 b n B D T O vt vo) (hb : b < B) {D' : DataW Unit} (ho : w1.ownsMap Try.prog 36 (unitElem (H := Unit)) b n D') (ht : wr.mapTurned w1 b) : Tk w1 w0 b n B D' T O vt vo := by
  have hg := ht.grown
  refine ⟨ho, h.tk.kept hg (.inr fun e => ?_), h.ot.kept hg (.inr fun e => ?_), h.ap, h.bl.trans hg, Nat.le_trans h.sz hg.size⟩
  · have := (h.tk.lt b e).1; omega
  · have := (h.ot.lt b e).1; omega
end
/-- What is in the map when the first k have been looked at. -/
def Hs (D : DataW Unit) (S all : List Pr) (k : Nat) : Prop := ∀ p, Sm p → Maps.has D (kP p) = decide (p ∈ S ∧ p ∉ all.take k)
theorem nodup_at {all : List Pr} (hnd : all.Nodup) {k : Nat} (hk : k < all.length) : all.getD k Pr.zero ∉ all.take k := by
  have h := hnd
  rw [← List.take_append_drop k all] at h
  have hd : all.drop k = all.getD k Pr.zero :: all.drop (k + 1) := by
    rw [List.drop_eq_getElem_cons hk]
    simp [List.getD, List.getElem?_eq_getElem hk]
  rw [hd] at h
  intro hm
  exact (List.nodup_append.1 h).2.2 _ hm _ (by simp) rfl
theorem Hs.at {D : DataW Unit} {S all : List Pr} {k : Nat} (h : Hs D S all k) (hnd : all.Nodup) (hk : k < all.length) (hs : Sm (all.getD k Pr.zero)) : Maps.has D (kP (all.getD k Pr.zero)) = decide (all.getD k Pr.zero ∈ S) := by
  rw [h _ hs]
  simp only [nodup_at hnd hk, not_false_eq_true, and_true]
theorem Hs.stay {D : DataW Unit} {S all : List Pr} {k : Nat} (h : Hs D S all k) (hk : k < all.length) (hn : all.getD k Pr.zero ∉ S) : Hs D S all (k + 1) := fun p hp => by
  rw [h p hp, take_snocP hk]
  congr 1
  refine propext ⟨fun ⟨h1, h2⟩ => ⟨h1, fun hm => ?_⟩, fun ⟨h1, h2⟩ => ⟨h1, fun hm => h2 (List.mem_append.2 (.inl hm))⟩⟩
  rcases List.mem_append.1 hm with hm | hm
  · exact h2 hm
  · rw [List.mem_singleton] at hm
    exact hn (hm ▸ h1)
theorem Hs.gone {D : DataW Unit} {S all : List Pr} {k : Nat} (h : Hs D S all k) (hk : k < all.length) (hs : Sm (all.getD k Pr.zero)) : Hs (D.del (kP (all.getD k Pr.zero))) S all (k + 1) := fun p hp => by
  rw [take_snocP hk]
  by_cases e : p = all.getD k Pr.zero
  · rw [e, has_del_same]
    simp
  · rw [has_del_other (hp.ne hs e), h p hp]
    simp only [List.mem_append, List.mem_singleton, e, or_false]
theorem Hs.rest {D : DataW Unit} {S all : List Pr} {k : Nat} (h : Hs D S all k) (hD : IsMap D) (h0 : Maps.size D = 0) (hnd : all.Nodup) (hsm : ∀ p, p ∈ all → Sm p) : ∀ p, p ∈ all.drop k → p ∉ S := fun p hp hm => by
  obtain ⟨es, rfl⟩ := hD
  rw [size_eq] at h0
  have : es = [] := List.eq_nil_of_length_eq_zero h0
  subst this
  have h1 := h p (hsm p (List.mem_of_mem_drop hp))
  have h2 : p ∉ all.take k := fun ht => by
    have h3 := hnd
    rw [← List.take_append_drop k all] at h3
    exact (List.nodup_append.1 h3).2.2 _ ht _ hp rfl
  simp [Maps.has, hm, h2] at h1
end Go.Proofs.Ytpgadcacimjlaab
namespace Go.Proofs.Ytpgadcacimjlaab
open Go.RowKit Go.Maps
theorem drop_cells {W : World} {ps : List Pr} {ix ox k : Nat} (h : ∀ j, j < ps.length → (ps.getD j Pr.zero).at W ix (ox + j * 2)) : ∀ j u, (cellsP (ps.drop k))[j]? = some u → W.cell? ((⟨ix, ox + k * 2, none⟩ : Addr).add j) = some u := by
  intro j u hu
  have hj : j < (cellsP (ps.drop k)).length := (List.getElem?_eq_some_iff.1 hu).1
  rw [cellsP_len, List.length_drop] at hj
  obtain ⟨h1, h2⟩ := cellsP_at (ps.drop k) (j / 2) (by rw [List.length_drop]; omega)
  obtain ⟨z0, z1⟩ := h (k + j / 2) (by omega)
  have eg : (ps.drop k).getD (j / 2) Pr.zero = ps.getD (k + j / 2) Pr.zero := by simp [List.getD, List.getElem?_drop]
  rw [eg] at h1 h2
  rw [Go.WideShapes.add_plain]
  rcases Nat.mod_two_eq_zero_or_one j with e | e
  · rw [show j / 2 * 2 = j by omega, hu] at h1
    rw [show ox + k * 2 + j = ox + (k + j / 2) * 2 by omega, z0]
    exact h1.symm
  · rw [show j / 2 * 2 + 1 = j by omega, hu] at h2
    rw [show ox + k * 2 + j = ox + (k + j / 2) * 2 + 1 by omega, z1]
    exact h2.symm
set_option maxRecDepth 100000 in
set_option maxHeartbeats 3200000 in
theorem takeFrom_any (w : World) (b n : Nat) (S ps : List Pr) (a : Option Addr) (c : Nat) (hpl : ps.length ≤ 8192) (hcap : ps.length ≤ c) (hcm : c ≤ 9223372036854775807) (hnd : ps.Nodup) (hsm : ∀ p, p ∈ ps → Sm p) (hps : PrsN w a ps b) (hm : MapS w b n S) :
    Calls Try.prog 16 #[.map (some b), .slice a ps.length c] w fun e w' => ∃ vt ct vo co, e = .returned (.tuple #[.slice vt (ps.filter (fun p => decide (p ∈ S))).length ct, .slice vo (ps.filter (fun p => !decide (p ∈ S))).length co]) ∧ OwnP w' w.heap.size vt ct (ps.filter (fun p => decide (p ∈ S))) ∧ OwnP w' w.heap.size vo co (ps.filter (fun p => !decide (p ∈ S))) ∧ w.grownBy w' (some b) := by
  obtain ⟨ix, ox, hix⟩ := hps.get
  have HIX := Lib.hid hix
  have HSM := Lib.hid hsm
  have HND := Lib.hid hnd
  obtain ⟨D0, hown0, hhas0⟩ := hm
  obtain ⟨B, hB⟩ : ∃ B, w.heap.size = B := ⟨_, rfl⟩
  have hbB : b < B := hB ▸ hown0.lt
  have HTK : Hid (Tk w w b n B D0 [] [] (.slice none 0 0) (.slice none 0 0)) := ⟨hown0, World.ownsRow_nil _ _ _ _, World.ownsRow_nil _ _ _ _, (fun g h => by cases h), gby_refl _ _, by omega⟩
  have HH0 : Hid (Hs D0 S ps 0) := fun p hp => by rw [hhas0 p hp]; simp
  obtain ⟨f, HF⟩ := named (fun p : Pr => decide (p ∈ S))
  have HFN : Hid ((fun p : Pr => !decide (p ∈ S)) = fun p => !f p) := by show _ = _; rw [← HF.out]
  rw [HF.out, HFN.out, hB]
  have hcap' : (ps.length : Int) ≤ c := by omega
  have hcm' : (c : Int) ≤ 9223372036854775807 := by omega
  obtain ⟨i0, hi, hz0, hz1, hz2⟩ := info_parts info41
  clear hix hps hsm hnd hown0 hhas0
  go_enter Try.func16, Try.ntmps16
  go_wp2_with fail
  go_loopw [4, 5, 12] (fun s4 s5 i wr => ∃ (k : Nat) (D : DataW Unit) (vt vo : Value) (T O : List Pr), k ≤ ps.length ∧ i = .int .i64 k ∧ s4 = vt ∧ s5 = vo ∧ Hid (Tk wr w b n B D T O vt vo) ∧ Hid (Hs D S ps k) ∧ Hid (T = (ps.take k).filter f) ∧ Hid (O = (ps.take k).filter (fun p => !f p))) (fun _ _ i _ => ps.length - (intOf i).toNat)
  case atStart => exact ⟨0, D0, _, _, [], [], Nat.zero_le _, rfl, rfl, rfl, HTK, HH0, rfl, rfl⟩
  case round =>
    obtain ⟨k, D, vt, vo, T, O, hk, rfl, rfl, rfl, HTR, HHR, HT, HO⟩ := hrel
    obtain ⟨at1, ct, rfl⟩ := own_slice HTR.out.tk
    obtain ⟨ao1, co, rfl⟩ := own_slice HTR.out.ot
    by_cases hlk : k < ps.length
    · obtain ⟨rfl, hbl, hbn, hat⟩ := HIX.out (by omega)
      have hlk' : (k : Int) < ps.length := by omega
      have hkc : (k : Int) ≤ c := by omega
      obtain ⟨y0, y1⟩ := (hat k hlk).grown HTR.out.bl hbl hbn
      have HSX := Lib.hid (HSM.out _ (getD_memP hlk))
      have HAT := Lib.hid (HHR.out.at HND.out hlk HSX.out)
      have HST := Lib.hid (HHR.out.stay hlk)
      have HGO := Lib.hid (HHR.out.gone hlk HSX.out)
      have HFT := Lib.hid (filter_snocP (f := f) hlk)
      have HFO := Lib.hid (filter_snocP (f := fun p => !f p) hlk)
      have HTO : Hid (T.length ≤ 8192 ∧ O.length ≤ 8192) := by
        refine ⟨?_, ?_⟩
        · rw [HT.out]; exact Nat.le_trans (List.length_filter_le _ _) (by rw [List.length_take]; omega)
        · rw [HO.out]; exact Nat.le_trans (List.length_filter_le _ _) (by rw [List.length_take]; omega)
      have HFX : Hid (f (ps.getD k Pr.zero) = decide (ps.getD k Pr.zero ∈ S)) := by show _ = _; rw [← HF.out]
      have HPA : Hid (∀ j, j < ps.length → (ps.getD j Pr.zero).at (wr.alloc (.cells #[.int .i64 ((ps.getD k Pr.zero).a : Int), .int .i64 ((ps.getD k Pr.zero).b : Int)] 36)) ix (ox + j * 2)) := fun j hj => by
        have hbw := (HTR.out.alloc hbB (.cells #[.int .i64 ((ps.getD k Pr.zero).a : Int), .int .i64 ((ps.getD k Pr.zero).b : Int)] 36)).bl
        exact (hat j hj).grown hbw hbl hbn
      clear hat
      generalize ps.getD k Pr.zero = x at *
      obtain ⟨⟨b0, b1⟩, _⟩ := two_cells (heap_top wr (.cells #[.int .i64 (x.a : Int), .int .i64 (x.b : Int)] 36))
      have HT1 := Lib.hid (HTR.out.alloc hbB (.cells #[.int .i64 (x.a : Int), .int .i64 (x.b : Int)] 36))
      have HKX := Lib.hid HSX.out.key
      by_cases hs0 : Maps.size D = 0
      · have hs1 : ((Maps.size D : Nat) : Int) = 0 := by omega
        have HRS := Lib.hid (HHR.out.rest HTR.out.own.isMap hs0 HND.out HSM.out)
        have HDL : Hid ((cellsP (ps.drop k)).length = (ps.length - k) * 2) := by show _ = _; rw [cellsP_len, List.length_drop]
        have HNW := Lib.hid (drop_cells (W := wr.alloc (.cells #[.int .i64 (x.a : Int), .int .i64 (x.b : Int)] 36)) (k := k) (fun j hj => HPA.out j hj))
        obtain ⟨hTl, hOl⟩ := HTO.out
        have HCA : Hid (cellsP O ++ cellsP (ps.drop k) = cellsP (ps.filter (fun p => !f p)) ∧ (ps.filter (fun p => !f p)).length = O.length + (ps.length - k) ∧ T = ps.filter f) := by
          have e1 : (ps.drop k).filter (fun p => !f p) = ps.drop k := List.filter_eq_self.2 (fun p hp => by rw [← HF.out]; simpa using HRS.out p hp)
          have e2 : (ps.drop k).filter f = [] := List.filter_eq_nil_iff.2 (fun p hp => by rw [← HF.out]; simpa using HRS.out p hp)
          have e3 : ps.filter (fun p => !f p) = O ++ ps.drop k := by
            conv => lhs; rw [← List.take_append_drop k ps]
            rw [List.filter_append, e1, HO.out]
          have e4 : ps.filter f = T := by
            conv => lhs; rw [← List.take_append_drop k ps]
            rw [List.filter_append, e2, List.append_nil, HT.out]
          refine ⟨by rw [e3, cellsP_append], by rw [e3, List.length_append, List.length_drop], e4.symm⟩
        clear hs0
        go_wp2_with (first | (at_len; refine wpList_len_own _ rfl _ 49 rfl 36 72 Try.underlying49 (unitElem (H := Unit)) b n D rfl HT1.out.own ?_; rw [hs1]) | (at_builtin; refine wpList_append_own_at _ rfl (.tmp 21) (.tmp 24) 28 rfl B 36 i0 _ 2 16 Try.underlying28 hi hz0 hz1 hz2 rfl (by decide) _ O.length (cellsP O) rfl HT1.out.ot ⟨ix, ox + k * 2, none⟩ (ps.length - k) (c - k) (cellsP (ps.drop k)) rfl HDL.out HNW.out (cellsP_one _) (by unfold maxLen; omega) (by omega) HT1.out.sz ?_; intro v7 w7 hown7 hgrow7 hnil7 hloc7; rw [HCA.out.1, ← HCA.out.2.1] at hown7; obtain ⟨a7, c7, rfl⟩ := own_slice hown7; have HT7 := Lib.hid (HT1.out.other hbB hB rfl hown7 hgrow7 hloc7); clear hown7 hgrow7 hnil7 hloc7))
        go_ret2
        refine ⟨at1, ct, a7, c7, ?_, ?_, HT7.out.ot, HT7.out.bl⟩
        · rw [← HCA.out.2.2]; rfl
        · rw [← HCA.out.2.2]; exact HT7.out.tk
      · have hs1 : (((Maps.size D : Nat) : Int) == 0) = false := by simp; omega
        obtain ⟨hTl, hOl⟩ := HTO.out
        have HT2 := Lib.hid (HT1.out.alloc hbB (.cells #[] 72))
        have c2 : ((wr.alloc (.cells #[.int .i64 (x.a : Int), .int .i64 (x.b : Int)] 36)).alloc (.cells #[] 72)).heap[wr.heap.size]? = some (.cells #[.int .i64 (x.a : Int), .int .i64 (x.b : Int)] 36) := (Below.heap_alloc _ _ _ (by simp)).trans (heap_top wr _)
        obtain ⟨⟨d0, d1⟩, _⟩ := two_cells c2
        have hwb : b < wr.heap.size := Nat.lt_of_lt_of_le hbB HTR.out.sz
        generalize hhx : Maps.has D (kP x) = hx at *
        cases hx
        · have HNS : Hid (x ∉ S) := by show x ∉ S; exact of_decide_eq_false HAT.out.symm
          have hfx : f x = false := by rw [HFX.out]; simpa using HNS.out
          have HL1 : Hid ((ps.take (k + 1)).filter f = T) := by show _ = _; rw [HFT.out, HT.out, hfx]; simp
          have HL2 : Hid ((ps.take (k + 1)).filter (fun p => !f p) = O ++ [⟨x.a, x.b⟩]) := by show _ = _; rw [HFO.out, HO.out, hfx]; simp
          have hnw := news1 ((wr.alloc (.cells #[.int .i64 (x.a : Int), .int .i64 (x.b : Int)] 36)).alloc (.cells #[] 72)) x.a x.b
          rw [World.size_alloc, World.size_alloc] at hnw
          have HNW := Lib.hid hnw
          have HT3 := Lib.hid (HT2.out.alloc hbB (.cells #[.int .i64 (x.a : Int), .int .i64 (x.b : Int)] 36))
          clear hnw hfx
          go_wp2_with (first | (at_len; refine wpList_len_own _ rfl _ 49 rfl 36 72 Try.underlying49 (unitElem (H := Unit)) b n D rfl HT1.out.own ?_) | (at_lookup; refine wpList_lookup_own_unit _ rfl _ _ 49 rfl 36 72 lawP Try.underlying49 (zero85 _) b n D rfl HT1.out.own _ (kP x) rfl HKX.out ?_; rw [hhx]) | (at_builtin; refine wpList_append_own_at _ rfl (.tmp 34) (.tmp 36) 28 rfl B 36 i0 _ 2 16 Try.underlying28 hi hz0 hz1 hz2 rfl (by decide) _ O.length (cellsP O) rfl HT3.out.ot ⟨wr.heap.size + 1 + 1, 0, none⟩ 1 1 (cellsP [⟨x.a, x.b⟩]) rfl rfl HNW.out (cellsP_one _) (by unfold maxLen; omega) (by omega) HT3.out.sz ?_; intro v7 w7 hown7 hgrow7 hnil7 hloc7; rw [← cellsP_append] at hown7; have HT7 := Lib.hid (HT3.out.other hbB hB (by simp) hown7 hgrow7 hloc7); clear hown7 hgrow7 hnil7 hloc7))
          exact ⟨⟨k + 1, D, _, _, T, O ++ [⟨x.a, x.b⟩], by omega, by simp, rfl, rfl, HT7, Lib.hid (HST.out HNS.out), Lib.hid HL1.out.symm, Lib.hid HL2.out.symm⟩, by simp [intOf]; omega⟩
        · have HNS : Hid (x ∈ S) := by show x ∈ S; exact of_decide_eq_true HAT.out.symm
          have hfx : f x = true := by rw [HFX.out]; simpa using HNS.out
          have HL1 : Hid ((ps.take (k + 1)).filter f = T ++ [⟨x.a, x.b⟩]) := by show _ = _; rw [HFT.out, HT.out, hfx]; simp
          have HL2 : Hid ((ps.take (k + 1)).filter (fun p => !f p) = O) := by show _ = _; rw [HFO.out, HO.out, hfx]; simp
          clear hfx
          go_wp2_with (first | (at_len; refine wpList_len_own _ rfl _ 49 rfl 36 72 Try.underlying49 (unitElem (H := Unit)) b n D rfl HT1.out.own ?_) | (at_lookup; refine wpList_lookup_own_unit _ rfl _ _ 49 rfl 36 72 lawP Try.underlying49 (zero85 _) b n D rfl HT1.out.own _ (kP x) rfl HKX.out ?_; rw [hhx]) | (at_delete; refine wpList_delete_own _ rfl _ _ 49 36 rfl 72 lawP Try.underlying49 (unitElem (H := Unit)) b n D rfl HT2.out.own _ (kP x) rfl HKX.out ?_; intro w3 hown3 hturn3; have HT3 := Lib.hid (HT2.out.turned hbB hown3 hturn3); have g3 := (hturn3.grown.block wr.heap.size (by simp; omega) (by simp; omega)).trans c2; obtain ⟨⟨q0, q1⟩, _⟩ := two_cells g3; have HNW := Lib.hid (news1 w3 x.a x.b); have HT4 := Lib.hid (HT3.out.alloc hbB (.cells #[.int .i64 (x.a : Int), .int .i64 (x.b : Int)] 36)); clear hown3 hturn3 g3) | (at_builtin; refine wpList_append_own_at _ rfl (.tmp 40) (.tmp 42) 28 rfl B 36 i0 _ 2 16 Try.underlying28 hi hz0 hz1 hz2 rfl (by decide) _ T.length (cellsP T) rfl HT4.out.tk ⟨w3.heap.size, 0, none⟩ 1 1 (cellsP [⟨x.a, x.b⟩]) rfl rfl HNW.out (cellsP_one _) (by unfold maxLen; omega) (by omega) HT4.out.sz ?_; intro v7 w7 hown7 hgrow7 hnil7 hloc7; rw [← cellsP_append] at hown7; have HT7 := Lib.hid (HT4.out.taken hbB hB (by simp) hown7 hgrow7 hloc7); clear hown7 hgrow7 hnil7 hloc7))
          exact ⟨⟨k + 1, D.del (kP x), _, _, T ++ [⟨x.a, x.b⟩], O, by omega, by simp, rfl, rfl, HT7, HGO, Lib.hid HL1.out.symm, Lib.hid HL2.out.symm⟩, by simp [intOf]; omega⟩
    · have e0 : ps.take k = ps := List.take_of_length_le (by omega)
      have hlk' : ¬ (k : Int) < ps.length := by omega
      rw [e0] at HT HO
      clear e0
      go_wp2_with fail
      go_ret2
      refine ⟨at1, ct, ao1, co, ?_, ?_, ?_, HTR.out.bl⟩
      · rw [← HT.out, ← HO.out]; rfl
      · rw [← HT.out]; exact HTR.out.tk
      · rw [← HO.out]; exact HTR.out.ot
end Go.Proofs.Ytpgadcacimjlaab
namespace Go.Proofs.Ytpgadcacimjlaab
open Go.RowKit
/-- A pair as it is given. -/
structure Pi2 where
  a : Int
  b : Int
def Pi2.zero : Pi2 := ⟨0, 0⟩
def Pi2.at (p : Pi2) (w : World) (b o : Nat) : Prop := w.cell? ⟨b, o, none⟩ = some (.int .i64 p.a) ∧ w.cell? ⟨b, o + 1, none⟩ = some (.int .i64 p.b)
def PrI (w : World) (a : Option Addr) (l : List Pi2) : Prop := l = [] ∨ ∃ b o, a = some ⟨b, o, none⟩ ∧ b < w.heap.size ∧ ∀ j, j < l.length → (l.getD j Pi2.zero).at w b (o + j * 2)
theorem PrI.get {w : World} {a : Option Addr} {l : List Pi2} (h : PrI w a l) : ∃ b o, 0 < l.length → a = some ⟨b, o, none⟩ ∧ b < w.heap.size ∧ ∀ j, j < l.length → (l.getD j Pi2.zero).at w b (o + j * 2) := by
  rcases h with rfl | ⟨b, o, h⟩
  · exact ⟨0, 0, fun h => absurd h (by simp)⟩
  · exact ⟨b, o, fun _ => h⟩
theorem PrI.on {w w' : World} {a : Option Addr} {l : List Pi2} (h : PrI w a l) (hb : Below w.heap.size w w') : PrI w' a l := by
  rcases h with h | ⟨b, o, rfl, hl, hc⟩
  · exact .inl h
  · refine .inr ⟨b, o, rfl, Nat.lt_of_lt_of_le hl hb.size, fun j hj => ?_⟩
    obtain ⟨h1, h2⟩ := hc j hj
    exact ⟨(hb.cell (p := ⟨b, o + j * 2, none⟩) hl).trans h1, (hb.cell (p := ⟨b, o + j * 2 + 1, none⟩) hl).trans h2⟩
def Pi2.nat (p : Pi2) : Pr := ⟨p.a.toNat, p.b.toNat⟩
theorem PrI.nat {w : World} {a : Option Addr} {l : List Pi2} (h : PrI w a l) (hp : ∀ p, p ∈ l → 0 ≤ p.a ∧ 0 ≤ p.b) : Prs w a (l.map Pi2.nat) := by
  rcases h with rfl | ⟨b, o, rfl, hl, hc⟩
  · exact .inl rfl
  · refine .inr ⟨b, o, rfl, hl, fun j hj => ?_⟩
    have hj' : j < l.length := by simpa using hj
    obtain ⟨h1, h2⟩ := hc j hj'
    have e : (l.map Pi2.nat).getD j Pr.zero = (l.getD j Pi2.zero).nat := by simp [List.getD, hj']
    have hm := hp (l.getD j Pi2.zero) (by simp [List.getD, List.getElem?_eq_getElem hj'])
    rw [e]
    refine ⟨?_, ?_⟩
    · show w.cell? _ = some (.int .i64 (((l.getD j Pi2.zero).a.toNat : Nat) : Int))
      rw [Int.toNat_of_nonneg hm.1]; exact h1
    · show w.cell? _ = some (.int .i64 (((l.getD j Pi2.zero).b.toNat : Nat) : Int))
      rw [Int.toNat_of_nonneg hm.2]; exact h2
/-- The first mark that is none. -/
def mk1 (N : Int) : List Pi2 → Int
  | [] => 0
  | p :: r => if okV N p.a = false ∨ okV N p.b = false then 5 else if p.b ≤ p.a then 4 else mk1 N r
def mkE (N : Int) (ms : List Pi2) : Int := if 16384 < ms.length then 2 else mk1 N ms
theorem mk1_zero {N : Int} : ∀ {ms : List Pi2}, mk1 N ms = 0 → ∀ p, p ∈ ms → (0 ≤ p.a ∧ p.a < N) ∧ (0 ≤ p.b ∧ p.b < N) ∧ p.a < p.b
  | [], _, p, hp => by cases hp
  | x :: r, h, p, hp => by
    simp only [mk1] at h
    split at h
    · cases h
    · rename_i h1
      split at h
      · cases h
      · rename_i h2
        rcases List.mem_cons.1 hp with rfl | hp
        · simp only [not_or, Bool.not_eq_false] at h1
          exact ⟨okV_t h1.1, okV_t h1.2, by omega⟩
        · exact mk1_zero h p hp
theorem drop_getM {ms : List Pi2} {k : Nat} (h : k < ms.length) : ms.drop k = ms.getD k Pi2.zero :: ms.drop (k + 1) := by
  rw [List.drop_eq_getElem_cons h]
  simp [List.getD, List.getElem?_eq_getElem h]
set_option maxHeartbeats 400000 in
theorem nvert_any (N v : Int) (a : Option Addr) (n cap : Nat) (w : World) :
    Calls Try.prog 24 #[.agg #[.int .i64 N, .slice a n cap], .int .i64 v] w fun e w' => e = .returned (.bool (okV N v)) ∧ Below w.heap.size w w' := by
  by_cases h1 : 0 ≤ v
  · by_cases h2 : v < N
    · rw [show okV N v = true by simp [okV, h1, h2]]
      go_enter Try.func24, Try.ntmps24
      go_wp2_with fail
      go_ret
      exact ⟨rfl, (Below.refl _ _).alloc (Nat.le_refl _) _⟩
    · rw [show okV N v = false by simp [okV, h2]]
      go_enter Try.func24, Try.ntmps24
      go_wp2_with fail
      go_ret
      exact ⟨rfl, (Below.refl _ _).alloc (Nat.le_refl _) _⟩
  · rw [show okV N v = false by simp [okV, h1]]
    go_enter Try.func24, Try.ntmps24
    go_wp2_with fail
    go_ret
    exact ⟨rfl, (Below.refl _ _).alloc (Nat.le_refl _) _⟩
set_option maxRecDepth 100000 in
set_option maxHeartbeats 1600000 in
theorem checkMarks_any (N : Int) (a : Option Addr) (n cap : Nat) (ms : List Pi2) (b : Option Addr) (bc : Nat) (w : World) (hml : ms.length ≤ 9223372036854775807) (hr : PrI w b ms) :
    Calls Try.prog 17 #[.agg #[.int .i64 N, .slice a n cap], .slice b ms.length bc] w fun e w' => e = .returned (.int .i64 (mkE N ms)) ∧ Below w.heap.size w w' := by
  have hb0 : Below w.heap.size w (w.alloc (.cells #[.int .i64 N, .slice a n cap] 24)) := (Below.refl _ _).alloc (Nat.le_refl _) _
  have hg := heap_top w (.cells #[.int .i64 N, .slice a n cap] 24)
  obtain ⟨V, HV⟩ := named (mkE N ms)
  rw [HV.out]
  obtain ⟨ix, ox, hix⟩ := hr.get
  have HIX := Lib.hid hix
  have HB0 := Lib.hid hb0
  clear hix hr hb0
  generalize hp : w.heap.size = p at *
  by_cases hlong : 16384 < ms.length
  · have hl' : (16384 : Int) < ms.length := by omega
    have HF : Hid (V = 2) := by show _ = _; rw [← HV.out]; unfold mkE; rw [if_pos hlong]
    go_enter Try.func17, Try.ntmps17
    go_wp2_with fail
    go_ret
    exact ⟨by rw [HF.out]; rfl, HB0.out⟩
  · have hl' : ¬ (16384 : Int) < ms.length := by omega
    have HVM : Hid (mk1 N ms = V) := by show _ = _; rw [← HV.out]; unfold mkE; rw [if_neg hlong]
    go_enter Try.func17, Try.ntmps17
    go_wp2_with fail
    generalize hW : w.alloc (.cells #[.int .i64 N, .slice a n cap] 24) = W at *
    clear hW
    go_loopw [12] (fun i wr => ∃ (k : Nat), k ≤ ms.length ∧ i = .int .i64 k ∧ Hid (mk1 N (ms.drop k) = V) ∧ Hid (wr.heap[p]? = some (.cells #[.int .i64 N, .slice a n cap] 24)) ∧ Hid (Below p w wr)) (fun i _ => ms.length - (intOf i).toNat)
    case atStart => exact ⟨0, Nat.zero_le _, rfl, HVM, Lib.hid hg, HB0⟩
    case round =>
      obtain ⟨k, hk, rfl, HK, HG, HBR⟩ := hrel
      have hpw : p < wr.heap.size := lt_of_block HG.out
      by_cases hlk : k < ms.length
      · obtain ⟨rfl, hbl, hat⟩ := HIX.out (by omega)
        have hlk' : (k : Int) < ms.length := by omega
        obtain ⟨x0, x1⟩ := hat k hlk
        have y0 := (HBR.out.cell (p := ⟨ix, ox + k * 2, none⟩) hbl).trans x0
        have y1 := (HBR.out.cell (p := ⟨ix, ox + k * 2 + 1, none⟩) hbl).trans x1
        have hk2 := HK.out
        rw [drop_getM hlk] at hk2
        simp only [mk1] at hk2
        have HK2 := Lib.hid hk2
        clear hat x0 x1 hk2
        generalize ms.getD k Pi2.zero = x at *
        obtain ⟨xa, xb⟩ := x
        have hz1 : (wr.alloc (.cells #[.int .i64 xa, .int .i64 xb] 36)).heap[wr.heap.size]? = some (.cells #[.int .i64 xa, .int .i64 xb] 36) := heap_top wr _
        have hg1 : (wr.alloc (.cells #[.int .i64 xa, .int .i64 xb] 36)).heap[p]? = some (.cells #[.int .i64 N, .slice a n cap] 24) := (Below.heap_alloc _ _ _ hpw).trans HG.out
        obtain ⟨⟨z0, z1⟩, _⟩ := two_cells hz1
        obtain ⟨⟨g0, g1⟩, _⟩ := two_cells hg1
        have HB1 : Hid (Below p w (wr.alloc (.cells #[.int .i64 xa, .int .i64 xb] 36))) := HBR.out.alloc (by omega) _
        go_wp2_with fail
        generalize hU : wr.alloc (.cells #[.int .i64 xa, .int .i64 xb] 36) = U at *
        have hwU : wr.heap.size < U.heap.size := lt_of_block hz1
        refine (nvert_any N xa a n cap U).mono ?_
        rintro e u2 ⟨rfl, hb2⟩
        have hg2 := (hb2.block p (by omega)).trans hg1
        have hz2 := (hb2.block wr.heap.size hwU).trans hz1
        obtain ⟨⟨p0, p1⟩, _⟩ := two_cells hz2
        obtain ⟨⟨r0, r1⟩, _⟩ := two_cells hg2
        have HB2 : Hid (Below p w u2) := HB1.out.trans (hb2.mono (by omega))
        clear z0 z1 hz1 hg1 hb2 g0 g1
        cases hoa : okV N xa
        · rw [if_pos (.inl hoa)] at HK2
          go_wp2_with fail
          go_ret
          exact ⟨by rw [← HK2.out]; rfl, HB2.out⟩
        · go_wp2_with fail
          have hwU2 : wr.heap.size < u2.heap.size := lt_of_block hz2
          refine (nvert_any N xb a n cap u2).mono ?_
          rintro e u3 ⟨rfl, hb3⟩
          have hg3 := (hb3.block p (by omega)).trans hg2
          have hz3 := (hb3.block wr.heap.size hwU2).trans hz2
          obtain ⟨⟨q0, q1⟩, _⟩ := two_cells hz3
          have HB3 : Hid (Below p w u3) := HB2.out.trans (hb3.mono (by omega))
          have HG3 := Lib.hid hg3
          clear p0 p1 hz2 hg2 hb3 r0 r1
          cases hob : okV N xb
          · rw [if_pos (.inr hob)] at HK2
            go_wp2_with fail
            go_ret
            exact ⟨by rw [← HK2.out]; rfl, HB3.out⟩
          · rw [if_neg (by rintro (h | h); (rw [hoa] at h; cases h); (rw [hob] at h; cases h))] at HK2
            by_cases hle : xb ≤ xa
            · rw [if_pos hle] at HK2
              go_wp2_with fail
              go_ret
              exact ⟨by rw [← HK2.out]; rfl, HB3.out⟩
            · rw [if_neg hle] at HK2
              go_wp2_with fail
              exact ⟨⟨k + 1, by omega, by simp, HK2, HG3, HB3⟩, by simp [intOf]; omega⟩
      · have e0 : ms.drop k = [] := List.drop_eq_nil_of_le (by omega)
        have hlk' : ¬ (k : Int) < ms.length := by omega
        rw [e0] at HK
        have HF : Hid (V = 0) := HK.out.symm
        clear e0
        go_wp2_with fail
        go_ret
        exact ⟨by rw [HF.out]; rfl, HBR.out⟩
end Go.Proofs.Ytpgadcacimjlaab
