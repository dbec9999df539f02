/-
  Contract of (*Disk).Write.
-/
import Derived.Test.YtlbkmhlpgpfafaaPut
namespace Go.Proofs.Ytlbkmhlpgpfafaa
open Go.RowKit Go.Maps Go.Joins
/-- A file behind a write: what it has lies in a new block. -/
theorem FC.wr {w : World} {b : Nat} {hv sv : Value} {gh : Nat} {gs : Option Nat} {p : PF} (h : FC w b hv sv gh gs p) {v : Value} {o : Obj} {l : List UInt8} (hl : l.length ≤ 262144) (h1 : BS (w.drew.alloc o) v w.heap.size l) :
    FC ((w.drew.alloc o).setCell ⟨b, 0, none⟩ v) b v sv w.heap.size gs { p with has := l } := by
  have hb := lt_of_block h.hd
  have ea : ∀ k, k < w.heap.size → (w.drew.alloc o).heap[k]? = w.heap[k]? := fun k hk => Below.heap_alloc w.drew o k hk
  have eo : ∀ k, k ≠ b → ((w.drew.alloc o).setCell ⟨b, 0, none⟩ v).heap[k]? = (w.drew.alloc o).heap[k]? := fun k hk => heap_setCell_other _ _ k _ hk
  refine ⟨?_, h1.same (eo _ (by omega)), hl, ?_⟩
  · rw [heap_setCell_same _ b 0 _ _ _ ((ea b hb).trans h.hd)]
    simp
  · rcases h.safe with h' | ⟨g, a, k, c, e, dd⟩
    · exact Or.inl h'
    · have hgk : g ≠ b := by
        intro e'
        obtain ⟨cur, fz, hk⟩ := c.kind
        rw [e', h.hd] at hk
        cases hk
      have := c.lt
      exact Or.inr ⟨g, a, k, (c.same (ea g c.lt)).same (eo g hgk), e, fun e2 => by omega⟩
section
variable {w : World} {d : Nat} {ow : Nat → Option Nat} {mb : Option Nat} {L : List Fl} {fu : Bool} {n : Int} {S : PS}
/-- The blocks that are a disk's own, one more being its map. -/
def owM (ow : Nat → Option Nat) (m d : Nat) : Nat → Option Nat := fun k => if k = m then some d else ow k
theorem DM.owm {dn : Bool} (h : DM w d ow mb L dn fu n) {w' : World} {m : Nat} {f : Fl} (p : PutAt w w' d mb m L dn fu n f) : ∀ k, k < w.heap.size → owM ow m d k = ow k := by
  intro k hk
  unfold owM
  split
  · rename_i e
    subst e
    rcases p.which with e | ⟨_, e⟩
    · exact (h.om k e).symm
    · omega
  · rfl
theorem DM.putF {dn : Bool} (h : DM w d ow mb L dn fu n) {w' : World} {m : Nat} {f : Fl} (p : PutAt w w' d mb m L dn fu n f) (hf : ow f.blk = some f.blk) (hfd : f.blk ≠ d) (hap : ∀ x ∈ L, x.pf.nm ≠ f.pf.nm → x.blk ≠ f.blk) (hm : mayN f.pf.nm = true) (hl : (putK fk f L).length ≤ 64) :
    DM w' d (owM ow m d) (some m) (putK fk f L) dn fu n := by
  have ho := h.owm p
  have hml : m < w'.heap.size := p.map.lt
  refine ⟨p.hd, (ho d h.dlt).trans h.od, ?_, Or.inr ⟨m, rfl, p.map⟩, ?_, srt_put h.srt, ?_, ?_, hl, ?_, h.n0, h.n1⟩
  · intro b hb
    unfold owM
    rw [if_neg (by omega)]
    exact h.out b (by have := p.fr.size; omega)
  · intro m' hm'
    injection hm' with hm'
    subst hm'
    unfold owM
    rw [if_pos rfl]
  · intro x hx
    rcases mem_putK.1 hx with rfl | ⟨hx, _⟩
    · exact ⟨(ho _ (h.lt (by rw [hf]; simp))).trans hf, hfd⟩
    · have := h.ob x hx
      exact ⟨(ho _ (h.lt (by rw [this.1]; simp))).trans this.1, this.2⟩
  · intro x hx y hy e
    rcases mem_putK.1 hx with ex | ⟨hx', nx⟩ <;> rcases mem_putK.1 hy with ey | ⟨hy', ny⟩
    · rw [ex, ey]
    · rw [ex] at e
      exact absurd e.symm (hap y hy' ny)
    · rw [ey] at e
      exact absurd e (hap x hx' nx)
    · exact h.apart x hx' y hy' e
  · intro x hx
    rcases mem_putK.1 hx with rfl | ⟨hx, _⟩
    · exact hm
    · exact h.may x hx
theorem DM.putO {dn : Bool} (h : DM w d ow mb L dn fu n) {w' : World} {m : Nat} {f : Fl} (p : PutAt w w' d mb m L dn fu n f) {x : Fl} (hx : ow x.blk = some x.blk) (hxd : x.blk ≠ d) (k : Nat) (hk : k < w.heap.size) (hk' : k = x.blk ∨ ow k = some x.blk) : w'.heap[k]? = w.heap[k]? := by
  have hkx : ow k = some x.blk := by
    rcases hk' with rfl | hk'
    · exact hx
    · exact hk'
  refine p.fr.block k hk ?_
  rintro (e | e)
  · rw [e, h.od] at hkx
    injection hkx with hkx
    exact hxd hkx.symm
  · rw [h.om k e] at hkx
    injection hkx with hkx
    exact hxd hkx.symm
theorem wr_eq {s m : List UInt8} (hm : mayN s = true) : wrE S s m = (if wrLong S s m then 2 else if chgOk S then 0 else 191) ∧ wrS S s m = if wrLong S s m then S else if chgOk S then { chgUp S with fs := putK PF.nm (wrF S s m) S.fs } else chgDown S := by
  unfold wrE wrS
  rw [hm]
  simp
/-- What is left of Write where the file is there, once the disk's struct is changed. -/
theorem DP.wrOld (h : DP w d ow mb L fu n S) {f : Fl} (hf : f ∈ L) {hv sv : Value} {gh : Nat} {gs : Option Nat} (hfc : FC w f.blk hv sv gh gs f.pf) (hgs : ∀ g, gs = some g → ow g = some f.blk) {v : Value} {o : Obj} {l : List UInt8} (hl : l.length ≤ 262144) (h1 : BS (w.drew.alloc o) v w.heap.size l) :
    To w ((w.drew.alloc o).setCell ⟨f.blk, 0, none⟩ v) d ow { S with fs := setK PF.nm f.pf.nm (fun p => { p with has := l }) S.fs } := by
  have hob := (h.dm.ob f hf).1
  have hbl : f.blk < w.heap.size := h.dm.lt (by rw [hob]; simp)
  have ea : ∀ k, k < w.heap.size → (w.drew.alloc o).heap[k]? = w.heap[k]? := fun k hk => Below.heap_alloc w.drew o k hk
  have how : ∀ k, k < w.heap.size → (if k = w.heap.size then some f.blk else ow k) = ow k := fun k hk => if_neg (by omega)
  refine ⟨fun k => if k = w.heap.size then some f.blk else ow k, ?_, how, ?_⟩
  · refine (h.setF hf (fun p => { p with has := l }) (fun _ => rfl) (FC.fa (f := ⟨{ f.pf with has := l }, f.blk⟩) (hfc.wr hl h1) (if_pos rfl) (fun g hg => ?_)) (fun k hk hk' hk'' => ?_) how (fun b hb => ?_)).dk
    · show (if g = w.heap.size then some f.blk else ow g) = some f.blk
      split
      · rfl
      · exact hgs g hg
    · rw [heap_setCell_other _ _ k _ (fun e => hk'' (by rw [e]; exact hob))]
      exact ea k hk
    · have hb' : w.heap.size + 1 ≤ b := by simpa using hb
      show (if b = w.heap.size then some f.blk else ow b) = none
      rw [if_neg (by omega)]
      exact h.dm.out b (by omega)
  · exact (((Fr.refl (Ow ow) w).drew).alloc o).setCell _ _ (Or.inl (by unfold Ow; rw [hob]; simp))
/-- What is left of Write where the file is new. -/
theorem DP.wrNew (h : DP w d ow mb L fu n S) {s l : List UInt8} (hs : mayN s = true) (hnew : fnd S s = none) (hlen : L.length < 64) (hl : l.length ≤ 262144) {w4 : World} {m : Nat}
    (p : PutAt (w.alloc (.cells #[.slice none 0 0, .slice none 0 0, .bool false] 67)) w4 d mb m L S.dn fu n ⟨⟨s, l, [], false⟩, w.heap.size⟩) {v : Value} {o : Obj} (h1 : BS (w4.drew.alloc o) v w4.heap.size l) :
    To w ((w4.drew.alloc o).setCell ⟨w.heap.size, 0, none⟩ v) d ow { S with fs := putK PF.nm ⟨s, l, [], false⟩ S.fs } := by
  have hfn : fndK fk s L = none := by
    have := h.fd s
    rw [hnew] at this
    cases hq : fndK fk s L with
    | none => rfl
    | some f => rw [hq] at this; cases this
  have hdl := h.dm.dlt
  have hz1 : (w.alloc (.cells #[.slice none 0 0, .slice none 0 0, .bool false] 67)).heap.size = w.heap.size + 1 := by simp
  have hz4 := p.fr.size
  rw [hz1] at hz4
  -- the new block is the file's
  have ho1 : ∀ k, k < w.heap.size → (if k = w.heap.size then some w.heap.size else ow k) = ow k := fun k hk => if_neg (by omega)
  have d1 : DM (w.alloc (.cells #[.slice none 0 0, .slice none 0 0, .bool false] 67)) d (fun k => if k = w.heap.size then some w.heap.size else ow k) mb L S.dn fu n :=
    h.dm.keep (fun k hk _ => Below.heap_alloc w _ k hk) ho1 (fun b hb => by
      show (if b = w.heap.size then some w.heap.size else ow b) = none
      rw [if_neg (by omega)]
      exact h.dm.out b (by omega))
  have hbx : ∀ x ∈ L, x.blk < w.heap.size := fun x hx => h.dm.lt (by rw [(h.dm.ob x hx).1]; simp)
  have hpl : (putK fk ⟨⟨s, l, [], false⟩, w.heap.size⟩ L).length ≤ 64 := by
    unfold putK
    rw [len_ins]
    have := len_del s L (key := fk)
    show (delK fk s L).length + 1 ≤ 64
    omega
  have d2 := d1.putF p (if_pos rfl) (by show w.heap.size ≠ d; omega) (fun x hx _ => by have := hbx x hx; show x.blk ≠ w.heap.size; omega) hs hpl
  have ho2 := d1.owm p
  generalize hf : (⟨⟨s, l, [], false⟩, w.heap.size⟩ : Fl) = f at *
  have hfb : f.blk = w.heap.size := by rw [← hf]
  have hfp : f.pf = ⟨s, l, [], false⟩ := by rw [← hf]
  -- the file's struct behind put
  have hfs : w4.heap[w.heap.size]? = some (.cells #[.slice none 0 0, .slice none 0 0, .bool false] 67 (0, 0)) := by
    rw [d1.putO p (x := f) (by rw [hfb]; exact if_pos rfl) (by rw [hfb]; omega) w.heap.size (by omega) (Or.inl hfb.symm)]
    exact heap_top _ _
  have ea : ∀ k, k < w4.heap.size → (w4.drew.alloc o).heap[k]? = w4.heap[k]? := fun k hk => Below.heap_alloc w4.drew o k hk
  have eo : ∀ k, k ≠ w.heap.size → ((w4.drew.alloc o).setCell ⟨w.heap.size, 0, none⟩ v).heap[k]? = (w4.drew.alloc o).heap[k]? := fun k hk => heap_setCell_other _ _ k _ hk
  have hz5 : ((w4.drew.alloc o).setCell ⟨w.heap.size, 0, none⟩ v).heap.size = w4.heap.size + 1 := by simp
  have ho3 : ∀ k, k < w4.heap.size → (if k = w4.heap.size then some w.heap.size else owM (fun k => if k = w.heap.size then some w.heap.size else ow k) m d k) = owM (fun k => if k = w.heap.size then some w.heap.size else ow k) m d k := fun k hk => if_neg (by omega)
  have hown : owM (fun k => if k = w.heap.size then some w.heap.size else ow k) m d w.heap.size = some w.heap.size := (ho2 _ (by omega)).trans (if_pos rfl)
  refine ⟨fun k => if k = w4.heap.size then some w.heap.size else owM (fun k => if k = w.heap.size then some w.heap.size else ow k) m d k, ?_, fun k hk => ?_, ?_⟩
  · refine ⟨some m, putK fk f L, fu, n, ?_, ?_, ?_, h.left⟩
    · refine d2.keep (fun k hk hk' => ?_) ho3 (fun b hb => ?_)
      · rw [eo k (fun e => ?_), ea k hk]
        rw [e, hown] at hk'
        injection hk' with hk'
        omega
      · rw [hz5] at hb
        show (if b = w4.heap.size then some w.heap.size else owM (fun k => if k = w.heap.size then some w.heap.size else ow k) m d b) = none
        rw [if_neg (by omega)]
        exact d2.out b (by omega)
    · intro x hx
      rcases mem_putK.1 hx with rfl | ⟨hx', hn⟩
      · unfold FA
        rw [hfb, hfp]
        refine ⟨v, .slice none 0 0, w4.heap.size, ?_, h1.same (eo _ (by omega)), if_pos rfl, hl, Or.inl ⟨rfl, rfl, rfl⟩⟩
        rw [heap_setCell_same _ w.heap.size 0 _ _ _ ((ea _ (by omega)).trans hfs)]
        simp
      · have hxo := h.dm.ob x hx'
        have hxb := hbx x hx'
        have hxo1 : (if x.blk = w.heap.size then some w.heap.size else ow x.blk) = some x.blk := (ho1 _ hxb).trans hxo.1
        refine (h.fa x hx').keep (fun k hk hk' => ?_) (fun k hk => ?_)
        · rw [eo k (by omega), ea k (by omega), d1.putO p hxo1 hxo.2 k (by omega) (hk'.imp id (fun e => (ho1 k hk).trans e))]
          exact Below.heap_alloc w _ k hk
        · rw [ho3 k (by omega), ho2 k (by omega), ho1 k hk]
    · show putK PF.nm ⟨s, l, [], false⟩ S.fs = _
      rw [h.fs, putK_map Fl.pf (key' := PF.nm) (fun _ => rfl), hfp]
  · exact (ho3 k (by omega)).trans ((ho2 k (by omega)).trans (ho1 k hk))
  · have fa : Fr (Ow ow) w (w.alloc (.cells #[.slice none 0 0, .slice none 0 0, .bool false] 67)) := (Fr.refl _ w).alloc _
    have fb := fa.trans p.fr (fun x hx => by
      rcases hx with rfl | hx
      · left; unfold Ow; rw [h.dm.od]; simp
      · left; unfold Ow; rw [h.dm.om x hx]; simp)
    exact ((fb.drew).alloc o).setCell _ _ (Or.inr (Nat.le_refl _))
theorem DP.newAt (h : DP w d ow mb L fu n S) {w4 : World} {m : Nat} {f : Fl} {dn : Bool} (p : PutAt (w.alloc (.cells #[.slice none 0 0, .slice none 0 0, .bool false] 67)) w4 d mb m L dn fu n f) : w4.heap[w.heap.size]? = some (.cells #[.slice none 0 0, .slice none 0 0, .bool false] 67 (0, 0)) := by
  rw [p.fr.block w.heap.size (by simp) ?_]
  · exact heap_top _ _
  · rintro (e | e)
    · have := h.dm.dlt
      omega
    · have := h.dm.map.lt e
      omega
theorem To.after {w w2 w3 : World} {S' : PS} (h : To w2 w3 d ow S') (f : Fr (Ow ow) w w2) : To w w3 d ow S' := by
  obtain ⟨ow', h1, h2, h3⟩ := h
  exact ⟨ow', h1, fun k hk => h2 k (Nat.lt_of_lt_of_le hk f.size), f.then h3⟩
theorem DP.sfs (h : DP w d ow mb L fu n S) : Srt PF.nm S.fs := by
  rw [h.fs]
  unfold Srt
  rw [List.pairwise_map]
  exact h.dm.srt
theorem DP.wrSet (h : DP w d ow mb L fu n S) {s m : List UInt8} {f : Fl} (hf : fndK fk s L = some f) : putK PF.nm (wrF S s m) S.fs = setK PF.nm f.pf.nm (fun p => { p with has := m }) S.fs ∧ wrF S s m = { f.pf with has := m } := by
  have hq : fnd S s = some f.pf := by rw [h.fd, hf]; rfl
  have e : wrF S s m = { f.pf with has := m } := by unfold wrF; rw [hq]
  refine ⟨?_, e⟩
  have := put_set (key := PF.nm) (n := s) (g := fun p => { p with has := m }) h.sfs (fun _ => rfl) hq
  have e2 : f.pf.nm = s := (fndK_some hf).2
  rw [e, e2]
  exact this
set_option maxRecDepth 100000 in
set_option maxHeartbeats 3200000 in
theorem Write_any (h : DK w d ow S) (s m : ByteArray) (hs : s.size ≤ 140737488351232) (hm : m.size ≤ 140737488351232) :
    Calls Try.prog 15 #[.pointer (some ⟨d, 0, none⟩), .string s, .string m] w fun e w' => e = .returned (.int .i64 (wrE S s.data.toList m.data.toList)) ∧ To w w' d ow (wrS S s.data.toList m.data.toList) := by
  obtain ⟨mb, L, fu, n, h⟩ := h.dp
  obtain ⟨⟨c0, c1, c2, c3⟩, f0, f1, f2, f3⟩ := cells4 h.dm.hd
  have HMB := Lib.hid (mayBe_any s w)
  have HD := Lib.hid h.dk.self
  cases hmy : mayN s.data.toList with
  | false =>
    rw [hmy] at HMB
    rw [show wrE S s.data.toList m.data.toList = 170 by unfold wrE; rw [if_pos hmy], show wrS S s.data.toList m.data.toList = S by unfold wrS; rw [if_pos hmy]]
    clear h
    go_enter Try.func15, Try.ntmps15
    go_wp2_with fail
    refine HMB.out.mono ?_
    rintro e w1 ⟨rfl, rfl⟩
    go_wp2_with fail
    go_ret
    exact ⟨rfl, HD.out⟩
  | true =>
    rw [hmy] at HMB
    rw [(wr_eq hmy).1, (wr_eq hmy).2]
    have hsl : s.size ≤ 64 := by
      have := mayN_len hmy
      simpa using this
    have HLK := h.dm.map.look (s := s) (by unfold maxLen; omega)
    have HLN := h.dm.map.len 3
    have hfnd := h.fd s.data.toList
    have hfsl : S.fs.length = L.length := by rw [h.fs, List.length_map]
    have hml : m.data.toList.length = m.size := by rw [Array.length_toList]; rfl
    have hL64 := h.dm.len
    by_cases hlong : 262144 < m.size
    · rw [show wrLong S s.data.toList m.data.toList = true by unfold wrLong; rw [hml]; simp [hlong], if_pos rfl, if_pos rfl]
      have hlong' : (262144 : Int) < m.size := by omega
      cases hq : fndK fk s.data.toList L with
      | none =>
        rw [hq] at HLK
        rw [show (none : Option Fl).isSome = false from rfl] at HLK
        clear hlong hfnd hfsl hml hL64 h
        go_enter Try.func15, Try.ntmps15
        go_wp2_with fail
        refine HMB.out.mono ?_
        rintro e w1 ⟨rfl, rfl⟩
        go_wp2_with fail
        go_ret
        exact ⟨rfl, HD.out⟩
      | some f =>
        rw [hq] at HLK
        rw [show (some f).isSome = true from rfl] at HLK
        clear hlong hfnd hfsl hml hL64 h
        go_enter Try.func15, Try.ntmps15
        go_wp2_with fail
        refine HMB.out.mono ?_
        rintro e w1 ⟨rfl, rfl⟩
        go_wp2_with fail
        go_ret
        exact ⟨rfl, HD.out⟩
    · have hlong' : ¬ (262144 : Int) < m.size := by omega
      cases hq : fndK fk s.data.toList L with
      | some f =>
        obtain ⟨hfm, hfn⟩ := fndK_some hq
        rw [(h.wrSet hq).1]
        rw [hq] at HLK hfnd
        rw [show (some f).isSome = true from rfl, show ptrOf (some f) = .pointer (some ⟨f.blk, 0, none⟩) from rfl] at HLK
        rw [show wrLong S s.data.toList m.data.toList = false by unfold wrLong; rw [hml, hfnd]; simp; omega]
        simp only [Bool.false_eq_true, ↓reduceIte]
        have HC := Lib.hid (change_up h)
        have HC2 := Lib.hid (change_no h)
        have HML : Hid (m.data.toList.length ≤ 262144) := by show _ ≤ _; omega
        have hm64 : m.size ≤ 262144 := by omega
        have HOB := Lib.hid (h.dm.ob f hfm)
        clear hlong hfnd hfsl hml hL64 h hq
        cases hc : chgOk S with
        | false =>
          have HC := Lib.hid (HC2.out hc)
          rw [if_neg (by decide), if_neg (by decide)]
          go_enter Try.func15, Try.ntmps15
          go_wp2_with fail
          refine HMB.out.mono ?_
          rintro e w1 ⟨rfl, rfl⟩
          go_wp2_with fail
          refine HC.out.mono ?_
          rintro e w2 ⟨rfl, h2⟩
          go_wp2_with fail
          go_ret
          exact ⟨rfl, h2⟩
        | true =>
          have HC := Lib.hid (HC.out hc)
          rw [if_pos rfl, if_pos rfl]
          go_enter Try.func15, Try.ntmps15
          go_wp2_with fail
          refine HMB.out.mono ?_
          rintro e w1 ⟨rfl, rfl⟩
          go_wp2_with fail
          refine HC.out.mono ?_
          rintro e w2 ⟨rfl, n', h2, hfr, hz⟩
          obtain ⟨hv, sv, gh, gs, hfc, hgh, hgs⟩ := (h2.fa f hfm).fc
          obtain ⟨v, o, hcv, hbs⟩ := bytes_made w2 m hm64
          obtain ⟨cc, hvv, _, _⟩ := hbs.shape
          have HTO := Lib.hid ((h2.wrOld hfm hfc hgs HML.out hbs).after hfr)
          have hq2 := (Below.heap_alloc w2 o f.blk (lt_of_block hfc.hd)).trans hfc.hd
          obtain ⟨⟨q0, q1, q2⟩, r0, r1, r2⟩ := cells3 hq2
          obtain ⟨N, HN⟩ := named m.data.toList.length
          rw [HN.out] at hvv
          clear c0 c1 c2 c3 f0 f1 f2 f3 hq2 hbs hfc h2 hfr hz
          subst hvv
          go_wp2_with fail
          go_ret
          exact ⟨rfl, HTO.out⟩
      | none =>
        rw [hq] at HLK hfnd
        rw [show (none : Option Fl).isSome = false from rfl] at HLK
        by_cases hfull : L.length = 64
        · rw [show wrLong S s.data.toList m.data.toList = true by unfold wrLong; rw [hfnd, hfsl, hfull]; simp, if_pos rfl, if_pos rfl]
          rw [hfull] at HLN
          clear hlong hfnd hfsl hml hL64 h hfull
          go_enter Try.func15, Try.ntmps15
          go_wp2_with fail
          refine HMB.out.mono ?_
          rintro e w1 ⟨rfl, rfl⟩
          go_wp2_with fail
          go_ret
          exact ⟨rfl, HD.out⟩
        · have hlt : L.length < 64 := by omega
          rw [show wrLong S s.data.toList m.data.toList = false by unfold wrLong; rw [hml, hfnd, hfsl]; simp; omega]
          simp only [Bool.false_eq_true, ↓reduceIte]
          have hwf : wrF S s.data.toList m.data.toList = ⟨s.data.toList, m.data.toList, [], false⟩ := by unfold wrF; rw [hfnd]; rfl
          rw [hwf]
          have hfull' : ((L.length : Int) == 64) = false := beq_eq_false_iff_ne.2 (by omega)
          have HC := Lib.hid (change_up h)
          have HC2 := Lib.hid (change_no h)
          have HML : Hid (m.data.toList.length ≤ 262144) := by show _ ≤ _; omega
          have hm64 : m.size ≤ 262144 := by omega
          have HDD := Lib.hid h
          have HFN := Lib.hid hfnd
          have HMY := Lib.hid hmy
          clear hlong hfnd hfsl hml h hq hfull hwf hmy
          cases hc : chgOk S with
          | false =>
            have HC := Lib.hid (HC2.out hc)
            rw [if_neg (by decide), if_neg (by decide)]
            go_enter Try.func15, Try.ntmps15
            go_wp2_with fail
            refine HMB.out.mono ?_
            rintro e w1 ⟨rfl, rfl⟩
            go_wp2_with fail
            refine HC.out.mono ?_
            rintro e w2 ⟨rfl, h2⟩
            go_wp2_with fail
            go_ret
            exact ⟨rfl, h2⟩
          | true =>
            have HC := Lib.hid (HC.out hc)
            rw [if_pos rfl, if_pos rfl]
            go_enter Try.func15, Try.ntmps15
            go_wp2_with fail
            refine HMB.out.mono ?_
            rintro e w1 ⟨rfl, rfl⟩
            go_wp2_with fail
            refine HC.out.mono ?_
            rintro e w2 ⟨rfl, n', h2, hfr, hz⟩
            clear c0 c1 c2 c3 f0 f1 f2 f3 HLK HLN
            have HFR := Lib.hid hfr
            have H2 := Lib.hid h2
            have HPU := Lib.hid (put_any (w := w2.alloc (.cells #[.slice none 0 0, .slice none 0 0, .bool false] 67)) ((Below.heap_alloc _ _ d h2.dm.dlt).trans h2.dm.hd) (h2.dm.map.same (fun k hk => Below.heap_alloc _ _ k (h2.dm.map.lt hk))) h2.dm.len s hsl ⟨⟨s.data.toList, m.data.toList, [], false⟩, w2.heap.size⟩ rfl)
            clear hfr h2 hz
            go_wp2_with fail
            refine HPU.out.mono ?_
            rintro e w4 ⟨rfl, mm, hput⟩
            obtain ⟨v, o, hcv, hbs⟩ := bytes_made w4 m hm64
            obtain ⟨cc, hvv, _, _⟩ := hbs.shape
            have hfnd2 : fnd (chgUp S) s.data.toList = none := HFN.out
            have HTO := Lib.hid ((H2.out.wrNew HMY.out hfnd2 hlt HML.out hput hbs).after HFR.out)
            have hna := H2.out.newAt hput
            have hq2 := (Below.heap_alloc w4 o w2.heap.size (lt_of_block hna)).trans hna
            obtain ⟨⟨q0, q1, q2⟩, r0, r1, r2⟩ := cells3 hq2
            obtain ⟨N, HN⟩ := named m.data.toList.length
            rw [HN.out] at hvv
            clear hq2 hbs hput hna hfnd2
            subst hvv
            go_wp2_with fail
            go_ret
            exact ⟨rfl, HTO.out⟩
end
end Go.Proofs.Ytlbkmhlpgpfafaa
