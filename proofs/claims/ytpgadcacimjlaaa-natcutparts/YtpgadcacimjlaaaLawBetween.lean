/-
  NatcutBetween. The contract of natcut.Marks. Labels: what they tell.
-/
import Derived.Test.YtpgadcacimjlaaaFrag
import Derived.Test.YtpgadcacimjlaaaWorks
namespace Go.Proofs.Ytpgadcacimjlaaa
open Go.RowKit Go.Maps
theorem OwnP.offN {w : World} {B : Nat} {a : Option Addr} {c b : Nat} {l : List Pr} (h : OwnP w B a c l) (hb : b < B) : PrsN w a l b := by
  rcases h.prs with h1 | ⟨g, o, e, hl, hc⟩
  · exact .inl h1
  · by_cases h0 : l = []
    · exact .inl h0
    · refine .inr ⟨g, o, e, hl, ?_, hc⟩
      rcases h.2 with ⟨e1, e2⟩ | ⟨g', c', cur, e1, hB, _⟩
      · exact absurd (List.eq_nil_of_length_eq_zero e2) h0
      · subst e
        injection e1 with e1 _ _
        injection e1 with e1
        injection e1 with e1 _ _
        omega
/-- What Marks answers. -/
def MarksIs (n : Nat) (l : List A) (cs : List Nat) (m : Nat) (xs : List Pr) : Prop := ∃ cf : Nat → List Pr, (∀ c, c ∈ cs → CutIs n l c m (cf c)) ∧ xs = (prl l).filter (fun p => decide (∃ c ∈ cs, p ∈ cf c))
/-- What Marks tells. -/
def maE (N m : Int) (l : List A) (cs : List Int) : Int := if chkE N l ≠ 0 then chkE N l else ceE N m cs
theorem CutIs.sub {n : Nat} {l : List A} {c m : Nat} {xs : List Pr} (h : CutIs n l c m xs) : ∀ p, p ∈ xs → p ∈ prl l := by
  unfold CutIs at h
  split at h
  · subst h; intro p hp; cases hp
  · obtain ⟨_, rk, _, rfl⟩ := h
    intro p hp
    exact (List.mem_filter.1 hp).1
theorem gby_below {w w' : World} {row : Option Nat} (h : Below w.heap.size w w') : w.grownBy w' row := ⟨h.os, h.tape, h.output, h.size, fun k hk _ => h.block k hk⟩
theorem below_drew {B : Nat} {w w' : World} (h : Below B w w') : Below B w w'.drew := ⟨h.os, h.tape, h.output, h.size, h.block⟩
theorem MapS.kept {w w' : World} {b n : Nat} {S : List Pr} {row : Option Nat} (h : MapS w b n S) (hg : w.grownBy w' row) (hne : some b ≠ row) : MapS w' b n S := by
  obtain ⟨D, h1, h2⟩ := h
  exact ⟨D, h1.kept hg hne, h2⟩
theorem MapS.set {w : World} {b n : Nat} {S : List Pr} (h : MapS w b n S) {p : Addr} (hp : b ≠ p.block) (u : Value) : MapS (w.setCell p u) b n S := by
  obtain ⟨D, h1, h2⟩ := h
  exact ⟨D, h1.setCell hp u, h2⟩
theorem MapS.lt {w : World} {b n : Nat} {S : List Pr} (h : MapS w b n S) : b < w.heap.size := by
  obtain ⟨D, h1, _⟩ := h
  exact h1.lt
theorem CutIs.len {n : Nat} {l : List A} {c m : Nat} {xs : List Pr} (h : CutIs n l c m xs) : xs.length ≤ (prl l).length := by
  unfold CutIs at h
  split at h
  · subst h; simp
  · obtain ⟨_, rk, _, rfl⟩ := h
    exact List.length_filter_le _ _
theorem gchk_ok {n c : Nat} {m : Int} {l : List A} (h : chkE n l = 0) (hc : c < n) (h1 : 1 ≤ m) (h2 : m ≤ 1024) : gchk n c m l = 0 := by
  unfold gchk
  rw [if_neg (by rw [h]; omega), if_neg (by omega), if_neg (by omega)]
def updL (cf : Nat → List Pr) (c : Nat) (xs : List Pr) : Nat → List Pr := fun d => if d = c then xs else cf d
theorem updL_self (cf : Nat → List Pr) (c : Nat) (xs : List Pr) : updL cf c xs c = xs := if_pos rfl
theorem updL_ne (cf : Nat → List Pr) {c d : Nat} (xs : List Pr) (h : d ≠ c) : updL cf c xs d = cf d := if_neg h
/-- What the map holds when the centres of a list have been gone around. -/
def Held (n : Nat) (l : List A) (m : Nat) (q : List Nat) (S : List Pr) (cf : Nat → List Pr) : Prop := (∀ c, c ∈ q → CutIs n l c m (cf c)) ∧ ∀ p, p ∈ S ↔ ∃ c, c ∈ q ∧ p ∈ cf c
theorem Held.again {n : Nat} {l : List A} {m : Nat} {q : List Nat} {S : List Pr} {cf : Nat → List Pr} (h : Held n l m q S cf) {c : Nat} (hc : c ∈ q) : Held n l m (q ++ [c]) S cf := by
  have e : ∀ d, d ∈ q ++ [c] ↔ d ∈ q := fun d => by
    simp only [List.mem_append, List.mem_singleton]
    exact ⟨fun h => h.elim id (fun e => e ▸ hc), .inl⟩
  exact ⟨fun d hd => h.1 d ((e d).1 hd), fun p => (h.2 p).trans ⟨fun ⟨d, h1, h2⟩ => ⟨d, (e d).2 h1, h2⟩, fun ⟨d, h1, h2⟩ => ⟨d, (e d).1 h1, h2⟩⟩⟩
theorem Held.more {n : Nat} {l : List A} {m : Nat} {q : List Nat} {S : List Pr} {cf : Nat → List Pr} (h : Held n l m q S cf) {c : Nat} (hc : c ∉ q) {xs : List Pr} (hx : CutIs n l c m xs) : Held n l m (q ++ [c]) (S ++ xs) (updL cf c xs) := by
  refine ⟨fun d hd => ?_, fun p => ?_⟩
  · by_cases e : d = c
    · subst e; rw [updL_self]; exact hx
    · rw [updL_ne _ _ e]
      rcases List.mem_append.1 hd with hd | hd
      · exact h.1 d hd
      · exact absurd (List.mem_singleton.1 hd) e
  · rw [List.mem_append, h.2 p]
    constructor
    · rintro (⟨d, h1, h2⟩ | h1)
      · exact ⟨d, List.mem_append.2 (.inl h1), by rw [updL_ne _ _ (fun e : d = c => hc (e ▸ h1))]; exact h2⟩
      · exact ⟨c, by simp, by rw [updL_self]; exact h1⟩
    · rintro ⟨d, h1, h2⟩
      by_cases e : d = c
      · subst e; rw [updL_self] at h2; exact .inr h2
      · rw [updL_ne _ _ e] at h2
        rcases List.mem_append.1 h1 with h1 | h1
        · exact .inl ⟨d, h1, h2⟩
        · exact absurd (List.mem_singleton.1 h1) e
set_option maxRecDepth 100000 in
set_option maxHeartbeats 3200000 in
theorem marks_any (N m : Int) (a : Option Addr) (l : List A) (cap : Nat) (b : Option Addr) (cs : List Int) (bc : Nat) (w : World) (hl : l.length ≤ 9223372036854775807) (hml : cs.length ≤ 9223372036854775807) (hr : Arcs w a l) (hm : Ints w b cs) :
    Calls Try.prog 11 #[.agg #[.int .i64 N, .slice a l.length cap], .slice b cs.length bc, .int .i64 m] w fun e w' => ∃ v c xs, e = .returned (.tuple #[.slice v xs.length c, .int .i64 (maE N m l cs)]) ∧ OwnP w' w.heap.size v c xs ∧ Hid (maE N m l cs = 0 → MarksIs N.toNat l (cs.map Int.toNat) m.toNat xs) ∧ Hid (maE N m l cs ≠ 0 → xs = []) ∧ Below w.heap.size w w' := by
  have hb0 : Below w.heap.size w (w.alloc (.cells #[.int .i64 N, .slice a l.length cap] 24)) := (Below.refl _ _).alloc (Nat.le_refl _) _
  have hg := heap_top w (.cells #[.int .i64 N, .slice a l.length cap] 24)
  have HR := Lib.hid (hr.on hb0)
  have HM := Lib.hid (hm.on hb0)
  have hwz : w.heap.size ≤ (w.alloc (.cells #[.int .i64 N, .slice a l.length cap] 24)).heap.size := hb0.size
  have HB0 := Lib.hid hb0
  obtain ⟨G, HG⟩ := named (maE N m l cs)
  rw [HG.out]
  clear hb0 hr hm
  generalize hp : w.heap.size = p at *
  go_enter Try.func11, Try.ntmps11
  go_wp2_with fail
  generalize hW : w.alloc (.cells #[.int .i64 N, .slice a l.length cap] 24) = W at *
  clear hW
  refine (pairs_any N a l cap W hl HR.out).mono ?_
  rintro e w1 ⟨v1, c1, ps, rfl, hown1, hps, hb1⟩
  have hpz : p < W.heap.size := lt_of_block hg
  have HB1 : Hid (Below p w w1) := HB0.out.trans (hb1.mono hwz)
  have hg1 := (hb1.block p hpz).trans hg
  obtain ⟨⟨c0, c1'⟩, _⟩ := two_cells hg1
  have HM1 := Lib.hid (HM.out.on hb1)
  have HR1 := Lib.hid (HR.out.on hb1)
  have HO1 := Lib.hid hown1
  have hwz1 : W.heap.size ≤ w1.heap.size := hb1.size
  obtain ⟨E, HE⟩ := named (chkE N l)
  rw [HE.out] at hps ⊢
  clear hb1 hown1 hg
  by_cases hE : E ≠ 0
  · have e1 : (E != 0) = true := by simpa using hE
    have e2 : (E == 0) = false := by simpa using hE
    have HGE : Hid (G = E) := by show _ = _; rw [← HG.out]; unfold maE; rw [if_pos (by rw [HE.out]; exact hE), HE.out]
    go_wp2_with fail
    go_ret2
    exact ⟨none, 0, [], by rw [HGE.out]; rfl, ⟨rfl, .inl ⟨rfl, rfl⟩⟩, fun h => absurd (HGE.out.symm.trans h) hE, fun _ => rfl, HB1.out⟩
  obtain rfl : E = 0 := by omega
  rw [if_pos rfl] at hps
  obtain ⟨n, hn⟩ : ∃ n : Nat, N = n := ⟨N.toNat, by have := (chk_zero HE.out).1; omega⟩
  subst hn hps
  clear hE
  have hpz1 : p < w1.heap.size := by omega
  have HGM : Hid (G = ceE n m cs) := by show _ = _; rw [← HG.out]; unfold maE; rw [if_neg (by rw [HE.out]; omega)]
  go_wp2_with fail
  refine (checkCentres_any n m a l.length cap cs b bc w1 hml HM1.out).mono ?_
  rintro e w2 ⟨rfl, hb2⟩
  have HB2 : Hid (Below p w w2) := HB1.out.trans (hb2.mono (by omega))
  have hg2 := (hb2.block p hpz1).trans hg1
  obtain ⟨⟨d0, d1'⟩, _⟩ := two_cells hg2
  have HM2 := Lib.hid (HM1.out.on hb2)
  have HR2 := Lib.hid (HR1.out.on hb2)
  have HO2 : Hid (OwnP w2 W.heap.size v1 c1 (prl l)) := own_on HO1.out hb2
  have hwz2 : w1.heap.size ≤ w2.heap.size := hb2.size
  rw [← HGM.out]
  clear hb2 c0 c1' hg1
  by_cases hG : G ≠ 0
  · have e1 : (G != 0) = true := by simpa using hG
    have e2 : (G == 0) = false := by simpa using hG
    go_wp2_with fail
    go_ret2
    exact ⟨none, 0, [], rfl, ⟨rfl, .inl ⟨rfl, rfl⟩⟩, fun h => absurd h hG, fun _ => rfl, HB2.out⟩
  obtain rfl : G = 0 := by omega
  clear hG
  obtain ⟨hcl, hm1, hm2, hcs⟩ := ceE_zero HGM.out.symm
  have HCS := Lib.hid hcs
  have hn2 : n ≤ 1024 := by have := (chk_zero HE.out).2.1; omega
  have HSP : Hid (∀ q, q ∈ prl l → Sm q) := fun q hq => by
    have := prl_lt (chk_zero HE.out).2.2.2 hq
    exact ⟨by omega, by omega⟩
  have hpl : (prl l).length ≤ 8192 := Nat.le_trans (prl_len l) (chk_zero HE.out).2.2.1
  have hmm := @run_makeMap Try.prog
  obtain ⟨i4, hi4, hz4, hs4, hb4⟩ := info_parts info4
  have hmk : ∀ w, (Instr.makeSlice 34 (.int .i64 n) (.int .i64 n)).run Try.prog w = .ok (.slice (some ⟨w.heap.size, 0, none⟩) n n) (w.alloc (.cells ((List.range n).map (fun _ => Value.bool false)).toArray 4)) := fun w => by
    have := run_make (P := Try.prog) w 34 4 i4 (.bool false) Try.underlying34 hi4 hz4 .i64 .i64 n n (by omega) (by omega) (by rw [hb4]; omega) (by omega)
    rw [this, Int.toNat_natCast, hs4, made_bool]
  clear hcs hi4 hz4 hs4 hb4
  clear i4
  go_wp2_with fail
  have d0m : (w2.alloc (.map #[] 0)).cell? ⟨p, 0, none⟩ = some (.int .i64 n) := (World.cell?_of_block (a := ⟨p, 0, none⟩) (Below.heap_alloc w2 (.map #[] 0) p (lt_of_block hg2))).trans d0
  obtain ⟨ix, ox, hix⟩ := HM2.out.get
  have HIX := Lib.hid hix
  clear hix
  have hpw2 : p < w2.heap.size := lt_of_block hg2
  go_region
  · have HMU : Hid (MapS ((w2.alloc (.map #[] 0)).alloc (.cells ((List.range n).map (fun _ => Value.bool false)).toArray 4)).drew w2.heap.size 0 []) := by
      have h : MapS ((w2.alloc (.map #[] 0)).alloc (.cells ((List.range n).map (fun _ => Value.bool false)).toArray 4)) w2.heap.size 0 [] := (MapS.made w2).kept (row := none) (World.grownBy_alloc _ _ none) (by simp)
      exact h
    have HTU : Hid (TbV ((w2.alloc (.map #[] 0)).alloc (.cells ((List.range n).map (fun _ => Value.bool false)).toArray 4)).drew (w2.heap.size + 1) n 4 (fun v => .bool (decide (v ∈ (cs.take 0).map Int.toNat)))) := by
      have := heap_top (w2.alloc (.map #[] 0)) (.cells ((List.range n).map (fun _ => Value.bool false)).toArray 4)
      rw [World.size_alloc] at this
      exact this
    have HBU : Hid (Below w2.heap.size w2 ((w2.alloc (.map #[] 0)).alloc (.cells ((List.range n).map (fun _ => Value.bool false)).toArray 4)).drew) := below_drew (((Below.refl _ _).alloc (Nat.le_refl _) _).alloc (by simp) _)
    generalize ((w2.alloc (.map #[] 0)).alloc (.cells ((List.range n).map (fun _ => Value.bool false)).toArray 4)).drew = U at *
    clear hmm hmk d0m d0 d1'
    generalize hdb : w2.heap.size + 1 = db at *
    generalize hq2 : w2.heap.size = mb at *
    have hmd : mb ≠ db := by omega
    go_wp2_with fail
    go_loopw [40] (fun i wr => ∃ (k nn : Nat) (S : List Pr) (cf : Nat → List Pr), k ≤ cs.length ∧ i = .int .i64 k ∧ Hid (nn ≤ k * 8192) ∧ Hid (MapS wr mb nn S) ∧ Hid (TbV wr db n 4 (fun v => .bool (decide (v ∈ (cs.take k).map Int.toNat)))) ∧ Hid (Below mb w2 wr) ∧ Hid (Held n l m.toNat ((cs.take k).map Int.toNat) S cf)) (fun i _ => cs.length - (intOf i).toNat)
    case atStart => exact ⟨0, 0, [], fun _ => [], Nat.zero_le _, rfl, Nat.zero_le _, HMU, HTU, HBU, ⟨fun c hc => (by cases hc), fun p => ⟨fun h => (by cases h), fun ⟨c, h, _⟩ => (by cases h)⟩⟩⟩
    case round =>
      obtain ⟨k, nn, S, cf, hk, rfl, HNN, HMR, HTR, HBR, HHD⟩ := hrel
      by_cases hlk : k < cs.length
      · obtain ⟨rfl, hbl, hat⟩ := HIX.out (by omega)
        have hlk' : (k : Int) < cs.length := by omega
        have y0 := (HBR.out.cell (p := ⟨ix, ox + k, none⟩) (by omega)).trans (hat k hlk)
        have HTK : Hid (cs.take (k + 1) = cs.take k ++ [cs.getD k 0]) := by
          show _ = _
          rw [List.take_succ_eq_append_getElem hlk]
          simp [List.getD, List.getElem?_eq_getElem hlk]
        have HME := Lib.hid (HCS.out (cs.getD k 0) (by simp [List.getD, List.getElem?_eq_getElem hlk]))
        clear hat
        generalize cs.getD k 0 = x at *
        obtain ⟨c, hxc⟩ : ∃ c : Nat, x = c := ⟨x.toNat, by have := HME.out.1; omega⟩
        subst hxc
        have hcn : c < n := by have := HME.out.2; omega
        have hcn' : (c : Int) < n := by omega
        have t1 := HTR.out.cell hcn
        have t2 := HTR.out.free c
        have HTM : Hid ((cs.take (k + 1)).map Int.toNat = (cs.take k).map Int.toNat ++ [c]) := by show _ = _; rw [HTK.out, List.map_append]; rfl
        have HDT : Hid (∀ v, decide (v ∈ (cs.take (k + 1)).map Int.toNat) = (decide (v ∈ (cs.take k).map Int.toNat) || decide (v = c))) := fun v => by rw [HTM.out, Bool.eq_iff_iff]; simp
        obtain ⟨ql, HQL⟩ := named ((cs.take k).map Int.toNat)
        rw [HQL.out] at HTM HDT HTR HHD
        rw [HQL.out] at t1
        by_cases hcq : c ∈ ql
        · have hd1 : decide (c ∈ ql) = true := decide_eq_true hcq
          rw [hd1] at t1
          have HC2 := Lib.hid (HHD.out.again hcq)
          clear hd1
          go_wp2_with fail
          refine ⟨⟨k + 1, nn, S, cf, by omega, by simp, Lib.hid (by have := HNN.out; omega), HMR, Lib.hid ?_, HBR, Lib.hid (by rw [HTM.out]; exact HC2.out)⟩, by simp [intOf]; omega⟩
          refine HTR.out.congr (fun v _ => ?_)
          rw [HDT.out v]
          by_cases e : v = c
          · subst e; simp [hcq]
          · simp [e]
        · have hd1 : decide (c ∈ ql) = false := decide_eq_false hcq
          rw [hd1] at t1
          clear hd1
          have HT2 : Hid (TbV (wr.setCell ⟨db, c, none⟩ (.bool true)) db n 4 (fun v => .bool (decide (v ∈ (cs.take (k + 1)).map Int.toNat)))) := (HTR.out.set c (.bool true)).congr (fun v _ => by
            by_cases e : v = c
            · subst e; rw [updV_self, HDT.out v]; simp
            · rw [updV_ne _ _ e, HDT.out v]; simp [e])
          have HM2' : Hid (MapS (wr.setCell ⟨db, c, none⟩ (.bool true)) mb nn S) := HMR.out.set hmd _
          have HB2' : Hid (Below mb w2 (wr.setCell ⟨db, c, none⟩ (.bool true))) := HBR.out.setCell (by show mb ≤ db; omega) _
          have hg3 : (wr.setCell ⟨db, c, none⟩ (.bool true)).heap[p]? = some (.cells #[.int .i64 n, .slice a l.length cap] 24) := (HB2'.out.block p (by omega)).trans hg2
          obtain ⟨⟨r0, r1⟩, _⟩ := two_cells hg3
          go_wp2_with fail
          generalize hV : wr.setCell ⟨db, c, none⟩ (.bool true) = V at *
          clear hV
          refine (cutAround_any n c m a l cap v1 c1 V HE.out (HR2.out.on (hq2 ▸ HB2'.out)) (HO2.out.prs.on (hq2 ▸ HB2'.out))).mono ?_
          rintro e u3 ⟨v3, c3, xs, rfl, hown3, hci, _, hb3⟩
          have hgc := gchk_ok (m := m) HE.out hcn hm1 hm2
          rw [hgc] at hci ⊢
          have HCI := Lib.hid (hci rfl)
          rw [Int.toNat_natCast] at HCI
          have hmV : mb < V.heap.size := HM2'.out.lt
          have HM3 : Hid (MapS u3 mb nn S) := HM2'.out.kept (row := none) (gby_below hb3) (by simp)
          have HT3 := Lib.hid (HT2.out.same (hb3.block db HT2.out.lt))
          have HB3 : Hid (Below mb w2 u3) := HB2'.out.trans (hb3.mono (by have := HB2'.out.size; omega))
          have HPN := Lib.hid (hown3.offN hmV)
          have hxl : xs.length ≤ 8192 := Nat.le_trans HCI.out.len hpl
          have HSX : Hid (∀ q, q ∈ xs → Sm q) := fun q hq => HSP.out q (HCI.out.sub q hq)
          have HMO := Lib.hid (HHD.out.more hcq HCI.out)
          have hnn : nn ≤ 1000000000000 := by have := HNN.out; omega
          clear hown3 hci hb3 hgc t1 t2 r0 r1 hg3
          go_wp2_with fail
          refine (add_any u3 mb nn S xs v3 c3 (by omega) hnn HSX.out HPN.out HM3.out).mono ?_
          rintro e u4 ⟨rfl, hm4, hg4⟩
          have HM4 := Lib.hid hm4
          have HT4 := Lib.hid (HT3.out.same (hg4.block db HT3.out.lt (by intro e; injection e with e; exact hmd e.symm)))
          have HB4 : Hid (Below mb w2 u4) := HB3.out.grown hg4 (by have := HB3.out.size; omega) (fun j hj => by cases hj; omega)
          clear hm4 hg4
          go_wp2_with fail
          exact ⟨⟨k + 1, nn + xs.length, S ++ xs, _, by omega, by simp, Lib.hid (by have := HNN.out; omega), HM4, HT4, HB4, Lib.hid (by rw [HTM.out]; exact HMO.out)⟩, by simp [intOf]; omega⟩
      · have e0 : cs.take k = cs := List.take_of_length_le (by omega)
        have hlk' : ¬ (k : Int) < cs.length := by omega
        rw [e0] at HHD
        clear e0
        have HCP := Lib.hid (own_cap HO2.out)
        have HPO : Hid (PrsN wr v1 (prl l) mb) := HO2.out.prs.off (hq2 ▸ HBR.out) (by omega)
        go_wp2_with fail
        refine (takeFrom_any wr mb nn S (prl l) v1 c1 hpl HCP.out.1 HCP.out.2 (prl_nodup l) HSP.out HPO.out HMR.out).mono ?_
        rintro e w9 ⟨vt, ct, vo, co, rfl, hta, _, hg9⟩
        have HB9 : Hid (Below mb w2 w9) := HBR.out.grown hg9 (by have := HBR.out.size; omega) (fun j hj => by cases hj; omega)
        obtain ⟨TA, HTA⟩ := named ((prl l).filter (fun p => decide (p ∈ S)))
        obtain ⟨ol, hol⟩ : ∃ ol, ((prl l).filter (fun p => !decide (p ∈ S))).length = ol := ⟨_, rfl⟩
        rw [HTA.out] at hta ⊢
        rw [hol]
        have HOA : Hid (OwnP w9 p vt ct TA) := own_base hta (by have := HBR.out.size; omega)
        have HMI : Hid (MarksIs n l (cs.map Int.toNat) m.toNat TA) := ⟨cf, HHD.out.1, by
          rw [← HTA.out]
          refine List.filter_congr (fun p _ => ?_)
          rw [Bool.eq_iff_iff]
          simp only [decide_eq_true_eq]
          exact HHD.out.2 p⟩
        clear hta hg9 hol
        go_wp2_with fail
        go_ret2
        exact ⟨vt, ct, TA, rfl, HOA.out, HMI, trivial, HB2.out.trans (HB9.out.mono (by omega))⟩
  · have HMU : Hid (MapS ((w2.alloc (.cells ((List.range n).map (fun _ => Value.bool false)).toArray 4)).alloc (.map #[] 0)).drew (w2.heap.size + 1) 0 []) := by
      have := MapS.made (w2.alloc (.cells ((List.range n).map (fun _ => Value.bool false)).toArray 4))
      rw [World.size_alloc] at this
      exact this
    have HTU : Hid (TbV ((w2.alloc (.cells ((List.range n).map (fun _ => Value.bool false)).toArray 4)).alloc (.map #[] 0)).drew w2.heap.size n 4 (fun v => .bool (decide (v ∈ (cs.take 0).map Int.toNat)))) := (Below.heap_alloc _ _ _ (by simp)).trans (heap_top w2 _)
    have HBU : Hid (Below w2.heap.size w2 ((w2.alloc (.cells ((List.range n).map (fun _ => Value.bool false)).toArray 4)).alloc (.map #[] 0)).drew) := below_drew (((Below.refl _ _).alloc (Nat.le_refl _) _).alloc (by simp) _)
    generalize ((w2.alloc (.cells ((List.range n).map (fun _ => Value.bool false)).toArray 4)).alloc (.map #[] 0)).drew = U at *
    clear hmm hmk d0m d0 d1'
    generalize hdb : w2.heap.size + 1 = mb at *
    generalize hq2 : w2.heap.size = db at *
    have hmd : mb ≠ db := by omega
    go_wp2_with fail
    go_loopw [40] (fun i wr => ∃ (k nn : Nat) (S : List Pr) (cf : Nat → List Pr), k ≤ cs.length ∧ i = .int .i64 k ∧ Hid (nn ≤ k * 8192) ∧ Hid (MapS wr mb nn S) ∧ Hid (TbV wr db n 4 (fun v => .bool (decide (v ∈ (cs.take k).map Int.toNat)))) ∧ Hid (Below db w2 wr) ∧ Hid (Held n l m.toNat ((cs.take k).map Int.toNat) S cf)) (fun i _ => cs.length - (intOf i).toNat)
    case atStart => exact ⟨0, 0, [], fun _ => [], Nat.zero_le _, rfl, Nat.zero_le _, HMU, HTU, HBU, ⟨fun c hc => (by cases hc), fun p => ⟨fun h => (by cases h), fun ⟨c, h, _⟩ => (by cases h)⟩⟩⟩
    case round =>
      obtain ⟨k, nn, S, cf, hk, rfl, HNN, HMR, HTR, HBR, HHD⟩ := hrel
      by_cases hlk : k < cs.length
      · obtain ⟨rfl, hbl, hat⟩ := HIX.out (by omega)
        have hlk' : (k : Int) < cs.length := by omega
        have y0 := (HBR.out.cell (p := ⟨ix, ox + k, none⟩) (by omega)).trans (hat k hlk)
        have HTK : Hid (cs.take (k + 1) = cs.take k ++ [cs.getD k 0]) := by
          show _ = _
          rw [List.take_succ_eq_append_getElem hlk]
          simp [List.getD, List.getElem?_eq_getElem hlk]
        have HME := Lib.hid (HCS.out (cs.getD k 0) (by simp [List.getD, List.getElem?_eq_getElem hlk]))
        clear hat
        generalize cs.getD k 0 = x at *
        obtain ⟨c, hxc⟩ : ∃ c : Nat, x = c := ⟨x.toNat, by have := HME.out.1; omega⟩
        subst hxc
        have hcn : c < n := by have := HME.out.2; omega
        have hcn' : (c : Int) < n := by omega
        have t1 := HTR.out.cell hcn
        have t2 := HTR.out.free c
        have HTM : Hid ((cs.take (k + 1)).map Int.toNat = (cs.take k).map Int.toNat ++ [c]) := by show _ = _; rw [HTK.out, List.map_append]; rfl
        have HDT : Hid (∀ v, decide (v ∈ (cs.take (k + 1)).map Int.toNat) = (decide (v ∈ (cs.take k).map Int.toNat) || decide (v = c))) := fun v => by rw [HTM.out, Bool.eq_iff_iff]; simp
        obtain ⟨ql, HQL⟩ := named ((cs.take k).map Int.toNat)
        rw [HQL.out] at HTM HDT HTR HHD
        rw [HQL.out] at t1
        by_cases hcq : c ∈ ql
        · have hd1 : decide (c ∈ ql) = true := decide_eq_true hcq
          rw [hd1] at t1
          have HC2 := Lib.hid (HHD.out.again hcq)
          clear hd1
          go_wp2_with fail
          refine ⟨⟨k + 1, nn, S, cf, by omega, by simp, Lib.hid (by have := HNN.out; omega), HMR, Lib.hid ?_, HBR, Lib.hid (by rw [HTM.out]; exact HC2.out)⟩, by simp [intOf]; omega⟩
          refine HTR.out.congr (fun v _ => ?_)
          rw [HDT.out v]
          by_cases e : v = c
          · subst e; simp [hcq]
          · simp [e]
        · have hd1 : decide (c ∈ ql) = false := decide_eq_false hcq
          rw [hd1] at t1
          clear hd1
          have HT2 : Hid (TbV (wr.setCell ⟨db, c, none⟩ (.bool true)) db n 4 (fun v => .bool (decide (v ∈ (cs.take (k + 1)).map Int.toNat)))) := (HTR.out.set c (.bool true)).congr (fun v _ => by
            by_cases e : v = c
            · subst e; rw [updV_self, HDT.out v]; simp
            · rw [updV_ne _ _ e, HDT.out v]; simp [e])
          have HM2' : Hid (MapS (wr.setCell ⟨db, c, none⟩ (.bool true)) mb nn S) := HMR.out.set hmd _
          have HB2' : Hid (Below db w2 (wr.setCell ⟨db, c, none⟩ (.bool true))) := HBR.out.setCell (by show db ≤ db; omega) _
          have hg3 : (wr.setCell ⟨db, c, none⟩ (.bool true)).heap[p]? = some (.cells #[.int .i64 n, .slice a l.length cap] 24) := (HB2'.out.block p (by omega)).trans hg2
          obtain ⟨⟨r0, r1⟩, _⟩ := two_cells hg3
          go_wp2_with fail
          generalize hV : wr.setCell ⟨db, c, none⟩ (.bool true) = V at *
          clear hV
          refine (cutAround_any n c m a l cap v1 c1 V HE.out (HR2.out.on (hq2 ▸ HB2'.out)) (HO2.out.prs.on (hq2 ▸ HB2'.out))).mono ?_
          rintro e u3 ⟨v3, c3, xs, rfl, hown3, hci, _, hb3⟩
          have hgc := gchk_ok (m := m) HE.out hcn hm1 hm2
          rw [hgc] at hci ⊢
          have HCI := Lib.hid (hci rfl)
          rw [Int.toNat_natCast] at HCI
          have hmV : mb < V.heap.size := HM2'.out.lt
          have HM3 : Hid (MapS u3 mb nn S) := HM2'.out.kept (row := none) (gby_below hb3) (by simp)
          have HT3 := Lib.hid (HT2.out.same (hb3.block db HT2.out.lt))
          have HB3 : Hid (Below db w2 u3) := HB2'.out.trans (hb3.mono (by have := HB2'.out.size; omega))
          have HPN := Lib.hid (hown3.offN hmV)
          have hxl : xs.length ≤ 8192 := Nat.le_trans HCI.out.len hpl
          have HSX : Hid (∀ q, q ∈ xs → Sm q) := fun q hq => HSP.out q (HCI.out.sub q hq)
          have HMO := Lib.hid (HHD.out.more hcq HCI.out)
          have hnn : nn ≤ 1000000000000 := by have := HNN.out; omega
          clear hown3 hci hb3 hgc t1 t2 r0 r1 hg3
          go_wp2_with fail
          refine (add_any u3 mb nn S xs v3 c3 (by omega) hnn HSX.out HPN.out HM3.out).mono ?_
          rintro e u4 ⟨rfl, hm4, hg4⟩
          have HM4 := Lib.hid hm4
          have HT4 := Lib.hid (HT3.out.same (hg4.block db HT3.out.lt (by intro e; injection e with e; exact hmd e.symm)))
          have HB4 : Hid (Below db w2 u4) := HB3.out.grown hg4 (by have := HB3.out.size; omega) (fun j hj => by cases hj; omega)
          clear hm4 hg4
          go_wp2_with fail
          exact ⟨⟨k + 1, nn + xs.length, S ++ xs, _, by omega, by simp, Lib.hid (by have := HNN.out; omega), HM4, HT4, HB4, Lib.hid (by rw [HTM.out]; exact HMO.out)⟩, by simp [intOf]; omega⟩
      · have e0 : cs.take k = cs := List.take_of_length_le (by omega)
        have hlk' : ¬ (k : Int) < cs.length := by omega
        rw [e0] at HHD
        clear e0
        have HCP := Lib.hid (own_cap HO2.out)
        have HPO : Hid (PrsN wr v1 (prl l) mb) := HO2.out.prs.off (hq2 ▸ HBR.out) (by omega)
        go_wp2_with fail
        refine (takeFrom_any wr mb nn S (prl l) v1 c1 hpl HCP.out.1 HCP.out.2 (prl_nodup l) HSP.out HPO.out HMR.out).mono ?_
        rintro e w9 ⟨vt, ct, vo, co, rfl, hta, _, hg9⟩
        have HB9 : Hid (Below db w2 w9) := HBR.out.grown hg9 (by have := HBR.out.size; omega) (fun j hj => by cases hj; omega)
        obtain ⟨TA, HTA⟩ := named ((prl l).filter (fun p => decide (p ∈ S)))
        obtain ⟨ol, hol⟩ : ∃ ol, ((prl l).filter (fun p => !decide (p ∈ S))).length = ol := ⟨_, rfl⟩
        rw [HTA.out] at hta ⊢
        rw [hol]
        have HOA : Hid (OwnP w9 p vt ct TA) := own_base hta (by have := HBR.out.size; omega)
        have HMI : Hid (MarksIs n l (cs.map Int.toNat) m.toNat TA) := ⟨cf, HHD.out.1, by
          rw [← HTA.out]
          refine List.filter_congr (fun p _ => ?_)
          rw [Bool.eq_iff_iff]
          simp only [decide_eq_true_eq]
          exact HHD.out.2 p⟩
        clear hta hg9 hol
        go_wp2_with fail
        go_ret2
        exact ⟨vt, ct, TA, rfl, HOA.out, HMI, trivial, HB2.out.trans (HB9.out.mono (by omega))⟩
end Go.Proofs.Ytpgadcacimjlaaa
namespace Go.Proofs.Ytpgadcacimjlaaa.T3
open Go.RowKit
/-- A leader leads himself, and follows none that is greater. -/
structure RT (R : Nat → Nat) : Prop where
  rle : ∀ v, R v ≤ v
  rr : ∀ v, R (R v) = R v
theorem RT.mg {R : Nat → Nat} (h : RT R) (a b : Nat) : RT (mg R a b) := by
  have ra := h.rr a
  have rb := h.rr b
  have hm : R (min (R a) (R b)) = min (R a) (R b) := by
    rcases Nat.le_total (R a) (R b) with e | e
    · rw [Nat.min_eq_left e]; exact ra
    · rw [Nat.min_eq_right e]; exact rb
  have hle : min (R a) (R b) ≤ max (R a) (R b) := by omega
  unfold Go.Proofs.Ytpgadcacimjlaaa.T3.mg
  generalize min (R a) (R b) = m at *
  generalize max (R a) (R b) = M at *
  refine ⟨fun v => ?_, fun v => ?_⟩
  · have := h.rle v
    unfold mgW
    split <;> omega
  · by_cases e : R v = M
    · rw [show mgW R M m v = m from if_pos e]
      unfold mgW
      rw [hm]; split <;> rfl
    · rw [show mgW R M m v = R v from if_neg e]
      unfold mgW
      rw [h.rr v, if_neg e]
theorem foldl_RT : ∀ (l : List A) (R : Nat → Nat), RT R → RT (l.foldl (fun R x => mg R x.f.toNat x.t.toNat) R)
  | [], _, h => h
  | _ :: r, _, h => foldl_RT r _ (h.mg _ _)
theorem lead_RT (l : List A) : RT (lead l) := foldl_RT l id ⟨fun _ => Nat.le_refl _, fun _ => rfl⟩
theorem foldl_eq : ∀ (l : List A) (R : Nat → Nat) (u v : Nat), R u = R v → l.foldl (fun R x => mg R x.f.toNat x.t.toNat) R u = l.foldl (fun R x => mg R x.f.toNat x.t.toNat) R v
  | [], _, _, _, h => h
  | x :: r, R, u, v, h => foldl_eq r _ u v (by simp only [mg, mgW, h])
theorem mg_joins (R : Nat → Nat) (a b : Nat) : mg R a b a = mg R a b b := by
  unfold mg mgW
  rcases Nat.lt_trichotomy (R a) (R b) with e | e | e
  · rw [if_neg (by omega), if_pos (by omega)]; omega
  · rw [e]
  · rw [if_pos (by omega), if_neg (by omega)]; omega
theorem foldl_arc : ∀ (l : List A) (R : Nat → Nat) (x : A), x ∈ l → l.foldl (fun R x => mg R x.f.toNat x.t.toNat) R x.f.toNat = l.foldl (fun R x => mg R x.f.toNat x.t.toNat) R x.t.toNat
  | y :: r, R, x, h => by
    rcases List.mem_cons.1 h with rfl | h
    · exact foldl_eq r _ _ _ (mg_joins R _ _)
    · exact foldl_arc r _ x h
theorem lead_arc {l : List A} {x : A} (h : x ∈ l) : lead l x.f.toNat = lead l x.t.toNat := foldl_arc l id x h
theorem foldl_const {S : Nat → Nat} : ∀ (l : List A) (R : Nat → Nat), (∀ x ∈ l, S x.f.toNat = S x.t.toNat) → (∀ v, S (R v) = S v) → ∀ v, S (l.foldl (fun R x => mg R x.f.toNat x.t.toNat) R v) = S v
  | [], _, _, h => h
  | x :: r, R, hl, h => foldl_const r _ (fun y hy => hl y (List.mem_cons_of_mem _ hy)) (fun v => by
      have e := hl x List.mem_cons_self
      have ea := h x.f.toNat
      have eb := h x.t.toNat
      show S (if R v = max (R x.f.toNat) (R x.t.toNat) then min (R x.f.toNat) (R x.t.toNat) else R v) = S v
      split
      · rename_i hv
        rw [← h v, hv]
        rcases Nat.le_total (R x.f.toNat) (R x.t.toNat) with k | k
        · rw [Nat.min_eq_left k, Nat.max_eq_right k, ea, eb, e]
        · rw [Nat.min_eq_right k, Nat.max_eq_left k, ea, eb, e]
      · exact h v)
/-- What no arc leads out of is the same at the leader. -/
theorem lead_const {S : Nat → Nat} {l : List A} (hl : ∀ x ∈ l, S x.f.toNat = S x.t.toNat) (v : Nat) : S (lead l v) = S v := foldl_const l id hl (fun _ => rfl) v
theorem cnt_mono (R : Nat → Nat) {m n : Nat} (h : m ≤ n) : cnt R m ≤ cnt R n := by
  induction n with
  | zero => have : m = 0 := by omega
            subst this; exact Nat.le_refl _
  | succ n ih =>
    by_cases e : m = n + 1
    · subst e; exact Nat.le_refl _
    · have := ih (by omega)
      show _ ≤ (if R n = n then cnt R n + 1 else cnt R n)
      split <;> omega
theorem cnt_root {R : Nat → Nat} {r n : Nat} (hr : R r = r) (h : r < n) : cnt R r < cnt R n := by
  have h1 : cnt R (r + 1) = cnt R r + 1 := by rw [cnt, if_pos hr]
  have := cnt_mono R (show r + 1 ≤ n by omega)
  omega
theorem cnt_inj {R : Nat → Nat} {r s : Nat} (hr : R r = r) (hs : R s = s) (h : cnt R r = cnt R s) : r = s := by
  rcases Nat.lt_trichotomy r s with e | e | e
  · have := cnt_root hr e; omega
  · exact e
  · have := cnt_root hs e; omega
theorem cnt_find {R : Nat → Nat} : ∀ {n p : Nat}, p < cnt R n → ∃ v, v < n ∧ R v = v ∧ cnt R v = p
  | 0, _, h => absurd h (by simp [cnt])
  | n + 1, p, h => by
    by_cases hn : R n = n
    · rw [cnt, if_pos hn] at h
      by_cases e : p = cnt R n
      · exact ⟨n, by omega, hn, e.symm⟩
      · obtain ⟨v, h1, h2⟩ := cnt_find (R := R) (n := n) (p := p) (by omega)
        exact ⟨v, by omega, h2⟩
    · rw [cnt, if_neg hn] at h
      obtain ⟨v, h1, h2⟩ := cnt_find h
      exact ⟨v, by omega, h2⟩
/-- Labels are tidy. -/
theorem lab_step {R : Nat → Nat} (h : RT R) (k : Nat) : (lab R k = cnt R k ∧ cnt R (k + 1) = cnt R k + 1) ∨ (lab R k < cnt R k ∧ cnt R (k + 1) = cnt R k) := by
  by_cases e : R k = k
  · exact Or.inl ⟨by unfold lab; rw [e], by rw [cnt, if_pos e]⟩
  · have := h.rle k
    exact Or.inr ⟨by unfold lab; exact cnt_root (h.rr k) (by omega), by rw [cnt, if_neg e]⟩
theorem lab_lead {R : Nat → Nat} (h : RT R) {u v : Nat} (e : lab R u = lab R v) : R u = R v := cnt_inj (h.rr u) (h.rr v) e
theorem lab_arc {l : List A} {x : A} (h : x ∈ l) : lab (lead l) x.f.toNat = lab (lead l) x.t.toNat := by unfold lab; rw [lead_arc h]
theorem lead_le {l m : List A} (h : ∀ x ∈ l, lead m x.f.toNat = lead m x.t.toNat) (v : Nat) : lead m v ≤ lead l v := by
  rw [← lead_const h v]
  exact (lead_RT m).rle _
theorem lead_one {l m : List A} (h1 : ∀ x ∈ l, lead m x.f.toNat = lead m x.t.toNat) (h2 : ∀ x ∈ m, lead l x.f.toNat = lead l x.t.toNat) : lead l = lead m := by
  funext v
  exact Nat.le_antisymm (lead_le h2 v) (lead_le h1 v)
end Go.Proofs.Ytpgadcacimjlaaa.T3
namespace Go.Proofs.Ytpgadcacimjlaaa
open Go.RowKit
theorem tdy_labs {R : Nat → Nat} (h : T3.RT R) (n : Nat) : ∀ j k, k + j = n → tdy ((T3.ints (T3.labs R n)).drop k) (T3.cnt R k) = true
  | 0, k, e => by
    rw [List.drop_eq_nil_of_le (by rw [T3.ints_len, T3.labs_len]; omega)]
    rfl
  | j + 1, k, e => by
    have hk : k < (T3.ints (T3.labs R n)).length := by rw [T3.ints_len, T3.labs_len]; omega
    have ih := tdy_labs h n j (k + 1) (by omega)
    rw [drop_getI hk, T3.ints_getD, T3.labs_getD R n k (by omega)]
    simp only [tdy]
    rcases T3.lab_step h k with ⟨h1, h2⟩ | ⟨h1, h2⟩
    · rw [h1, if_neg (by omega), if_pos rfl]
      rw [h2] at ih
      exact ih
    · rw [if_neg (by omega), if_neg (by omega)]
      rw [h2] at ih
      exact ih
theorem tdy_parts {n : Nat} {l : List T3.A} (h : T3.chkE n l = 0) : tdy (T3.partsL n l) 0 = true ∧ (T3.partsL n l).length = n ∧ ∀ v, v < n → (T3.partsL n l).getD v 0 = (T3.lab (T3.lead l) v : Nat) := by
  unfold T3.partsL
  rw [if_pos h, Int.toNat_natCast]
  refine ⟨?_, by rw [T3.ints_len, T3.labs_len], fun v hv => by rw [T3.ints_getD, T3.labs_getD _ n v hv]⟩
  have := tdy_labs (T3.lead_RT l) n n 0 (by omega)
  exact this
/-- An arc in the words of the graph's texts. -/
def toT (x : A) : T3.A := ⟨x.f, x.t, x.w⟩
theorem toT_at {x : A} {w : World} {b o : Nat} (h : x.at w b o) : (toT x).at w b o := h
theorem mapT_getD (l : List A) (j : Nat) (hj : j < l.length) : (l.map toT).getD j T3.A.zero = toT (l.getD j A.zero) := by simp [List.getD, hj]
theorem arcs_T {w : World} {a : Option Addr} {l : List A} (h : Arcs w a l) : T3.Arcs w a (l.map toT) := by
  rcases h with rfl | ⟨b, o, rfl, hl, hc⟩
  · exact .inl rfl
  · refine .inr ⟨b, o, rfl, hl, fun j hj => ?_⟩
    have hj' : j < l.length := by simpa using hj
    rw [mapT_getD l j hj']
    exact toT_at (hc j hj')
theorem okA_T (N : Int) : (T3.okA N ∘ toT) = okA N := by funext x; rfl
theorem chkE_T (N : Int) (l : List A) : T3.chkE N (l.map toT) = chkE N l := by
  unfold T3.chkE chkE
  rw [List.length_map, List.all_map, okA_T]
theorem lead_prl {n : Nat} {l : List A} (h : chkE n l = 0) : T3.lead (l.map toT) = T3.lead (arQ (prl l)) := by
  have hoa := (chk_zero h).2.2.2
  have hpo : ∀ x, x ∈ l → 0 ≤ x.f ∧ 0 ≤ x.t := fun x hx => ⟨(hoa x hx).1.1, (hoa x hx).2.1⟩
  refine T3.lead_one (fun y hy => ?_) (fun y hy => ?_)
  · obtain ⟨x, hx, rfl⟩ := List.mem_map.1 hy
    show T3.lead (arQ (prl l)) x.f.toNat = T3.lead (arQ (prl l)) x.t.toNat
    have hp := hpo x hx
    by_cases e : x.f = x.t
    · rw [e]
    · have key : ∀ c d : Nat, c < d → nr l c d = true → T3.lead (arQ (prl l)) c = T3.lead (arQ (prl l)) d := fun c d hcd hn => by
        have hm : (⟨c, d⟩ : Pr) ∈ prl l := (prl_mem hpo).2 ⟨hcd, hn⟩
        have := T3.lead_arc (l := arQ (prl l)) (x := ⟨(c : Int), (d : Int), 0⟩) (List.mem_map.2 ⟨_, hm, rfl⟩)
        simpa using this
      rcases Nat.lt_or_gt_of_ne (show x.f.toNat ≠ x.t.toNat by omega) with hlt | hlt
      · refine key _ _ hlt ?_
        unfold nr
        rw [List.any_eq_true]
        refine ⟨x, hx, ?_⟩
        simp only [Bool.or_eq_true, Bool.and_eq_true, beq_iff_eq]
        omega
      · refine (key _ _ hlt ?_).symm
        unfold nr
        rw [List.any_eq_true]
        refine ⟨x, hx, ?_⟩
        simp only [Bool.or_eq_true, Bool.and_eq_true, beq_iff_eq]
        omega
  · obtain ⟨p, hp, rfl⟩ := List.mem_map.1 hy
    obtain ⟨_, hn⟩ := (prl_mem hpo).1 hp
    unfold nr at hn
    obtain ⟨x, hx, hx2⟩ := List.any_eq_true.1 hn
    have h1 := T3.lead_arc (l := l.map toT) (List.mem_map.2 ⟨x, hx, rfl⟩)
    simp only [Bool.or_eq_true, Bool.and_eq_true, beq_iff_eq] at hx2
    have h2 : T3.lead (l.map toT) x.f.toNat = T3.lead (l.map toT) x.t.toNat := h1
    show T3.lead (l.map toT) ((p.a : Int)).toNat = T3.lead (l.map toT) ((p.b : Int)).toNat
    rcases hx2 with ⟨e1, e2⟩ | ⟨e1, e2⟩
    · rw [← e1, ← e2]; exact h2
    · rw [← e1, ← e2]; exact h2.symm
theorem others_nil (l : List A) : others l [] = prl l := by
  unfold others
  exact List.filter_eq_self.2 (fun p _ => by simp)
/-- Without marks fragments are the graph's parts. -/
theorem parts_none {n : Nat} {l : List A} (h : chkE n l = 0) : T3.partsL n (l.map toT) = T3.partsL n (arQ (others l [])) := by
  unfold T3.partsL
  rw [if_pos ((chkE_T n l).trans h), if_pos (others_ok h []), others_nil, lead_prl h]
/-- An unmarked pair lies in one fragment. -/
theorem unmarked_same {n : Nat} {l : List A} {ms : List Pi2} (h : chkE n l = 0) {p : Pr} (hp : p ∈ prl l) (hm : p ∉ ms.map Pi2.nat) : (T3.partsL n (arQ (others l ms))).getD p.a 0 = (T3.partsL n (arQ (others l ms))).getD p.b 0 := by
  have hlt := prl_lt (chk_zero h).2.2.2 hp
  obtain ⟨_, _, h3⟩ := tdy_parts (others_ok h ms)
  rw [h3 _ hlt.1, h3 _ hlt.2]
  have hm' : p ∈ others l ms := List.mem_filter.2 ⟨hp, by simpa using hm⟩
  have := T3.lab_arc (l := arQ (others l ms)) (x := ⟨(p.a : Int), (p.b : Int), 0⟩) (List.mem_map.2 ⟨_, hm', rfl⟩)
  have e : T3.lab (T3.lead (arQ (others l ms))) p.a = T3.lab (T3.lead (arQ (others l ms))) p.b := by simpa using this
  rw [e]
/-- Pairs as they are given. -/
def toI (p : Pr) : Pi2 := ⟨(p.a : Int), (p.b : Int)⟩
theorem toI_nat (xs : List Pr) : (xs.map toI).map Pi2.nat = xs := by
  rw [List.map_map]
  conv => rhs; rw [← List.map_id xs]
  congr 1
theorem prs_I {w : World} {a : Option Addr} {xs : List Pr} (h : Prs w a xs) : PrI w a (xs.map toI) := by
  rcases h with rfl | ⟨b, o, e, hl, hc⟩
  · exact .inl rfl
  · refine .inr ⟨b, o, e, hl, fun j hj => ?_⟩
    have hj' : j < xs.length := by simpa using hj
    have e : (xs.map toI).getD j Pi2.zero = toI (xs.getD j Pr.zero) := by simp [List.getD, hj']
    rw [e]
    exact hc j hj'
theorem mk1_good {N : Int} : ∀ {ms : List Pi2}, (∀ p, p ∈ ms → (0 ≤ p.a ∧ p.a < N) ∧ (0 ≤ p.b ∧ p.b < N) ∧ p.a < p.b) → mk1 N ms = 0
  | [], _ => rfl
  | x :: r, h => by
    obtain ⟨h1, h2, h3⟩ := h x List.mem_cons_self
    simp only [mk1]
    rw [if_neg (by simp [okV, h1, h2]), if_neg (by omega)]
    exact mk1_good (fun p hp => h p (List.mem_cons_of_mem _ hp))
theorem frE_good {n : Nat} {l : List A} {xs : List Pr} (h : chkE n l = 0) (hs : ∀ p, p ∈ xs → p ∈ prl l) (hl : xs.length ≤ 16384) : frE n l (xs.map toI) = 0 := by
  have hoa := (chk_zero h).2.2.2
  unfold frE mkE
  rw [if_neg (by rw [h]; omega), if_neg (by rw [List.length_map]; omega)]
  refine mk1_good (fun q hq => ?_)
  obtain ⟨p, hp, rfl⟩ := List.mem_map.1 hq
  have h1 := prl_lt hoa (hs p hp)
  have h2 := ((prl_mem (fun x hx => ⟨(hoa x hx).1.1, (hoa x hx).2.1⟩)).1 (hs p hp)).1
  exact ⟨⟨by simp [toI], by simp [toI]; omega⟩, ⟨by simp [toI], by simp [toI]; omega⟩, by simp [toI]; omega⟩
end Go.Proofs.Ytpgadcacimjlaaa
namespace Go.Proofs.Ytpgadcacimjlaaa
open Go.RowKit Go.Maps
theorem split_at {ps : List Pr} {k : Nat} (hk : k < ps.length) (f : Pr → Bool) : ps.filter f = (ps.take k).filter f ++ ((ps.getD k Pr.zero :: ps.drop (k + 1)).filter f) := by
  conv => lhs; rw [← List.take_append_drop k ps]
  rw [List.filter_append, List.drop_eq_getElem_cons hk]
  simp [List.getD, List.getElem?_eq_getElem hk]
theorem next_t {ps : List Pr} {k : Nat} {f : Pr → Bool} (hk : k < ps.length) (h : f (ps.getD k Pr.zero) = true) : ((ps.take k).filter f).length < (ps.filter f).length ∧ (ps.filter f).getD ((ps.take k).filter f).length Pr.zero = ps.getD k Pr.zero := by
  rw [split_at hk f, List.filter_cons, if_pos h]
  refine ⟨by rw [List.length_append, List.length_cons]; omega, ?_⟩
  simp [List.getD]
set_option maxRecDepth 100000 in
set_option maxHeartbeats 6400000 in
theorem between_any (N m : Int) (a : Option Addr) (l : List A) (cap : Nat) (b : Option Addr) (cs : List Int) (bc : Nat) (w : World) (hl : l.length ≤ 9223372036854775807) (hml : cs.length ≤ 9223372036854775807) (hr : Arcs w a l) (hm : Ints w b cs) :
    Calls Try.prog 4 #[.agg #[.int .i64 N, .slice a l.length cap], .slice b cs.length bc, .int .i64 m] w fun e w' => e = .returned (.bool true) ∧ Below w.heap.size w w' := by
  have hb0 : Below w.heap.size w (w.alloc (.cells #[.int .i64 N, .slice a l.length cap] 24)) := (Below.refl _ _).alloc (Nat.le_refl _) _
  have hg := heap_top w (.cells #[.int .i64 N, .slice a l.length cap] 24)
  have HR := Lib.hid (hr.on hb0)
  have HM := Lib.hid (hm.on hb0)
  have hwz : w.heap.size ≤ (w.alloc (.cells #[.int .i64 N, .slice a l.length cap] 24)).heap.size := hb0.size
  have HB0 := Lib.hid hb0
  clear hb0 hr hm
  generalize hp : w.heap.size = p at *
  go_enter Try.func4, Try.ntmps4
  go_wp2_with fail
  generalize hW : w.alloc (.cells #[.int .i64 N, .slice a l.length cap] 24) = W at *
  clear hW
  have hpz : p < W.heap.size := lt_of_block hg
  refine (works_any W).mono ?_
  rintro e w1 ⟨rfl, hb1⟩
  have HB1 : Hid (Below p w w1) := HB0.out.trans (hb1.mono hwz)
  have hg1 := (hb1.block p hpz).trans hg
  obtain ⟨⟨c0, c1'⟩, _⟩ := two_cells hg1
  have HM1 := Lib.hid (HM.out.on hb1)
  have HR1 := Lib.hid (HR.out.on hb1)
  have hz1 : p < w1.heap.size := lt_of_block hg1
  clear hb1 HM HR hg hwz
  go_wp2_with fail
  refine (large_any N a l.length cap w1 hl).mono ?_
  rintro e w2 ⟨rfl, hb2⟩
  have HB2 : Hid (Below p w w2) := HB1.out.trans (hb2.mono (by omega))
  have hg2 := (hb2.block p hz1).trans hg1
  obtain ⟨⟨d0, d1'⟩, _⟩ := two_cells hg2
  have HM2 := Lib.hid (HM1.out.on hb2)
  have HR2 := Lib.hid (HR1.out.on hb2)
  have hz2 : p < w2.heap.size := lt_of_block hg2
  clear hb2 HM1 HR1 hg1 c0 c1'
  generalize hbig : decide (100 < N ∨ 400 < l.length) = big at *
  by_cases hB : big = true
  · subst hB
    go_wp2_with fail
    go_ret
    exact ⟨rfl, HB2.out⟩
  obtain rfl : big = false := by simpa using hB
  clear hB hbig
  by_cases hlong : 12 < cs.length
  · have hl12 : (12 : Int) < cs.length := by omega
    go_wp2_with fail
    go_ret
    exact ⟨rfl, HB2.out⟩
  have hl12 : ¬ (12 : Int) < cs.length := by omega
  go_wp2_with fail
  refine (marks_any N m a l cap b cs bc w2 hl hml HR2.out HM2.out).mono ?_
  rintro e w3 ⟨v3, c3, xs, rfl, hown3, hmi, hme, hb3⟩
  have HB3 : Hid (Below p w w3) := HB2.out.trans (hb3.mono (by omega))
  have hg3 := (hb3.block p hz2).trans hg2
  obtain ⟨⟨f0, f1'⟩, _⟩ := two_cells hg3
  have HR3 := Lib.hid (HR2.out.on hb3)
  have HO3 := Lib.hid hown3
  have hz3 : p < w3.heap.size := lt_of_block hg3
  obtain ⟨G, HG⟩ := named (maE N m l cs)
  rw [HG.out] at hmi hme ⊢
  clear hb3 hown3 HM2 HR2 hg2 d0 d1'
  by_cases hG : G ≠ 0
  · have e1 : (G != 0) = true := by simpa using hG
    have e2 : (G == 0) = false := by simpa using hG
    obtain rfl : xs = [] := hme.out hG
    go_wp2_with fail
    go_ret
    exact ⟨rfl, HB3.out⟩
  obtain rfl : G = 0 := by omega
  clear hG
  have HC0 : Hid (chkE N l = 0) := by
    show _ = _
    by_cases e : chkE N l = 0
    · exact e
    · have := HG.out; unfold maE at this; rw [if_pos e] at this; exact absurd this e
  obtain ⟨n, hn⟩ : ∃ n : Nat, N = n := ⟨N.toNat, by have := (chk_zero HC0.out).1; omega⟩
  subst hn
  have hpl : (prl l).length ≤ 8192 := Nat.le_trans (prl_len l) (chk_zero HC0.out).2.2.1
  have HND : Hid (∀ p, p ∈ prl l → p.a < n ∧ p.b < n) := fun p hp => prl_lt (chk_zero HC0.out).2.2.2 hp
  obtain ⟨cf, _, hxs⟩ := hmi.out rfl
  obtain ⟨f, HF⟩ := named (fun p : Pr => decide (∃ c ∈ cs.map Int.toNat, p ∈ cf c))
  rw [HF.out] at hxs
  have HXS := Lib.hid hxs
  have HSUB : Hid (∀ p, p ∈ xs → p ∈ prl l) := fun p hp => by rw [HXS.out] at hp; exact (List.mem_filter.1 hp).1
  have hxl : xs.length ≤ 8192 := by rw [hxs]; exact Nat.le_trans (List.length_filter_le _ _) hpl
  clear hxs hmi hme
  have HFR := Lib.hid (frag_any n a l cap v3 (xs.map toI) c3 w3 hl (by rw [List.length_map]; omega) HR3.out (prs_I HO3.out.prs))
  rw [frE_good HC0.out HSUB.out (by omega), List.length_map] at HFR
  obtain ⟨L, HL⟩ := named (frL n l (xs.map toI))
  rw [HL.out] at HFR
  have HLP : Hid (L = T3.partsL n (arQ (others l (xs.map toI)))) := by show _ = _; rw [← HL.out]; unfold frL; rw [if_pos (frE_good HC0.out HSUB.out (by omega))]
  have HLL : Hid (L.length = n ∧ tdy L 0 = true) := by
    obtain ⟨t1, t2, _⟩ := tdy_parts (others_ok HC0.out (xs.map toI))
    rw [HLP.out]; exact ⟨t2, t1⟩
  have HSM : Hid (∀ p, p ∈ prl l → p ∉ xs → L.getD p.a 0 = L.getD p.b 0) := fun p hp hx => by rw [HLP.out]; exact unmarked_same HC0.out hp (by rw [toI_nat]; exact hx)
  go_wp2_with fail
  refine HFR.out.mono ?_
  rintro e w4 ⟨a4, c4, rfl, hown4, hb4⟩
  have HB4 : Hid (Below p w w4) := HB3.out.trans (hb4.mono (by omega))
  have hg4 := (hb4.block p hz3).trans hg3
  obtain ⟨⟨k0, k1'⟩, _⟩ := two_cells hg4
  have HR4 := Lib.hid (HR3.out.on hb4)
  have HP4 := Lib.hid (HO3.out.prs.on hb4)
  have HI4 : Hid (Ints w4 a4 L) := own_intsI hown4
  have hz4 : p < w4.heap.size := lt_of_block hg4
  clear hb4 hown4 HR3 hg3 f0 f1' HO3 HFR
  go_wp2_with fail
  refine (pairs_any n a l cap w4 hl HR4.out).mono ?_
  rintro e w5 ⟨v5, c5, ps, rfl, hown5, hps, hb5⟩
  rw [HC0.out] at hps ⊢
  rw [if_pos rfl] at hps
  subst hps
  have HB5 : Hid (Below p w w5) := HB4.out.trans (hb5.mono (by omega))
  have hg5 := (hb5.block p hz4).trans hg4
  have HR5 := Lib.hid (HR4.out.on hb5)
  have HP5 := Lib.hid (HP4.out.on hb5)
  have HI5 := Lib.hid (HI4.out.on hb5)
  have HQ5 := Lib.hid hown5.prs
  have HG5 := Lib.hid hg5
  clear hb5 hown5 HR4 hg4 k0 k1' HP4 HI4
  obtain ⟨ix, ox, hix⟩ := HQ5.out.get
  have HIX := Lib.hid hix
  obtain ⟨iy, oy, hiy⟩ := HP5.out.get
  have HIY := Lib.hid hiy
  obtain ⟨iz, oz, hiz⟩ := HI5.out.get
  have HIZ := Lib.hid hiz
  have HB : Hid (p ≤ w5.heap.size) := Nat.le_of_lt (lt_of_block hg5)
  clear hix hiy hiz hg5
  generalize hQ : w5.heap.size = Q at *
  go_wp2_with fail
  go_loopw [13, 14, 64] (fun s13 s14 i wr => ∃ (k at1 bt : Nat), k ≤ (prl l).length ∧ i = .int .i64 k ∧ s13 = .int .i64 at1 ∧ s14 = .int .i64 bt ∧ at1 ≤ k ∧ bt ≤ k ∧ Hid (at1 = (((prl l).take k).filter f).length) ∧ Hid (bt = cntB L ((prl l).take k)) ∧ Hid (Below Q w5 wr)) (fun _ _ i _ => (prl l).length - (intOf i).toNat)
  case atStart => exact ⟨0, 0, 0, Nat.zero_le _, rfl, rfl, rfl, Nat.le_refl _, Nat.le_refl _, rfl, rfl, Below.refl _ _⟩
  case round =>
    obtain ⟨k, at1, bt, hk, rfl, rfl, rfl, hak, hbk, HAT, HBT, HBR⟩ := hrel
    have hqw : Q ≤ wr.heap.size := hQ ▸ HBR.out.size
    by_cases hlk : k < (prl l).length
    · obtain ⟨rfl, hbl, hat⟩ := HIX.out (by omega)
      have hlk' : (k : Int) < (prl l).length := by omega
      have hak' : (at1 : Int) ≤ k := by omega
      have hbk' : (bt : Int) ≤ k := by omega
      obtain ⟨x0, x1⟩ := hat k hlk
      have y0 := (HBR.out.cell (p := ⟨ix, ox + k * 2, none⟩) hbl).trans x0
      have y1 := (HBR.out.cell (p := ⟨ix, ox + k * 2 + 1, none⟩) hbl).trans x1
      obtain ⟨ha, hb⟩ := HND.out ((prl l).getD k Pr.zero) (getD_memP hlk)
      have HSX := Lib.hid (HSM.out _ (getD_memP hlk))
      have HSF := Lib.hid (filter_snocP (f := f) hlk)
      have HSC := Lib.hid (filter_snocP (f := fun p => !(L.getD p.a 0 == L.getD p.b 0)) hlk)
      have HNT := Lib.hid (next_t (f := f) hlk)
      rw [← HAT.out, ← HXS.out] at HNT
      have HFX : Hid (f ((prl l).getD k Pr.zero) = false → (prl l).getD k Pr.zero ∉ xs) := fun h hm => by
        rw [HXS.out] at hm
        have := (List.mem_filter.1 hm).2
        rw [h] at this
        cases this
      have HFY : Hid (∀ j, j < xs.length → f (xs.getD j Pr.zero) = true) := fun j hj => by
        have hm := getD_memP hj
        rw [HXS.out] at hm
        have := (List.mem_filter.1 hm).2
        rw [← HXS.out] at this
        exact this
      clear hat x0 x1
      generalize (prl l).getD k Pr.zero = x at *
      have hLn : L.length = n := HLL.out.1
      obtain ⟨rfl, hiz2, hiz3⟩ := HIZ.out (by omega)
      have hbt := heap_top wr (.cells #[.int .i64 (x.a : Int), .int .i64 (x.b : Int)] 41)
      have HBA : Hid (Below Q w5 (wr.alloc (.cells #[.int .i64 (x.a : Int), .int .i64 (x.b : Int)] 41))) := HBR.out.alloc hqw _
      have ha' : (x.a : Int) < L.length := by omega
      have hb' : (x.b : Int) < L.length := by omega
      have da := (HBA.out.cell (p := ⟨iz, oz + x.a, none⟩) hiz2).trans (hiz3 x.a (by omega))
      have db := (HBA.out.cell (p := ⟨iz, oz + x.b, none⟩) hiz2).trans (hiz3 x.b (by omega))
      obtain ⟨⟨z0, z1⟩, _⟩ := two_cells hbt
      clear hiz3 hbt hLn
      generalize L.getD x.a 0 = ta at *
      generalize L.getD x.b 0 = tb at *
      have HCC : Hid (cntB L ((prl l).take (k + 1)) = bt + (if (!(ta == tb)) = true then 1 else 0)) := by
        show _ = _
        rw [HBT.out]
        unfold cntB
        rw [HSC.out, List.length_append]
        split <;> rfl
      by_cases hfx : f x = true
      · obtain ⟨hax, hxe⟩ := HNT.out hfx
        have hax' : (at1 : Int) < xs.length := by omega
        obtain ⟨rfl, hiy2, hiy3⟩ := HIY.out (by omega)
        obtain ⟨j0, j1⟩ := hiy3 at1 hax
        rw [hxe] at j0 j1
        have m0 := (HBA.out.cell (p := ⟨iy, oy + at1 * 2, none⟩) hiy2).trans j0
        have m1 := (HBA.out.cell (p := ⟨iy, oy + at1 * 2 + 1, none⟩) hiy2).trans j1
        have HA2 : Hid (at1 + 1 = (((prl l).take (k + 1)).filter f).length) := by show _ = _; rw [HSF.out, if_pos hfx, List.length_append, ← HAT.out]; rfl
        clear hxe hiy3 j0 j1 hfx
        go_wp2_with fail
        generalize hU : wr.alloc (.cells #[.int .i64 (x.a : Int), .int .i64 (x.b : Int)] 41) = U at *
        go_quiet (fail)
        have HBN : Hid (Below Q w5 (U.drewN nq)) := ⟨HBA.out.os, HBA.out.tape, HBA.out.output, HBA.out.size, HBA.out.block⟩
        have z0' : (U.drewN nq).cell? ⟨wr.heap.size, 0, none⟩ = some (.int .i64 (x.a : Int)) := z0
        have z1' : (U.drewN nq).cell? ⟨wr.heap.size, 1, none⟩ = some (.int .i64 (x.b : Int)) := z1
        have da' : (U.drewN nq).cell? ⟨iz, oz + x.a, none⟩ = some (.int .i64 ta) := da
        have db' : (U.drewN nq).cell? ⟨iz, oz + x.b, none⟩ = some (.int .i64 tb) := db
        generalize hUN : U.drewN nq = UN at *
        clear z0 z1 da db m0 m1
        go_wp2_with fail
        rename_i nq1
        go_quiet (fail)
        have HBO : Hid (Below Q w5 (UN.drewN nq)) := ⟨HBN.out.os, HBN.out.tape, HBN.out.output, HBN.out.size, HBN.out.block⟩
        generalize hUO : UN.drewN nq = UO at *
        by_cases hab : ta = tb
        · have hne : (ta != tb) = false := by simpa using hab
          rw [if_neg (by simp [hab])] at HCC
          clear hab
          go_wp2_with fail
          exact ⟨⟨k + 1, at1 + 1, bt, by omega, by simp, by simp, rfl, by omega, by omega, HA2, Lib.hid HCC.out.symm, HBO⟩, by simp [intOf]; omega⟩
        · have hne : (ta != tb) = true := by simpa using hab
          rw [if_pos (by simpa using hab)] at HCC
          clear hab
          go_wp2_with fail
          exact ⟨⟨k + 1, at1 + 1, bt + 1, by omega, by simp, by simp, by simp, by omega, by omega, HA2, Lib.hid HCC.out.symm, HBO⟩, by simp [intOf]; omega⟩
      · obtain hfx : f x = false := by simpa using hfx
        obtain rfl : ta = tb := HSX.out (HFX.out hfx)
        have hne : (ta != ta) = false := by simp
        rw [if_neg (by simp)] at HCC
        have HA2 : Hid (at1 = (((prl l).take (k + 1)).filter f).length) := by show _ = _; rw [HSF.out, if_neg (by rw [hfx]; decide), List.append_nil, ← HAT.out]
        by_cases hax : at1 < xs.length
        · have hax' : (at1 : Int) < xs.length := by omega
          obtain ⟨rfl, hiy2, hiy3⟩ := HIY.out (by omega)
          obtain ⟨j0, j1⟩ := hiy3 at1 hax
          have hyx : f (xs.getD at1 Pr.zero) = true := HFY.out at1 hax
          generalize xs.getD at1 Pr.zero = y at *
          have hxy : y ≠ x := fun e => by rw [e, hfx] at hyx; cases hyx
          have m0 := (HBA.out.cell (p := ⟨iy, oy + at1 * 2, none⟩) hiy2).trans j0
          have m1 := (HBA.out.cell (p := ⟨iy, oy + at1 * 2 + 1, none⟩) hiy2).trans j1
          have HXY : Hid (((y.a : Int) == (x.a : Int) && (y.b : Int) == (x.b : Int)) = false) := by
            show _ = _
            rw [Bool.eq_false_iff]
            intro h
            simp only [Bool.and_eq_true, beq_iff_eq] at h
            exact hxy (pr_ext (by omega) (by omega))
          have hor : y.a ≠ x.a ∨ y.b ≠ x.b := by
            by_cases e : y.a = x.a
            · exact .inr (fun e2 => hxy (pr_ext e e2))
            · exact .inl e
          clear hiy3 j0 j1 hfx hyx hxy
          by_cases e1 : y.a = x.a
          · have e2 : ((y.b : Int) == (x.b : Int)) = false := by
              rcases hor with h | h
              · exact absurd e1 h
              · simp; omega
            have e1' : ((y.a : Int) == (x.a : Int)) = true := by simp; omega
            clear e1 hor
            go_wp2_with fail
            generalize hU : wr.alloc (.cells #[.int .i64 (x.a : Int), .int .i64 (x.b : Int)] 41) = U at *
            go_quiet (fail)
            have HBN : Hid (Below Q w5 (U.drewN nq)) := ⟨HBA.out.os, HBA.out.tape, HBA.out.output, HBA.out.size, HBA.out.block⟩
            have z0' : (U.drewN nq).cell? ⟨wr.heap.size, 0, none⟩ = some (.int .i64 (x.a : Int)) := z0
            have z1' : (U.drewN nq).cell? ⟨wr.heap.size, 1, none⟩ = some (.int .i64 (x.b : Int)) := z1
            have da' : (U.drewN nq).cell? ⟨iz, oz + x.a, none⟩ = some (.int .i64 ta) := da
            have db' : (U.drewN nq).cell? ⟨iz, oz + x.b, none⟩ = some (.int .i64 ta) := db
            generalize hUN : U.drewN nq = UN at *
            clear z0 z1 da db m0 m1
            go_wp2_with fail
            rename_i nq1
            go_quiet (fail)
            have HBO : Hid (Below Q w5 (UN.drewN nq)) := ⟨HBN.out.os, HBN.out.tape, HBN.out.output, HBN.out.size, HBN.out.block⟩
            generalize hUO : UN.drewN nq = UO at *
            go_wp2_with fail
            exact ⟨⟨k + 1, at1, bt, by omega, by simp, rfl, rfl, by omega, by omega, HA2, Lib.hid HCC.out.symm, HBO⟩, by simp [intOf]; omega⟩
          · have e1' : ((y.a : Int) == (x.a : Int)) = false := by simp; omega
            clear e1 hor
            go_wp2_with fail
            generalize hU : wr.alloc (.cells #[.int .i64 (x.a : Int), .int .i64 (x.b : Int)] 41) = U at *
            go_quiet (fail)
            have HBN : Hid (Below Q w5 (U.drewN nq)) := ⟨HBA.out.os, HBA.out.tape, HBA.out.output, HBA.out.size, HBA.out.block⟩
            have z0' : (U.drewN nq).cell? ⟨wr.heap.size, 0, none⟩ = some (.int .i64 (x.a : Int)) := z0
            have z1' : (U.drewN nq).cell? ⟨wr.heap.size, 1, none⟩ = some (.int .i64 (x.b : Int)) := z1
            have da' : (U.drewN nq).cell? ⟨iz, oz + x.a, none⟩ = some (.int .i64 ta) := da
            have db' : (U.drewN nq).cell? ⟨iz, oz + x.b, none⟩ = some (.int .i64 ta) := db
            generalize hUN : U.drewN nq = UN at *
            clear z0 z1 da db m0 m1
            go_wp2_with fail
            rename_i nq1
            go_quiet (fail)
            have HBO : Hid (Below Q w5 (UN.drewN nq)) := ⟨HBN.out.os, HBN.out.tape, HBN.out.output, HBN.out.size, HBN.out.block⟩
            generalize hUO : UN.drewN nq = UO at *
            go_wp2_with fail
            exact ⟨⟨k + 1, at1, bt, by omega, by simp, rfl, rfl, by omega, by omega, HA2, Lib.hid HCC.out.symm, HBO⟩, by simp [intOf]; omega⟩
        · have hax' : ¬ (at1 : Int) < xs.length := by omega
          clear hfx
          go_wp2_with fail
          generalize hU : wr.alloc (.cells #[.int .i64 (x.a : Int), .int .i64 (x.b : Int)] 41) = U at *
          go_quiet (fail)
          have HBN : Hid (Below Q w5 (U.drewN nq)) := ⟨HBA.out.os, HBA.out.tape, HBA.out.output, HBA.out.size, HBA.out.block⟩
          have z0' : (U.drewN nq).cell? ⟨wr.heap.size, 0, none⟩ = some (.int .i64 (x.a : Int)) := z0
          have z1' : (U.drewN nq).cell? ⟨wr.heap.size, 1, none⟩ = some (.int .i64 (x.b : Int)) := z1
          have da' : (U.drewN nq).cell? ⟨iz, oz + x.a, none⟩ = some (.int .i64 ta) := da
          have db' : (U.drewN nq).cell? ⟨iz, oz + x.b, none⟩ = some (.int .i64 ta) := db
          generalize hUN : U.drewN nq = UN at *
          clear z0 z1 da db
          go_wp2_with fail
          rename_i nq1
          go_quiet (fail)
          have HBO : Hid (Below Q w5 (UN.drewN nq)) := ⟨HBN.out.os, HBN.out.tape, HBN.out.output, HBN.out.size, HBN.out.block⟩
          generalize hUO : UN.drewN nq = UO at *
          go_wp2_with fail
          exact ⟨⟨k + 1, at1, bt, by omega, by simp, rfl, rfl, by omega, by omega, HA2, Lib.hid HCC.out.symm, HBO⟩, by simp [intOf]; omega⟩
    · have e0 : (prl l).take k = prl l := List.take_of_length_le (by omega)
      have hlk' : ¬ (k : Int) < (prl l).length := by omega
      rw [e0] at HAT HBT
      have HAX : Hid (at1 = xs.length) := by show _ = _; rw [HAT.out, ← HXS.out]
      clear e0
      have hg6 := (HBR.out.block p (by have := HB.out; have := lt_of_block HG5.out; omega)).trans HG5.out
      obtain ⟨⟨r0, r1⟩, _⟩ := two_cells hg6
      have hQ' := hQ
      have HR6 := Lib.hid (HR5.out.on (hQ ▸ HBR.out))
      have HI6 := Lib.hid (HI5.out.on (hQ ▸ HBR.out))
      have HB6 : Hid (Below p w wr) := HB5.out.trans (HBR.out.mono HB.out)
      have HCN := Lib.hid (count_any n a l cap a4 L c4 wr hl (by rw [HLL.out.1]; have := (chk_zero HC0.out).2.1; omega) HR6.out HI6.out)
      have hce : cntE n l L = 0 := by unfold cntE; rw [if_neg (by rw [HC0.out]; omega), if_neg (by rw [HLL.out.1, HLL.out.2]; simp)]
      rw [hce, if_pos rfl, ← HBT.out] at HCN
      have hz6 : p < wr.heap.size := lt_of_block hg6
      clear hce hQ'
      obtain rfl : at1 = xs.length := HAX.out
      go_wp2_with fail
      refine HCN.out.mono ?_
      rintro e w7 ⟨rfl, hb7⟩
      have HB7 : Hid (Below p w w7) := HB6.out.trans (hb7.mono (by omega))
      have hg7 := (hb7.block p hz6).trans hg6
      obtain ⟨⟨s0, s1⟩, _⟩ := two_cells hg7
      have HR7 := Lib.hid (HR6.out.on hb7)
      have hz7 : p < w7.heap.size := lt_of_block hg7
      clear hb7 hg6 r0 r1
      have HPA := Lib.hid (T3.parts_any n a (l.map toT) cap w7 (by rw [List.length_map]; exact hl) (arcs_T HR7.out))
      rw [chkE_T, HC0.out, List.length_map] at HPA
      go_wp2_with fail
      refine HPA.out.mono ?_
      rintro e w8 ⟨a8, c8, rfl, hown8, hb8⟩
      have HB8 : Hid (Below p w w8) := HB7.out.trans (hb8.mono (by omega))
      have hg8 := (hb8.block p hz7).trans hg7
      obtain ⟨⟨o0, o1⟩, _⟩ := two_cells hg8
      have HR8 := Lib.hid (HR7.out.on hb8)
      have HI8 : Hid (Ints w8 a8 (T3.partsL n (l.map toT))) := own_intsI hown8
      have hz8 : p < w8.heap.size := lt_of_block hg8
      clear hb8 hown8 hg7 s0 s1 HPA
      have HFN := Lib.hid (frag_any n a l cap none [] 0 w8 hl (by decide) HR8.out (.inl rfl))
      have hf0 : frE n l [] = 0 := by have := frE_good (xs := []) HC0.out (fun p hp => by cases hp) (by decide); simpa using this
      have hfl : frL n l [] = T3.partsL n (l.map toT) := by unfold frL; rw [if_pos hf0, parts_none HC0.out]
      rw [hf0, hfl] at HFN
      clear hf0 hfl
      obtain ⟨PL, HPL⟩ := named (T3.partsL n (l.map toT))
      have hPl : PL.length ≤ 9223372036854775807 := by
        rw [← HPL.out, parts_none HC0.out, (tdy_parts (others_ok HC0.out [])).2.1]
        have := (chk_zero HC0.out).2.1; omega
      rw [HPL.out] at HFN HI8 ⊢
      go_wp2_with fail
      refine HFN.out.mono ?_
      rintro e w9 ⟨a9, c9, rfl, hown9, hb9⟩
      have HB9 : Hid (Below p w w9) := HB8.out.trans (hb9.mono (by omega))
      have HI9 : Hid (Ints w9 a9 PL) := own_intsI hown9
      have HJ9 := Lib.hid (HI8.out.on hb9)
      clear hb9 hown9 hg8 o0 o1 HFN
      have hz9 : p ≤ w9.heap.size := by have := HB9.out.size; omega
      go_wp2_with fail
      refine (sameInts_any a8 a9 c8 c9 PL w9 hPl HJ9.out HI9.out).mono ?_
      rintro e w10 ⟨rfl, hb10⟩
      have HB10 : Hid (Below p w w10) := HB9.out.trans (hb10.mono hz9)
      clear hb10
      go_wp2_with fail
      go_ret
      exact ⟨rfl, HB10.out⟩
end Go.Proofs.Ytpgadcacimjlaaa
