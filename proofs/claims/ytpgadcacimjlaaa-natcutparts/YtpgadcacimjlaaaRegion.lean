/-
  The contract of grow.Region.
-/
import Derived.Test.YtpgadcacimjlaaaChk
import Derived.Test.YtpgadcacimjlaaaBegin
import Derived.Test.YtpgadcacimjlaaaRange
import Derived.Maps.OwnIn
namespace Go.Proofs.Ytpgadcacimjlaaa
open Go.RowKit Go.Shelf
attribute [local go_sem] Oper.semAt_some
/-- A region: what is reached, as far as it is asked for. -/
def reg (N : Nat) (l : List A) (c m : Nat) : List Nat := (whole (edl l) (2 * l.length) N (fun _ => false) c).take m
/-- What the loop of Region has collected. -/
structure RI (w : World) (B p r m : Nat) (Z : Nat → Prop) (pre : List Nat) (ρ : Option Nat) (W : World) : Prop where
  ex : ∃ rv, W.heap[r]? = some (.cells #[rv] 31 (0, 0)) ∧ W.ownsRow B 3 1 rv pre.length (cellsI (ints pre)) ∧ rv.ownBlock = ρ
  le : Z pre.length
  mo : W.heap[p + 1]? = some (.cells #[.int .i64 (m : Int)] 3 (0, 0))
  be : Below p w W
  sz : B ≤ W.heap.size
theorem Bg.gr {w wr : World} {f b1 b2 bs N : Nat} {a : Option Addr} {cap : Nat} {l : List A} (h : Bg w wr f b1 b2 bs N l.length a cap (edl l) (2 * l.length)) (hr : Arcs w a l) : Gr wr f b1 b2 bs N a cap l (fun _ => false) :=
  ⟨h.gw, hr.on h.be, h.fi, h.nx.congr (fun k hk => by rw [if_pos hk]), h.sn⟩
theorem Arcs.abl {w : World} {a : Option Addr} {l : List A} (h : Arcs w a l) {j : Nat} (hj : abl a l j) : j < w.heap.size := by
  obtain ⟨hl, x, hx, rfl⟩ := hj
  rcases h with h | ⟨b, o, rfl, hb, _⟩
  · exact absurd h hl
  · injection hx with hx; subst hx; exact hb
theorem own_frv {D : Nat → Prop} {w w' : World} {base n : Nat} {v : Value} {xs : List Value} (h : w.ownsRow base 3 1 v n xs) (hf : Fr D w w') (hn : ∀ b, v.ownBlock = some b → ¬ D b) : w'.ownsRow base 3 1 v n xs := by
  refine ⟨h.1, ?_⟩
  rcases h.2 with h' | ⟨g', c', cur, h1, h2, h3, h4⟩
  · exact Or.inl h'
  · subst h1
    exact Or.inr ⟨g', c', cur, rfl, h2, (hf.block g' (lt_of_block h3) (hn g' rfl)).trans h3, h4⟩
theorem RI.on {w : World} {B p r m bs j0 : Nat} {Z : Nat → Prop} {pre : List Nat} {ρ : Option Nat} {W W' : World} (h : RI w B p r m Z pre ρ W) (hp : p + 1 < B ∧ r < B ∧ p + 1 ≠ bs ∧ r ≠ bs ∧ bs < B ∧ p ≤ bs) (hw : w.heap.size = p) (hj : B ≤ j0) (hn : ρ ≠ some j0) (hf : Fr (fun j => j = bs ∨ j = j0) W W') : RI w B p r m Z pre ρ W' := by
  obtain ⟨rv, h1, h2, h3⟩ := h.ex
  refine ⟨⟨rv, (hf.block r (lt_of_block h1) (fun e => by omega)).trans h1, own_frv h2 hf (fun b hb e => ?_), h3⟩, h.le, (hf.block _ (lt_of_block h.mo) (fun e => by omega)).trans h.mo, ?_, Nat.le_trans h.sz hf.size⟩
  · rcases e with e | e
    · have := (h2.lt b hb).1; omega
    · exact hn (by rw [← h3, hb, e])
  · exact ⟨hf.os.trans h.be.os, hf.tape.trans h.be.tape, hf.output.trans h.be.output, Nat.le_trans h.be.size hf.size, fun k hk => (hf.block k (by have := h.be.size; omega) (fun e => by omega)).trans (h.be.block k hk)⟩
theorem RI.add {w : World} {B p r m : Nat} {Z Z' : Nat → Prop} {pre : List Nat} {ρ : Option Nat} {W w6 : World} {x g6 c6 : Nat} {o : Obj} (h : RI w B p r m Z pre ρ W) (hp : p + 1 < r ∧ r < B) (hw : w.heap.size = p)
    (hrho : ∀ b, ρ = some b → B ≤ b) (hown : w6.ownsRow B 3 1 (.slice (some ⟨g6, 0, none⟩) (pre.length + 1) c6) (pre.length + 1) (cellsI (ints pre) ++ [.int .i64 (x : Int)])) (hgr : (W.alloc o).grownBy w6 ρ) (hb : some g6 = ρ ∨ g6 = W.heap.size + 1) (hz : Z' (pre.length + 1)) :
    (w6.heap[r]? = W.heap[r]? ∧ w6.heap[p + 1]? = W.heap[p + 1]?) ∧ RI w B p r m Z' (pre ++ [x]) (some g6) (w6.setCell ⟨r, 0, none⟩ (.slice (some ⟨g6, 0, none⟩) (pre.length + 1) c6)) ∧ Fr (fun j => j = r ∨ some j = ρ) W (w6.setCell ⟨r, 0, none⟩ (.slice (some ⟨g6, 0, none⟩) (pre.length + 1) c6)) ∧ (some g6 = ρ ∨ ∃ b, some g6 = some b ∧ W.heap.size ≤ b) := by
  obtain ⟨rv, h1, h2, h3⟩ := h.ex
  have f1 : Fr (fun j => some j = ρ) W w6 := ((Fr.refl _ W).alloc o).trans ⟨hgr.os, hgr.tape, hgr.output, hgr.size, fun k hk hn => hgr.block k hk hn⟩
  have f2 : Fr (fun j => j = r) w6 (w6.setCell ⟨r, 0, none⟩ (.slice (some ⟨g6, 0, none⟩) (pre.length + 1) c6)) := (Fr.refl _ w6).setCell ⟨r, 0, none⟩ _ rfl
  have e1 : w6.heap[r]? = W.heap[r]? := f1.block r (lt_of_block h1) (fun e => by have := hrho r e.symm; omega)
  have e2 : w6.heap[p + 1]? = W.heap[p + 1]? := f1.block _ (lt_of_block h.mo) (fun e => by have := hrho _ e.symm; omega)
  have f3 : Fr (fun j => j = r ∨ some j = ρ) W (w6.setCell ⟨r, 0, none⟩ (.slice (some ⟨g6, 0, none⟩) (pre.length + 1) c6)) := (f1.imp (fun _ h => .inr h)).trans (f2.imp (fun _ h => .inl h))
  have hgB := (own_lt hown).1
  refine ⟨⟨e1, e2⟩, ⟨⟨.slice (some ⟨g6, 0, none⟩) (pre.length + 1) c6, ?_, ?_, rfl⟩, ?_, ?_, ?_, Nat.le_trans h.sz f3.size⟩, f3, hb.imp id (fun e => ⟨g6, rfl, by omega⟩)⟩
  · rw [heap_setCell_same w6 r 0 _ _ _ (e1.trans h1)]
    simp
  · rw [ints_snoc, ← cellsI_snoc, List.length_append]
    exact own_fr hown f2 (fun e => by omega)
  · rw [List.length_append]; exact hz
  · exact (f2.block _ (lt_of_block (e2.trans h.mo)) (fun e => by omega)).trans (e2.trans h.mo)
  · refine ⟨f3.os.trans h.be.os, f3.tape.trans h.be.tape, f3.output.trans h.be.output, Nat.le_trans h.be.size f3.size, fun k hk => (f3.block k (by have := h.be.size; omega) (fun e => ?_)).trans (h.be.block k hk)⟩
    rcases e with e | e
    · omega
    · have := hrho k e.symm; omega
theorem RI.fin {w : World} {B p r m D : Nat} {Z : Nat → Prop} {pre : List Nat} {ρ : Option Nat} {W : World} {rv : Value} {x : Option (List Deferred)} (h : RI w B p r m Z pre ρ W) (hrv : W.ownsRow B 3 1 rv pre.length (cellsI (ints pre))) (hK : W.heap[D]? = some (.deferred x)) (hp : p ≤ B ∧ p ≤ D) (hw : w.heap.size = p) (o : Obj) :
    (W.putObj D o).ownsRow p 3 1 rv pre.length (cellsI (ints pre)) ∧ Below p w (W.putObj D o) := by
  refine ⟨own_base (own_frv hrv (fr_put W D o) (fun b hb e => ?_)) hp.1, ?_⟩
  · rcases hrv.2 with ⟨e1, _⟩ | ⟨g', c', cur, e1, _, hg', _⟩
    · subst e1; cases hb
    · subst e1
      injection hb with hb
      subst hb
      have e : g' = D := e
      rw [e, hK] at hg'
      cases hg'
  · have hf := fr_put W D o
    exact ⟨hf.os.trans h.be.os, hf.tape.trans h.be.tape, hf.output.trans h.be.output, Nat.le_trans h.be.size hf.size, fun k hk => (hf.block k (by have := h.be.size; omega) (fun e => by omega)).trans (h.be.block k hk)⟩
theorem RI.rho {w : World} {B p r m : Nat} {Z : Nat → Prop} {pre : List Nat} {ρ : Option Nat} {W : World} (h : RI w B p r m Z pre ρ W) : ∀ b, ρ = some b → B ≤ b := by
  rintro b rfl
  obtain ⟨rv, h1, h2, h3⟩ := h.ex
  exact (h2.lt b h3).1
set_option maxRecDepth 100000 in
set_option maxHeartbeats 2000000 in
theorem region_any (N c m : Int) (a : Option Addr) (l : List A) (cap : Nat) (w : World) (hl : l.length ≤ 9223372036854775807) (hr : Arcs w a l) :
    Calls Try.prog 8 #[.agg #[.int .i64 N, .slice a l.length cap], .int .i64 c, .int .i64 m] w fun e w' => ∃ v xs, e = .returned (.tuple #[v, .int .i64 (gchk N c m l)]) ∧ w'.ownsRow w.heap.size 3 1 v xs.length (cellsI (ints xs)) ∧ xs = (if gchk N c m l = 0 then reg N.toNat l c.toNat m.toNat else []) ∧ Below w.heap.size w w' := by
  refine (callsIn_wide (n := 3)).1 ?_
  obtain ⟨E, HE⟩ := named (gchk N c m l)
  obtain ⟨i3, hi3, hz3, hs3, hby3⟩ := info_parts info3
  have hb0 : Below w.heap.size w ((w.alloc (.cells #[.int .i64 N, .slice a l.length cap] 24)).alloc (.cells #[.int .i64 m] 3)) := ((Below.refl _ _).alloc (Nat.le_refl _) _).alloc (by simp) _
  have hg0 : ((w.alloc (.cells #[.int .i64 N, .slice a l.length cap] 24)).alloc (.cells #[.int .i64 m] 3)).heap[w.heap.size]? = some (.cells #[.int .i64 N, .slice a l.length cap] 24) := (Below.heap_alloc _ _ _ (by simp)).trans (heap_top w _)
  have hm0 := heap_top (w.alloc (.cells #[.int .i64 N, .slice a l.length cap] 24)) (.cells #[.int .i64 m] 3)
  rw [World.size_alloc] at hm0
  have HAR := Lib.hid hr
  rw [HE.out]
  generalize hp : w.heap.size = p at *
  refine callsIn_of_wp_marks Try.func8 rfl trivial ?_ rfl
  simp only [Try.ntmps8, List.size_toArray, List.length_cons, List.length_nil, Nat.reduceAdd, Nat.reduceSub, Array.replicate_succ, Array.replicate_zero, List.push_toArray, List.append_toArray, List.nil_append, List.cons_append]
  gi_wp2_with fail
  generalize hW : (w.alloc (.cells #[.int .i64 N, .slice a l.length cap] 24)).alloc (.cells #[.int .i64 m] 3) = W at *
  refine ⟨trivial, (callsIn_wide.2 (gchk_any N c m a l cap W hl (HAR.out.on (by rw [hp]; exact hb0)))).mono ?_⟩
  rintro e w1 ⟨rfl, hb1⟩
  rw [HE.out]
  have hg1 := (hb1.block _ (lt_of_block hg0)).trans hg0
  have hm1 := (hb1.block _ (lt_of_block hm0)).trans hm0
  have hpW : p ≤ W.heap.size := Nat.le_of_lt (lt_of_block hg0)
  have HB1 : Hid (Below p w w1) := hb0.trans (hb1.mono hpW)
  obtain ⟨⟨g0, g1⟩, _⟩ := two_cells hg1
  clear hb1 hg0 hm0 hW
  by_cases he : E = 0
  · subst he
    obtain ⟨hk, hcN, hm1', hm2'⟩ := gchk_zero HE.out
    obtain ⟨hN1, hN2, hlb, hpo⟩ := chk_zero hk
    obtain ⟨n, rfl⟩ : ∃ n : Nat, N = n := ⟨N.toNat, by omega⟩
    obtain ⟨v, rfl⟩ : ∃ v : Nat, c = v := ⟨c.toNat, by omega⟩
    obtain ⟨t, rfl⟩ : ∃ t : Nat, m = t := ⟨m.toNat, by omega⟩
    have hvn : v < n := by omega
    have hnb : n ≤ 1024 := by omega
    have HPO : Hid (∀ x, x ∈ l → 0 ≤ x.f ∧ x.f < n ∧ 0 ≤ x.t ∧ x.t < n) := fun x hx => ⟨(hpo x hx).1.1, (hpo x hx).1.2, (hpo x hx).2.1, (hpo x hx).2.2⟩
    have hr2 : Arcs (w1.alloc (.cells #[.slice none 0 0] 31)) a l := HAR.out.on (by rw [hp]; exact HB1.out.trans (((Below.refl _ w1).alloc (Nat.le_refl _) _).mono (hp ▸ HB1.out.size)))
    have HR2 := Lib.hid hr2
    have hpn : p ≠ w1.heap.size := Nat.ne_of_lt (lt_of_block hg1)
    have hpn' := hpn.symm
    have hgv := (Below.heap_alloc w1 (.cells #[.slice none 0 0] 31) p (lt_of_block hg1)).trans hg1
    obtain ⟨⟨j0, j1⟩, _⟩ := two_cells hgv
    clear hr2 hpo hk hr
    gi_wp2_with fail
    refine ⟨trivial, (callsIn_wide.2 (begin_any n a l cap _ hnb (by omega) HPO.out HR2.out)).mono ?_⟩
    rintro e w2 ⟨f, b1, b2, bs, rfl, hne, hlo, hB⟩
    have HNE := Lib.hid hne
    have HLO := Lib.hid hlo
    have HBG := Lib.hid hB
    clear hne hlo hB
    gi_wp2_with fail
    refine ⟨trivial, (callsIn_wide.2 (around_any f (v : Int) w2)).mono ?_⟩
    rintro e w3 ⟨rfl, rfl⟩
    gi_wp2_with fail
    have hVz : ((w2.alloc (.cells #[.pointer (some ⟨f, 0, none⟩)] 54)).alloc (.cells #[.int .i64 (v : Int)] 3)).heap.size = w2.heap.size + 2 := by simp
    have hV1 := (Below.heap_alloc (w2.alloc (.cells #[.pointer (some ⟨f, 0, none⟩)] 54)) (.cells #[.int .i64 (v : Int)] 3) w2.heap.size (by simp)).trans (heap_top w2 (.cells #[.pointer (some ⟨f, 0, none⟩)] 54))
    have hV2 := heap_top (w2.alloc (.cells #[.pointer (some ⟨f, 0, none⟩)] 54)) (.cells #[.int .i64 (v : Int)] 3)
    rw [World.size_alloc] at hV2
    have hVF : Fr (fun _ => False) w2 ((w2.alloc (.cells #[.pointer (some ⟨f, 0, none⟩)] 54)).alloc (.cells #[.int .i64 (v : Int)] 3)) := ((Fr.refl _ w2).alloc _).alloc _
    generalize hV : (w2.alloc (.cells #[.pointer (some ⟨f, 0, none⟩)] 54)).alloc (.cells #[.int .i64 (v : Int)] 3) = V at *
    clear hV
    have hz1 : (w1.alloc (.cells #[.slice none 0 0] 31)).heap.size = w1.heap.size + 1 := by simp
    have hlo := HLO.out
    rw [hz1] at hlo
    have hbe := HBG.out.be
    have l1 := lt_of_block HBG.out.gw.hd
    have l2 := HBG.out.fi.lt
    have l3 := HBG.out.nx.lt
    have l4 := HBG.out.sn.lt
    have hrb := (hVF.block w1.heap.size (by omega) (fun h => h)).trans ((hbe.block w1.heap.size (by rw [hz1]; omega)).trans (heap_top w1 (.cells #[.slice none 0 0] 31)))
    have hsz := hbe.size
    rw [hz1] at hsz
    have hp1 : p + 1 < w1.heap.size := lt_of_block hm1
    have hmb := (hVF.block (p + 1) (by omega) (fun h => h)).trans ((hbe.block (p + 1) (by rw [hz1]; omega)).trans ((Below.heap_alloc w1 (.cells #[.slice none 0 0] 31) (p + 1) hp1).trans hm1))
    have hbV : Below p w V := by
      have x1 : Below p w (w1.alloc (.cells #[.slice none 0 0] 31)) := HB1.out.trans (((Below.refl _ w1).alloc (Nat.le_refl _) _).mono (hp ▸ HB1.out.size))
      have x2 : Below p w w2 := x1.trans (hbe.mono (hp ▸ x1.size))
      exact x2.trans ⟨hVF.os, hVF.tape, hVF.output, hVF.size, fun k hk => hVF.block k (by omega) (fun h => h)⟩
    have har2 := HR2.out
    have habl : ∀ j, abl a l j → j < w1.heap.size := fun j hj => by have := HAR.out.abl hj; rw [hp] at this; omega
    have hGr : Gr V f b1 b2 bs n a cap l (fun _ => false) := by
      have h2 := HBG.out.gr har2
      exact ⟨h2.gw.fr hVF (fun h => h), h2.ar.fr hVF (fun _ _ h => h), h2.fi.fr hVF (fun h => h), h2.nx.fr hVF (fun h => h), h2.sn.fr hVF (fun h => h)⟩
    have hGf : Gf (V.heap.size + 2) f b1 b2 bs n a l := ⟨HNE.out, ⟨by omega, by omega, by omega, by omega⟩, fun j hj => ⟨by have := habl j hj; omega, by have := habl j hj; omega⟩, hnb, by omega, HPO.out⟩
    have hAb : ∀ Z : Nat → Prop, Abd V.heap.size f b1 b2 bs w2.heap.size (w2.heap.size + 1) a l (RI w V.heap.size p w1.heap.size t Z) := fun Z => by
      constructor
      · intro pre ρ W W' j0 h hj hne hf
        exact h.on ⟨by omega, by omega, by omega, by omega, by omega, by omega⟩ hp hj hne hf
      · rintro pre ρ W b h rfl
        obtain ⟨rv, h1, h2, h3⟩ := h.ex
        obtain ⟨hb1, hb2⟩ := h2.lt b h3
        refine ⟨?_, ?_⟩
        · rcases h2.2 with ⟨e, _⟩ | ⟨g', c', cur, e, _, hg', _⟩
          · subst e; cases h3
          · subst e; injection h3 with h3; subst h3; exact ⟨_, _, _, hg'⟩
        · rintro (h | h | h | h | h | h | h)
          · omega
          · omega
          · omega
          · omega
          · omega
          · omega
          · have := habl _ h; omega
    refine range_around (r := w1.heap.size) (p1 := w2.heap.size) (p2 := w2.heap.size + 1) (c := v) (by omega) rfl hGf hvn ⟨by omega, by omega, by omega, by omega, by omega, by omega, fun j hj => by have := habl j hj; omega, by omega⟩ ⟨by omega, by omega⟩ ?ib hGr ?c1 ?c2
      (RI w V.heap.size p w1.heap.size t (fun k => k < t)) (RI w V.heap.size p w1.heap.size t (fun k => k = t)) (fun cd _ => cd = .exit 0) (hAb _) (hAb _) none ⟨⟨_, hrb, World.ownsRow_nil _ _ _ _, rfl⟩, by show 0 < t; omega, hmb, hbV, Nat.le_refl _⟩
      (fun x => { tmps := #[.agg #[.int .i64 (n : Int), .slice a l.length cap], .int .i64 (v : Int), .int .i64 (t : Int), .pointer (some ⟨p, 0, none⟩), undef, .pointer (some ⟨p + 1, 0, none⟩), .slice none 0 0, .int .i64 0, .int .i64 0, .pointer (some ⟨w1.heap.size, 0, none⟩), .int .i64 (x : Int), .agg #[.int .i64 (n : Int), .slice a l.length cap], .int .i64 (v : Int), .int .i64 (t : Int), .int .i64 0, .int .i64 0, .bool false, undef, .agg #[.int .i64 (n : Int), .slice a l.length cap], .pointer (some ⟨f, 0, none⟩), .int .i64 (v : Int), .func (.func 37) #[] #[.pointer (some ⟨w2.heap.size, 0, none⟩), .pointer (some ⟨w2.heap.size + 1, 0, none⟩)], .int .i64 (x : Int), undef, undef, undef, undef, undef, undef, undef, undef, undef], defers := [] }) ?assign ?body ?done ?stop
    case ib =>
      rintro (h | h | h | h | h | h | h)
      · omega
      · omega
      · omega
      · omega
      · omega
      · omega
      · have := habl _ h; omega
    case c1 => simp [World.cell?, hV1]
    case c2 => simp [World.cell?, hV2]
    case assign =>
      intro L x W K hK
      gi_wp2
      exact hK
    case body =>
      intro L pre ρ x W h hpre
      obtain ⟨rv, h1, h2, h3⟩ := h.ex
      obtain ⟨av, cv, rfl⟩ := own_slice h2
      have hlt : pre.length < t := h.le
      have hx1 : W.cell? ⟨w1.heap.size, 0, none⟩ = some (.slice av pre.length cv) := by simp [World.cell?, h1]
      have hm : W.cell? ⟨p + 1, 0, none⟩ = some (.int .i64 (t : Int)) := by simp [World.cell?, h.mo]
      have hVW : V.heap.size ≤ W.heap.size := h.sz
      have HNW := Lib.hid (one_new W (x : Int))
      have HOW := Lib.hid (h2.alloc (.cells #[.int .i64 (x : Int)] 3))
      have HBZ : Hid (V.heap.size ≤ (W.alloc (.cells #[.int .i64 (x : Int)] 3)).heap.size) := by show _ ≤ _; simp; omega
      have HRI := Lib.hid h
      have HRHO := Lib.hid h.rho
      have hpr : p + 1 ≠ w1.heap.size := by omega
      have hpr' := hpr.symm
      have HOB : Hid ((Value.slice av pre.length cv).ownBlock = ρ) := h3
      clear h h2 h3
      by_cases heq : pre.length + 1 = t
      · have heq' : (((pre.length : Int) + 1) == (t : Int)) = true := by simp; omega
        gi_wp2_with (gi_at_builtin; refine wpListIn_append_own_at _ rfl (.tmp 23) (.tmp 25) 31 rfl V.heap.size 3 i3 (.int .i64 0) 1 8 Try.underlying31 hi3 hz3 hs3 hby3 rfl (by decide) (.slice av pre.length cv) pre.length (cellsI (ints pre)) rfl HOW.out ⟨W.heap.size, 0, none⟩ 1 1 [.int .i64 (x : Int)] rfl rfl HNW.out (one_i64 _) (by unfold maxLen; omega) (by omega) HBZ.out ?_; intro v6 w6 hown6 hgrow6 hnil6 hb6; obtain ⟨g6, c6, hv6, _, _, _, _⟩ := own_shape hown6 (fun e => by have := hnil6.1 e; simp at this); subst hv6; rw [HOB.out] at hgrow6 hb6; obtain ⟨⟨e61, e62⟩, hri, hfr, hro⟩ := HRI.out.add (Z' := fun k => k = t) (o := .cells #[.int .i64 (x : Int)] 3) ⟨by omega, by omega⟩ hp HRHO.out hown6 hgrow6 (hb6.imp id (fun e => by have := Option.some.inj (show some g6 = some _ from e); simpa using this)) heq; have HRF := Lib.hid hri; have HFF := Lib.hid hfr; have HOO := Lib.hid hro; rw [h1] at e61; rw [HRI.out.mo] at e62; have y1 : w6.cell? ⟨w1.heap.size, 0, none⟩ = some (.slice av pre.length cv) := by simp [World.cell?, e61]
                     have y2 : w6.frozen? ⟨w1.heap.size, 0, none⟩ = false := by simp [World.frozen?, e61]
                     have y3 : w6.cell? ⟨p + 1, 0, none⟩ = some (.int .i64 (t : Int)) := by simp [World.cell?, e62]
                     clear hown6 hgrow6 hnil6 hb6 hri hfr hro e61 e62)
        have z1 := HRF.out
        have z2 := HFF.out
        rw [heq] at z1 z2
        exact ⟨_, z1, z2, HOO.out, rfl⟩
      · have heq' : (((pre.length : Int) + 1) == (t : Int)) = false := by simp; omega
        have hlt2 : pre.length + 1 < t := by omega
        gi_wp2_with (gi_at_builtin; refine wpListIn_append_own_at _ rfl (.tmp 23) (.tmp 25) 31 rfl V.heap.size 3 i3 (.int .i64 0) 1 8 Try.underlying31 hi3 hz3 hs3 hby3 rfl (by decide) (.slice av pre.length cv) pre.length (cellsI (ints pre)) rfl HOW.out ⟨W.heap.size, 0, none⟩ 1 1 [.int .i64 (x : Int)] rfl rfl HNW.out (one_i64 _) (by unfold maxLen; omega) (by omega) HBZ.out ?_; intro v6 w6 hown6 hgrow6 hnil6 hb6; obtain ⟨g6, c6, hv6, _, _, _, _⟩ := own_shape hown6 (fun e => by have := hnil6.1 e; simp at this); subst hv6; rw [HOB.out] at hgrow6 hb6; obtain ⟨⟨e61, e62⟩, hri, hfr, hro⟩ := HRI.out.add (Z' := fun k => k < t) (o := .cells #[.int .i64 (x : Int)] 3) ⟨by omega, by omega⟩ hp HRHO.out hown6 hgrow6 (hb6.imp id (fun e => by have := Option.some.inj (show some g6 = some _ from e); simpa using this)) hlt2; have HRF := Lib.hid hri; have HFF := Lib.hid hfr; have HOO := Lib.hid hro; rw [h1] at e61; rw [HRI.out.mo] at e62; have y1 : w6.cell? ⟨w1.heap.size, 0, none⟩ = some (.slice av pre.length cv) := by simp [World.cell?, e61]
                     have y2 : w6.frozen? ⟨w1.heap.size, 0, none⟩ = false := by simp [World.frozen?, e61]
                     have y3 : w6.cell? ⟨p + 1, 0, none⟩ = some (.int .i64 (t : Int)) := by simp [World.cell?, e62]
                     clear hown6 hgrow6 hnil6 hb6 hri hfr hro e61 e62)
        exact ⟨_, HRF.out, HFF.out, HOO.out⟩
    case done =>
      intro ρ W h _ hK
      obtain ⟨rv, h1, h2, h3⟩ := h.ex
      have hx1 : W.cell? ⟨w1.heap.size, 0, none⟩ = some rv := by simp [World.cell?, h1]
      have HRI := Lib.hid h
      have hlt : (whole (edl l) (2 * l.length) n (fun _ => false) v).length < t := h.le
      obtain ⟨av, cv, rfl⟩ := own_slice h2
      have hK' : W.heap[w2.heap.size + 2]? = some (.deferred (some [])) := by rw [← hVz]; exact hK
      have HFIN := Lib.hid (h.fin h2 hK' ⟨by omega, by omega⟩ hp (.deferred none))
      have HREG : Hid (whole (edl l) (2 * l.length) n (fun _ => false) v = reg n l v t) := (List.take_of_length_le (Nat.le_of_lt hlt)).symm
      gi_wp2_with fail
      refine ⟨by simp, .inl ⟨_, _, rfl, run_takeDeferred hK', ?_⟩⟩
      exact ⟨.tuple #[.slice av (whole (edl l) (2 * l.length) n (fun _ => false) v).length cv, .int .i64 0], by simp [results, Try.results8, go_sem], _, rfl, _, HFIN.out.1, HREG.out, HFIN.out.2⟩
    case stop =>
      rintro cd pre ρ W hpre rfl h hK
      obtain ⟨rv, h1, h2, h3⟩ := h.ex
      have hx1 : W.cell? ⟨w1.heap.size, 0, none⟩ = some rv := by simp [World.cell?, h1]
      have hlt : pre.length = t := h.le
      obtain ⟨av, cv, rfl⟩ := own_slice h2
      have hK' : W.heap[w2.heap.size + 2]? = some (.deferred (some [])) := by rw [← hVz]; exact hK
      have HFIN := Lib.hid (h.fin h2 hK' ⟨by omega, by omega⟩ hp (.deferred none))
      have HREG : Hid (pre = reg n l v t) := by
        show _ = _
        unfold reg
        rw [← hlt]
        exact List.prefix_iff_eq_take.1 hpre
      have HLT := Lib.hid hlt
      clear hlt
      gi_wp2_with fail
      refine ⟨by simp, .inl ⟨_, _, rfl, run_takeDeferred hK', ?_⟩⟩
      exact ⟨.tuple #[.slice av pre.length cv, .int .i64 0], by simp [results, Try.results8, go_sem], _, rfl, _, HFIN.out.1, HREG.out, HFIN.out.2⟩
  · have he2 : (E != 0) = true := by simp [he]
    gi_wp2_with fail
    refine ⟨.tuple #[.slice none 0 0, .int .i64 E], by simp [results, Try.results8, go_sem], .slice none 0 0, rfl, [], World.ownsRow_nil _ _ _ _, by simp, HB1.out⟩
end Go.Proofs.Ytpgadcacimjlaaa
