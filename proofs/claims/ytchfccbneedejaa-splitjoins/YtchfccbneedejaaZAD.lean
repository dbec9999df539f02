/-
  The order in which a growth comes upon vertices. The contract of grow.begin. The contracts of the library functions that the code calls, laid at this translation: each is one application of a theorem of the kit. The contract of slices.Sort at the end of a list of the call's own. What one step of a growth adds: the unseen neighbours of a vertex, rising. The contract of extend.
-/
import Derived.Test.YtchfccbneedejaaZAC
import Derived.LoopN
import Derived.Deep.DeepCutAuto
import Derived.Shelf.Small.Bits
import Derived.Shelf.Sort.Plain
import Derived.Test.YtchfccbneedejaaProg
import Derived.Test.YtchfccbneedejaaZAA
import Derived.Lib.OwnBridge
namespace Go.Proofs.Ytchfccbneedejaa
open Go.RowKit
theorem four_new (W : World) (o1 o2 o3 o4 : Obj) : Below W.heap.size W ((((W.alloc o1).alloc o2).alloc o3).alloc o4) ∧ ((((W.alloc o1).alloc o2).alloc o3).alloc o4).heap[W.heap.size]? = some o1 ∧ ((((W.alloc o1).alloc o2).alloc o3).alloc o4).heap[W.heap.size + 1]? = some o2 ∧ ((((W.alloc o1).alloc o2).alloc o3).alloc o4).heap[W.heap.size + 2]? = some o3 ∧ ((((W.alloc o1).alloc o2).alloc o3).alloc o4).heap[W.heap.size + 3]? = some o4 := by
  refine ⟨((((Below.refl _ W).alloc (Nat.le_refl _) o1).alloc (by simp) o2).alloc (by simp; omega) o3).alloc (by simp; omega) o4, ?_, ?_, ?_, ?_⟩
  · exact (Below.heap_alloc _ _ _ (by simp; omega)).trans ((Below.heap_alloc _ _ _ (by simp; omega)).trans ((Below.heap_alloc _ _ _ (by simp)).trans (heap_top W o1)))
  · have := heap_top (W.alloc o1) o2
    rw [World.size_alloc] at this
    exact (Below.heap_alloc _ _ _ (by simp)).trans ((Below.heap_alloc _ _ _ (by simp)).trans this)
  · have := heap_top ((W.alloc o1).alloc o2) o3
    rw [World.size_alloc, World.size_alloc] at this
    exact (Below.heap_alloc _ _ _ (by simp)).trans this
  · have := heap_top (((W.alloc o1).alloc o2).alloc o3) o4
    rw [World.size_alloc, World.size_alloc, World.size_alloc] at this
    exact this
/-- What the first statement leaves. -/
structure Md (W wc : World) (f b1 b2 bs N m : Nat) (a : Option Addr) (cap : Nat) : Prop where
  gw : Gw wc f b1 b2 bs N m a cap
  t1 : TbV wc b1 N 3 (fun _ => .int .i64 0)
  t2 : TbV wc b2 (2 * m) 3 (fun _ => .int .i64 0)
  ts : TbV wc bs N 4 (fun _ => .bool false)
  lo : W.heap.size ≤ f ∧ W.heap.size ≤ b1 ∧ W.heap.size ≤ b2 ∧ W.heap.size ≤ bs
  ne : f ≠ b1 ∧ f ≠ b2 ∧ f ≠ bs ∧ b1 ≠ b2 ∧ b1 ≠ bs ∧ b2 ≠ bs
  be : Below W.heap.size W wc
abbrev tz (n : Nat) : Obj := .cells ((List.range n).map (fun _ => Value.int .i64 0)).toArray 3
abbrev tf (n : Nat) : Obj := .cells ((List.range n).map (fun _ => Value.bool false)).toArray 4
theorem md_of {W w4 : World} {q1 q2 qs N m cap : Nat} {a : Option Addr} (hb : Below W.heap.size W w4) (hh : w4.heap[W.heap.size + 3]? = some (.cells #[.slice a m cap, .slice (some ⟨q1, 0, none⟩) N N, .slice (some ⟨q2, 0, none⟩) (2 * m) (2 * m), .slice (some ⟨qs, 0, none⟩) N N] 100)) (t1 : w4.heap[q1]? = some (tz N)) (t2 : w4.heap[q2]? = some (tz (2 * m))) (ts : w4.heap[qs]? = some (tf N))
    (h : (W.heap.size ≤ q1 ∧ q1 < W.heap.size + 3) ∧ (W.heap.size ≤ q2 ∧ q2 < W.heap.size + 3) ∧ (W.heap.size ≤ qs ∧ qs < W.heap.size + 3) ∧ q1 ≠ q2 ∧ q1 ≠ qs ∧ q2 ≠ qs) : Hid (Md W w4.drew (W.heap.size + 1 + 1 + 1) q1 q2 qs N m a cap) :=
  ⟨⟨hh⟩, t1, t2, ts, ⟨by omega, by omega, by omega, by omega⟩, ⟨by omega, by omega, by omega, by omega, by omega, by omega⟩, hb.drew⟩
/-- The tables while arcs are chained. -/
structure Bg (w wr : World) (f b1 b2 bs N m : Nat) (a : Option Addr) (cap : Nat) (E : List Ed) (c : Nat) : Prop where
  gw : Gw wr f b1 b2 bs N m a cap
  fi : TbV wr b1 N 3 (fun v => .int .i64 (lst E v c))
  nx : TbV wr b2 (2 * m) 3 (fun k => .int .i64 (if k < c then lst E (frm E k) k else 0))
  sn : TbV wr bs N 4 (fun _ => .bool false)
  be : Below w.heap.size w wr
theorem Bg.on {w wr w2 : World} {f b1 b2 bs N m : Nat} {a : Option Addr} {cap : Nat} {E : List Ed} {c : Nat} (h : Bg w wr f b1 b2 bs N m a cap E c) (hb : Below wr.heap.size wr w2) : Bg w w2 f b1 b2 bs N m a cap E c :=
  ⟨⟨(hb.block _ (lt_of_block h.gw.hd)).trans h.gw.hd⟩, h.fi.same (hb.block _ h.fi.lt), h.nx.same (hb.block _ h.nx.lt), h.sn.same (hb.block _ h.sn.lt), h.be.trans (hb.mono h.be.size)⟩
theorem Bg.step {w wr w2 : World} {f b1 b2 bs N m : Nat} {a : Option Addr} {cap : Nat} {E : List Ed} {c v : Nat} (h : Bg w wr f b1 b2 bs N m a cap E c) (ne : f ≠ b1 ∧ f ≠ b2 ∧ f ≠ bs ∧ b1 ≠ b2 ∧ b1 ≠ bs ∧ b2 ≠ bs) (l1 : w.heap.size ≤ b1) (l2 : w.heap.size ≤ b2) (hv : frm E c = v)
    (t1 : TbV w2 b1 N 3 (fun x => .int .i64 (updI (fun v => lst E v c) v c x))) (t2 : TbV w2 b2 (2 * m) 3 (fun x => .int .i64 (updI (fun k => if k < c then lst E (frm E k) k else 0) c (lst E v c) x))) (hf : Fr (fun j => j = b1 ∨ j = b2) wr w2) : Bg w w2 f b1 b2 bs N m a cap E (c + 1) := by
  refine ⟨h.gw.fr hf (fun e => e.elim ne.1 ne.2.1), t1.congr (fun x _ => ?_), t2.congr (fun x _ => ?_), h.sn.fr hf (fun e => e.elim (fun e => ne.2.2.2.2.1 e.symm) (fun e => ne.2.2.2.2.2 e.symm)), ?_⟩
  · rw [lst_step, hv]
  · by_cases e : x = c
    · subst e; rw [updI_self, if_pos (Nat.lt_succ_self _), hv]
    · rw [updI_ne _ _ e]
      by_cases e2 : x < c
      · rw [if_pos e2, if_pos (by omega)]
      · rw [if_neg e2, if_neg (by omega)]
  · exact ⟨hf.os.trans h.be.os, hf.tape.trans h.be.tape, hf.output.trans h.be.output, Nat.le_trans h.be.size hf.size, fun k hk => (hf.block k (Nat.lt_of_lt_of_le hk h.be.size) (fun e => e.elim (fun e => absurd l1 (Nat.not_le.2 (e ▸ hk))) (fun e => absurd l2 (Nat.not_le.2 (e ▸ hk))))).trans (h.be.block k hk)⟩
theorem Bg.call {w wr : World} {f b1 b2 bs N m : Nat} {a : Option Addr} {cap : Nat} {E : List Ed} {c v : Nat} {K : Int} (h : Bg w wr f b1 b2 bs N m a cap E c) (ne : f ≠ b1 ∧ f ≠ b2 ∧ f ≠ bs ∧ b1 ≠ b2 ∧ b1 ≠ bs ∧ b2 ≠ bs) (lo : w.heap.size ≤ f ∧ w.heap.size ≤ b1 ∧ w.heap.size ≤ b2 ∧ w.heap.size ≤ bs) (hf : frm E c = v) (hv : v < N) (hk : c < 2 * m) (hK : K = (c : Int)) :
    Calls Try.prog 91 #[.pointer (some ⟨f, 0, none⟩), .int .i64 v, .int .i64 K] wr fun e w2 => e = .returned (.tuple #[]) ∧ Bg w w2 f b1 b2 bs N m a cap E (c + 1) ∧ Fr (fun j => j = b1 ∨ j = b2) wr w2 := by
  subst hK
  refine (chain_any h.gw h.fi h.nx ne.2.2.2.1 ne.1 ne.2.1 hv hk).mono ?_
  rintro e w2 ⟨rfl, t1, t2, hfr⟩
  exact ⟨rfl, h.step ne lo.2.1 lo.2.2.1 hf t1 t2 hfr, hfr⟩
set_option maxHeartbeats 1600000 in
set_option maxRecDepth 100000 in
theorem begin_any (N : Nat) (a : Option Addr) (l : List A) (cap : Nat) (w : World) (hN : N ≤ 1024) (hm : l.length ≤ 16384) (hpo : ∀ x, x ∈ l → 0 ≤ x.f ∧ x.f < N ∧ 0 ≤ x.t ∧ x.t < N) (hr : Arcs w a l) :
    Calls Try.prog 74 #[.agg #[.int .i64 N, .slice a l.length cap]] w fun e w' => ∃ f b1 b2 bs, e = .returned (.pointer (some ⟨f, 0, none⟩)) ∧ (f ≠ b1 ∧ f ≠ b2 ∧ f ≠ bs ∧ b1 ≠ b2 ∧ b1 ≠ bs ∧ b2 ≠ bs) ∧ (w.heap.size ≤ f ∧ w.heap.size ≤ b1 ∧ w.heap.size ≤ b2 ∧ w.heap.size ≤ bs) ∧ Bg w w' f b1 b2 bs N l.length a cap (edl l) (2 * l.length) := by
  obtain ⟨b, o, hab⟩ : ∃ b o, 0 < l.length → a = some ⟨b, o, none⟩ ∧ b < w.heap.size ∧ ∀ j, j < l.length → (l.getD j A.zero).at w b (o + j * 3) := by
    rcases hr with rfl | ⟨b, o, h⟩
    · exact ⟨0, 0, fun h => absurd h (by simp)⟩
    · exact ⟨b, o, fun _ => h⟩
  obtain ⟨E, HE⟩ := named (edl l)
  have HEN : Hid (∀ k, k < l.length → ed E k = ⟨(l.getD k A.zero).f.toNat, (l.getD k A.zero).t.toNat, (l.getD k A.zero).w⟩) := fun k hk => by rw [← HE.out]; exact edl_at hk
  have HPO := Lib.hid hpo
  have HAB := Lib.hid hab
  have HBW : Hid (Below w.heap.size w (w.alloc (.cells #[.int .i64 N, .slice a l.length cap] 24))) := (Below.refl _ _).alloc (Nat.le_refl _) _
  obtain ⟨m, HMl⟩ := named l.length
  rw [HMl.out] at hm HEN HAB HBW ⊢
  rw [HE.out]
  clear hr hpo hab
  obtain ⟨i3, hi3, hz3, hs3, hb3⟩ := info_parts info3
  obtain ⟨i4, hi4, hz4, hs4, hb4⟩ := info_parts info4
  have hg := heap_top w (.cells #[.int .i64 N, .slice a m cap] 24)
  have hmkN : ∀ w, (Instr.makeSlice 25 (.int .i64 N) (.int .i64 N)).run Try.prog w = .ok (.slice (some ⟨w.heap.size, 0, none⟩) N N) (w.alloc (tz N)) := fun w => by
    have := run_make (P := Try.prog) w 25 3 i3 (.int .i64 0) Try.underlying25 hi3 hz3 .i64 .i64 N N (by omega) (by omega) (by rw [hb3]; omega) (by omega)
    rw [this, Int.toNat_natCast, hs3, made_int]
  have hmk2 : ∀ w, (Instr.makeSlice 25 (.int .i64 (2 * (m : Int))) (.int .i64 (2 * (m : Int)))).run Try.prog w = .ok (.slice (some ⟨w.heap.size, 0, none⟩) (2 * m) (2 * m)) (w.alloc (tz (2 * m))) := fun w => by
    have := run_make (P := Try.prog) w 25 3 i3 (.int .i64 0) Try.underlying25 hi3 hz3 .i64 .i64 (2 * (m : Int)) (2 * (m : Int)) (by omega) (by omega) (by rw [hb3]; omega) (by omega)
    rw [this, show (2 * (m : Int)).toNat = 2 * m by omega, hs3, made_int]
  have hmkB : ∀ w, (Instr.makeSlice 69 (.int .i64 N) (.int .i64 N)).run Try.prog w = .ok (.slice (some ⟨w.heap.size, 0, none⟩) N N) (w.alloc (tf N)) := fun w => by
    have := run_make (P := Try.prog) w 69 4 i4 (.bool false) Try.underlying69 hi4 hz4 .i64 .i64 N N (by omega) (by omega) (by rw [hb4]; omega) (by omega)
    rw [this, Int.toNat_natCast, hs4, made_bool]
  generalize hp : w.heap.size = p at *
  obtain ⟨⟨g0, g1⟩, gf0, gf1⟩ := two_cells hg
  go_enter Try.func74, Try.ntmps74
  go_wp2_with fail
  have hpW : p < (w.alloc (.cells #[.int .i64 N, .slice a m cap] 24)).heap.size := lt_of_block hg
  generalize hW : w.alloc (.cells #[.int .i64 N, .slice a m cap] 24) = W at *
  go_cut [3] (fun s3 wc => ∃ f b1 b2 bs, s3 = .pointer (some ⟨f, 0, none⟩) ∧ Hid (Md W wc f b1 b2 bs N m a cap))
  case first =>
    have hn1 : p ≠ W.heap.size := Nat.ne_of_lt hpW
    have hn2 : p ≠ W.heap.size + 1 := by omega
    have hn3 : p ≠ W.heap.size + 1 + 1 := by omega
    have hn7 : p ≠ W.heap.size + 2 := by omega
    have hn8 := hn7.symm
    have al : ∀ (V : World) (o : Obj) (q : Nat), p < V.heap.size → (V.alloc o).cell? ⟨p, q, none⟩ = V.cell? ⟨p, q, none⟩ := fun V o q h => World.cell?_of_block (a := ⟨p, q, none⟩) (Below.heap_alloc V o p h)
    have k1 : ∀ o1 o2 o3, (((W.alloc o1).alloc o2).alloc o3).cell? ⟨p, 1, none⟩ = some (.slice a m cap) := fun o1 o2 o3 => by
      rw [al _ _ _ (by simp; omega), al _ _ _ (by simp; omega), al _ _ _ hpW, g1]
    have k0 : ∀ o1 o2 o3, (((W.alloc o1).alloc o2).alloc o3).cell? ⟨p, 0, none⟩ = some (.int .i64 N) := fun o1 o2 o3 => by
      rw [al _ _ _ (by simp; omega), al _ _ _ (by simp; omega), al _ _ _ hpW, g0]
    clear al
    have hn4 := hn1.symm
    have hn5 := hn2.symm
    have hn6 := hn3.symm
    clear hW hp HBW hg hi3 hi4 hz3 hz4 hs3 hs4 hb3 hb4 HAB HPO HEN HE HMl
    clear i3 i4
    go_region
    all_goals
      go_wp2_with fail
      go_meet
      case rel =>
        obtain ⟨hb, h1, h2, h3, h4⟩ := four_new W _ _ _ _
        first
        | exact ⟨_, _, _, _, rfl, md_of hb h4 h1 h2 h3 (by omega)⟩
        | exact ⟨_, _, _, _, rfl, md_of hb h4 h1 h3 h2 (by omega)⟩
        | exact ⟨_, _, _, _, rfl, md_of hb h4 h2 h1 h3 (by omega)⟩
        | exact ⟨_, _, _, _, rfl, md_of hb h4 h2 h3 h1 (by omega)⟩
        | exact ⟨_, _, _, _, rfl, md_of hb h4 h3 h1 h2 (by omega)⟩
        | exact ⟨_, _, _, _, rfl, md_of hb h4 h3 h2 h1 (by omega)⟩
  case rest =>
    obtain ⟨f, b1, b2, bs, rfl, HM⟩ := hcut
    have HNE := Lib.hid HM.out.ne
    have hgc := (HM.out.be.block p (lt_of_block hg)).trans hg
    obtain ⟨j0, j1⟩ := (two_cells hgc).1
    have HBC : Hid (Below p w wc) := HBW.out.trans (HM.out.be.mono (Nat.le_of_lt hpW))
    clear hmkN hmk2 hmkB g0 g1 gf0 gf1
    clear hi3 hi4 hz3 hz4 hs3 hs4 hb3 hb4
    clear i3 i4
    obtain ⟨c0, c1, c2, c3⟩ := four_cells HM.out.gw.hd
    have hN' : (0 : Int) ≤ N := by omega
    go_wp2_with fail
    go_loopw [27] (fun i wr => ∃ k : Nat, k ≤ N ∧ i = .int .i64 k ∧ TbV wr b1 N 3 (fun v => .int .i64 (if v < k then -1 else 0)) ∧ Hid (Fr (fun j => j = b1) wc wr)) (fun i _ => N - (intOf i).toNat)
    case atStart => exact ⟨0, Nat.zero_le _, rfl, HM.out.t1.congr (fun v _ => by simp), Fr.refl _ _⟩
    case round =>
      obtain ⟨k, hk, rfl, t1, HF⟩ := hrel
      clear c0 c1 c2 c3 j0 j1
      obtain ⟨c0, c1, c2, c3⟩ := four_cells (HM.out.gw.fr HF.out HNE.out.1).hd
      obtain ⟨j0, j1⟩ := (two_cells ((HF.out.block p (lt_of_block hgc) (fun e => absurd HM.out.lo.2.1 (Nat.not_le.2 (e ▸ hpW)))).trans hgc)).1
      by_cases hlt : k < N
      · have hlt' : (k : Int) < N := by omega
        have d1 := t1.cell hlt
        have d2 := t1.free k
        go_wp2_with fail
        refine ⟨⟨k + 1, by omega, by simp, (t1.set k (.int .i64 (-1))).congr (fun v _ => ?_), HF.out.setCell ⟨b1, k, none⟩ _ rfl⟩, by simp [intOf]; omega⟩
        by_cases e : v = k
        · subst e; rw [updV_self, if_pos (Nat.lt_succ_self _)]
        · rw [updV_ne _ _ e]
          by_cases e2 : v < k
          · rw [if_pos e2, if_pos (by omega)]
          · rw [if_neg e2, if_neg (by omega)]
      · obtain rfl : k = N := by omega
        have hb : Bg w wr f b1 b2 bs k m a cap E (2 * 0) := by
          refine ⟨HM.out.gw.fr HF.out HNE.out.1, t1.congr (fun v hv => by rw [if_pos hv]; rfl), (HM.out.t2.fr HF.out (fun e => HNE.out.2.2.2.1 e.symm)).congr (fun v _ => by rw [if_neg (by omega)]), HM.out.ts.fr HF.out (fun e => HNE.out.2.2.2.2.1 e.symm), ?_⟩
          rw [hp]
          exact ⟨HF.out.os.trans HBC.out.os, HF.out.tape.trans HBC.out.tape, HF.out.output.trans HBC.out.output, Nat.le_trans HBC.out.size HF.out.size, fun j hj => (HF.out.block j (Nat.lt_of_lt_of_le hj (hp ▸ HBC.out.size)) (fun e => absurd HM.out.lo.2.1 (Nat.not_le.2 (Nat.lt_trans (e ▸ hj) hpW)))).trans (HBC.out.block j hj)⟩
        have HB := Lib.hid hb
        have HLO : Hid (p ≤ f ∧ p ≤ b1 ∧ p ≤ b2 ∧ p ≤ bs) := by
          obtain ⟨q1, q2, q3, q4⟩ := HM.out.lo
          exact ⟨by omega, by omega, by omega, by omega⟩
        have hgr : wr.heap[p]? = some (.cells #[.int .i64 k, .slice a m cap] 24) := (HF.out.block p (lt_of_block hgc) (fun e => absurd HM.out.lo.2.1 (Nat.not_le.2 (e ▸ hpW)))).trans hgc
        have HGR := Lib.hid hgr
        clear hb hgr t1 HF HM hgc hg HBC HBW hW hpW
        go_wp2_with fail
        go_loopw [40] (fun i wx => ∃ c : Nat, c ≤ m ∧ i = .int .i64 c ∧ Hid (Bg w wx f b1 b2 bs k m a cap E (2 * c))) (fun i _ => m - (intOf i).toNat)
        case atStart => exact ⟨0, Nat.zero_le _, rfl, HB⟩
        case round =>
          obtain ⟨c, hc, rfl, HC⟩ := hrel
          clear c0 c1 c2 c3 j0 j1
          by_cases hlt : c < m
          · obtain ⟨rfl, hbl, hat⟩ := HAB.out (by omega)
            have hlt' : (c : Int) < m := by omega
            have hmem := HPO.out (l.getD c A.zero) (by rw [← HMl.out] at hlt; simp [List.getD, List.getElem?_eq_getElem hlt])
            have hbx := HC.out.be
            rw [hp] at hbx
            obtain ⟨q0, q1, q2⟩ := (hat c hlt).on (by rw [hp]; exact hbx)
            have HED := Lib.hid (HEN.out c hlt)
            generalize l.getD c A.zero = x at *
            obtain ⟨u, hu⟩ : ∃ u : Nat, x.f = u := ⟨x.f.toNat, by omega⟩
            obtain ⟨v, hv⟩ : ∃ v : Nat, x.t = v := ⟨x.t.toNat, by omega⟩
            rw [hu, hv] at hmem
            rw [hu] at q0 HED
            rw [hv] at q1 HED
            have hul : u < k := by omega
            have hvl : v < k := by omega
            have HF1 : Hid (frm E (2 * c) = u) := by show _ = _; unfold frm; rw [if_pos (by omega), show 2 * c / 2 = c by omega, HED.out]; simp
            have HF2 : Hid (frm E (2 * c + 1) = v) := by show _ = _; unfold frm; rw [if_neg (by omega), show (2 * c + 1) / 2 = c by omega, HED.out]; simp
            clear hbx hu hv
            go_wp2_with fail
            have hlo := HLO.out
            rw [← hp] at hlo
            have HB1 := Lib.hid (HC.out.on ((Below.refl _ _).alloc (Nat.le_refl _) (.cells #[.int .i64 u, .int .i64 v, .int .u32 x.w] 49)))
            have hx := heap_top wr (.cells #[.int .i64 u, .int .i64 v, .int .u32 x.w] 49)
            have hn1 : wr.heap.size ≠ b1 := Nat.ne_of_gt HC.out.fi.lt
            have hn2 : wr.heap.size ≠ b2 := Nat.ne_of_gt HC.out.nx.lt
            clear q0 q1 q2 hat
            refine (HB1.out.call HNE.out hlo HF1.out hul (by omega) (by simp)).mono ?_
            rintro e w1 ⟨rfl, hB2, hfr⟩
            have HB2 := Lib.hid hB2
            have hx1 := (hfr.block wr.heap.size (lt_of_block hx) (fun e => e.elim hn1 hn2)).trans hx
            obtain ⟨z0, z1, z2⟩ := three_cells hx1
            clear hB2 hfr hx hx1
            go_wp2_with fail
            refine (HB2.out.call HNE.out hlo HF2.out hvl (by omega) (by simp)).mono ?_
            rintro e w2 ⟨rfl, hB3, hfr⟩
            have HB3 := Lib.hid hB3
            clear hB3 hfr z0 z1 z2
            go_wp2_with fail
            exact ⟨⟨c + 1, by omega, by simp, HB3⟩, by simp [intOf]; omega⟩
          · obtain rfl : c = m := by omega
            have hlt' : ¬ (c : Int) < c := by omega
            go_wp2_with fail
            go_ret
            exact ⟨f, rfl, b1, b2, bs, HNE.out, HLO.out, HC.out⟩
end Go.Proofs.Ytchfccbneedejaa
namespace Go.Proofs
open Go.Shelf
def Try.lays128_ren : Go.Shelf.Ren := ⟨fun | 128 => 89 | n => n, fun | 51 => 47 | 3 => 3 | 4 => 4 | 46 => 89 | 5 => 5 | 9 => 9 | n => n, fun | n => n⟩
theorem Try.lays128 : Go.Proofs.Lays.n128 Try.prog Try.lays128_ren := {
  mixed := by kernel_rfl
  f128 := Try.func89.trans (congrArg some (by kernel_rfl))
  t3 := Try.underlying3
  a3 := Try.isAgg3
  z3 := Try.sizeOf3
  v3 := Try.zeroValue3
  t4 := Try.underlying4
  a4 := Try.isAgg4
  z4 := Try.sizeOf4
  v4 := Try.zeroValue4
  t5 := Try.underlying5
  a5 := Try.isAgg5
  z5 := Try.sizeOf5
  v5 := Try.zeroValue5
  t9 := Try.underlying9
  a9 := Try.isAgg9
  z9 := Try.sizeOf9
  v9 := Try.zeroValue9
  t46 := Try.underlying89
  a46 := Try.isAgg89
  z46 := Try.sizeOf89
  v46 := Try.zeroValue89
  t51 := Try.underlying47
  a51 := Try.isAgg47
  z51 := Try.sizeOf47
  v51 := Try.zeroValue47 }
/-- bits.Len32: "Len32 returns the minimum number of bits required to represent x; the result is 0 for x == 0.": IT RETURNS 'Lib.bitLen x'; the world is as it was. ('h0', 'h1': x is a uint32.) (LAID: no walk: one application.) -/
theorem Try.bits_Len32 (x : Int) (w : World) (h0 : 0 ≤ x) (h1 : x ≤ 4294967295) :
    Calls Try.prog 89 #[.int .u32 x] w fun e w' => e = .returned (.int .i64 (Lib.bitLen x.toNat)) ∧ w' = w := Any.bits_Len32 Try.lays128 x w h0 h1
def Try.lays189_ren : Go.Shelf.Ren := ⟨fun | 189 => 100 | 125 => 67 | 257 => 102 | 128 => 89 | 129 => 90 | 294 => 103 | 295 => 104 | 296 => 105 | 297 => 106 | 298 => 107 | 299 => 108 | 216 => 109 | 300 => 110 | 301 => 111 | 328 => 112 | 329 => 95 | 330 => 96 | 331 => 113 | 332 => 114 | 215 => 78 | 343 => 115 | n => n, fun | 28 => 25 | 3 => 3 | 46 => 89 | 0 => 0 | 51 => 47 | 53 => 118 | 4 => 4 | 183 => 111 | 182 => 110 | 131 => 73 | 5 => 5 | 9 => 9 | 218 => 122 | 222 => 126 | 228 => 130 | 229 => 131 | n => n, fun | n => n⟩
theorem Try.lays189 : Go.Proofs.Lays.n189 Try.prog Try.lays189_ren := {
  mixed := by kernel_rfl
  f125 := Try.func67.trans (congrArg some (by kernel_rfl))
  f128 := Try.func89.trans (congrArg some (by kernel_rfl))
  f129 := Try.func90.trans (congrArg some (by kernel_rfl))
  f189 := Try.func100.trans (congrArg some (by kernel_rfl))
  f215 := Try.func78.trans (congrArg some (by kernel_rfl))
  f216 := Try.func109.trans (congrArg some (by kernel_rfl))
  f257 := Try.func102.trans (congrArg some (by kernel_rfl))
  f294 := Try.func103.trans (congrArg some (by kernel_rfl))
  f295 := Try.func104.trans (congrArg some (by kernel_rfl))
  f296 := Try.func105.trans (congrArg some (by kernel_rfl))
  f297 := Try.func106.trans (congrArg some (by kernel_rfl))
  f298 := Try.func107.trans (congrArg some (by kernel_rfl))
  f299 := Try.func108.trans (congrArg some (by kernel_rfl))
  f300 := Try.func110.trans (congrArg some (by kernel_rfl))
  f301 := Try.func111.trans (congrArg some (by kernel_rfl))
  f328 := Try.func112.trans (congrArg some (by kernel_rfl))
  f329 := Try.func95.trans (congrArg some (by kernel_rfl))
  f330 := Try.func96.trans (congrArg some (by kernel_rfl))
  f331 := Try.func113.trans (congrArg some (by kernel_rfl))
  f332 := Try.func114.trans (congrArg some (by kernel_rfl))
  f343 := Try.func115.trans (congrArg some (by kernel_rfl))
  t0 := Try.underlying0
  a0 := Try.isAgg0
  z0 := Try.sizeOf0
  v0 := Try.zeroValue0
  t3 := Try.underlying3
  a3 := Try.isAgg3
  z3 := Try.sizeOf3
  v3 := Try.zeroValue3
  t4 := Try.underlying4
  a4 := Try.isAgg4
  z4 := Try.sizeOf4
  v4 := Try.zeroValue4
  t5 := Try.underlying5
  a5 := Try.isAgg5
  z5 := Try.sizeOf5
  v5 := Try.zeroValue5
  t9 := Try.underlying9
  a9 := Try.isAgg9
  z9 := Try.sizeOf9
  v9 := Try.zeroValue9
  t28 := Try.underlying25
  a28 := Try.isAgg25
  z28 := Try.sizeOf25
  v28 := Try.zeroValue25
  t46 := Try.underlying89
  a46 := Try.isAgg89
  z46 := Try.sizeOf89
  v46 := Try.zeroValue89
  t51 := Try.underlying47
  a51 := Try.isAgg47
  z51 := Try.sizeOf47
  v51 := Try.zeroValue47
  t53 := Try.underlying118
  a53 := Try.isAgg118
  z53 := Try.sizeOf118
  v53 := Try.zeroValue118
  t131 := Try.underlying73
  a131 := Try.isAgg73
  z131 := Try.sizeOf73
  v131 := Try.zeroValue73
  t182 := Try.underlying110
  a182 := Try.isAgg110
  z182 := Try.sizeOf110
  v182 := Try.zeroValue110
  t183 := Try.underlying111
  a183 := Try.isAgg111
  z183 := Try.sizeOf111
  v183 := Try.zeroValue111
  t218 := Try.underlying122
  a218 := Try.isAgg122
  z218 := Try.sizeOf122
  v218 := Try.zeroValue122
  t222 := Try.underlying126
  a222 := Try.isAgg126
  z222 := Try.sizeOf126
  v222 := Try.zeroValue126
  t228 := Try.underlying130
  a228 := Try.isAgg130
  z228 := Try.sizeOf130
  v228 := Try.zeroValue130
  t229 := Try.underlying131
  a229 := Try.isAgg131
  z229 := Try.sizeOf131
  v229 := Try.zeroValue131 }
open Go.Sort Go.RowKit in
theorem Try.slices_Sort_int (blk off cap : Nat) (zs : List Int) (w : World) (hH : Holds (Value.int .i64) w blk off zs.toArray) (hblk : blk < w.heap.size) (hsz : zs.length < 4611686018427387904) :
    Calls Try.prog 100 #[.slice (some ⟨blk, off, none⟩) zs.length cap] w fun e w' =>
      e = .returned (.tuple #[]) ∧ ∃ n os, w' = grow (putRow (Value.int .i64) (Sort.ahead w n) blk off (zs.mergeSort fun x y => decide (x ≤ y)).toArray) os := Any.slices_Sort_int Try.lays189 blk off cap zs w hH hblk hsz
end Go.Proofs
namespace Go.Proofs.Ytchfccbneedejaa
open Go.RowKit
open Go.Sort (Holds putRow putCells mapBlock onCells grow heap_grow_old)
/-- Numbers in rising order. -/
def srt (ys : List Int) : List Int := ys.mergeSort fun x y => decide (x ≤ y)
theorem srt_len (ys : List Int) : (srt ys).length = ys.length := by simp [srt]
theorem holds_tail {w : World} {base g n cap k : Nat} {xs ys : List Int} (h : w.ownsRow base 3 1 (.slice (some ⟨g, 0, none⟩) n cap) n (cellsI (xs ++ ys))) (hx : xs.length = k) : Holds (Value.int .i64) w g k ys.toArray := by
  have hl : xs.length + ys.length = n := by have := h.1; rw [cellsI_len] at this; simpa using this
  intro j hj
  have hj' : j < ys.length := by simpa using hj
  refine ⟨?_, h.frozenAt _⟩
  rw [h.cellAt (k + j) (by omega)]
  unfold cellsI
  rw [List.map_append, List.getElem?_append_right (by simp; omega)]
  simp [hx, hj', getElem!_pos]
theorem own_tail {w : World} {base g n cap k q : Nat} {os : Array Obj} {xs ys zs : List Int} (h : w.ownsRow base 3 1 (.slice (some ⟨g, 0, none⟩) n cap) n (cellsI (xs ++ ys))) (hx : xs.length = k) (hz : zs.length = ys.length) :
    (grow (putRow (Value.int .i64) (Sort.ahead w q) g k zs.toArray) os).ownsRow base 3 1 (.slice (some ⟨g, 0, none⟩) n cap) n (cellsI (xs ++ zs)) := by
  have hl : xs.length + ys.length = n := by have := h.1; rw [cellsI_len] at this; simpa using this
  rcases h.2 with ⟨e0, _⟩ | ⟨g', cap', cur, e0, hb, hg, hn, hm, hs, ht⟩
  · cases e0
  · injection e0 with e1 _ e3
    injection e1 with e1
    injection e1 with e1
    subst e1; subst e3
    have hlt : g < w.heap.size := lt_of_block hg
    refine ⟨by rw [cellsI_len, List.length_append]; omega, .inr ⟨g, cap, putCells (Value.int .i64) k zs.toArray cur, rfl, hb, ?_, hn, hm, by simpa [putCells] using hs, ?_⟩⟩
    · rw [heap_grow_old _ _ (by simpa [putRow, mapBlock, Sort.ahead] using hlt)]
      simp [putRow, mapBlock, Sort.ahead, Array.getElem?_modify, hg, onCells]
    · apply List.ext_getElem?
      intro j
      rw [List.getElem?_take, Array.getElem?_toList]
      by_cases hj : j < n
      · have hjc : j < cur.size := by omega
        simp only [Nat.mul_one, if_pos hj, putCells, Array.getElem?_mapIdx, Array.getElem?_eq_getElem hjc, Option.map_some]
        have e1 : (cur.toList.take (n * 1))[j]? = (cellsI (xs ++ ys))[j]? := by rw [ht]
        rw [List.getElem?_take, if_pos (by omega), Array.getElem?_toList, Array.getElem?_eq_getElem hjc] at e1
        by_cases hjk : j < k
        · rw [if_neg (by omega), e1]
          unfold cellsI
          rw [List.map_append, List.map_append, List.getElem?_append_left (by simp; omega), List.getElem?_append_left (by simp; omega)]
        · rw [if_pos ⟨by omega, by simp; omega⟩]
          unfold cellsI
          rw [List.map_append, List.getElem?_append_right (by simp; omega)]
          have : j - k < zs.length := by omega
          simp [hx, this, getElem!_pos]
      · have : (cellsI (xs ++ zs)).length ≤ j := by rw [cellsI_len, List.length_append]; omega
        rw [List.getElem?_eq_none this, if_neg (by omega)]
theorem sort_fr {w : World} {g k q : Nat} {os : Array Obj} {zs : List Int} : Fr (fun j => j = g) w (grow (putRow (Value.int .i64) (Sort.ahead w q) g k zs.toArray) os) := by
  refine ⟨rfl, rfl, rfl, by simp [grow, putRow, mapBlock, Sort.ahead], fun j hj hn => ?_⟩
  rw [heap_grow_old _ _ (by simpa [putRow, mapBlock, Sort.ahead] using hj)]
  simp [putRow, mapBlock, Sort.ahead, Array.getElem?_modify, Ne.symm hn]
theorem sort_any {w : World} {base g n cap k c m : Nat} {xs ys : List Int} (h : w.ownsRow base 3 1 (.slice (some ⟨g, 0, none⟩) n cap) n (cellsI (xs ++ ys))) (hx : xs.length = k) (hm : m = ys.length) (hb : ys.length < 4611686018427387904) :
    Calls Try.prog 100 #[.slice (some ⟨g, k, none⟩) m c] w fun e w' => e = .returned (.tuple #[]) ∧ w'.ownsRow base 3 1 (.slice (some ⟨g, 0, none⟩) n cap) n (cellsI (xs ++ srt ys)) ∧ Fr (fun j => j = g) w w' := by
  subst hm
  obtain ⟨g', c', he, _, _, hlt, _⟩ := own_shape h (by intro e; cases e)
  injection he with e1 _ _
  injection e1 with e1
  injection e1 with e1
  subst e1
  refine (Try.slices_Sort_int g k c ys w (holds_tail h hx) hlt hb).mono ?_
  rintro e w' ⟨rfl, q, os, rfl⟩
  exact ⟨rfl, own_tail h hx (srt_len ys), sort_fr⟩
theorem sort_none {w : World} {g c : Nat} (hlt : g < w.heap.size) : Calls Try.prog 100 #[.slice (some ⟨g, 0, none⟩) 0 c] w fun e w' => e = .returned (.tuple #[]) ∧ Below w.heap.size w w' := by
  refine (Try.slices_Sort_int g 0 c [] w (fun j hj => absurd hj (by simp)) hlt (by simp)).mono ?_
  rintro e w' ⟨rfl, q, os, rfl⟩
  refine ⟨rfl, ?_⟩
  have h : putRow (Value.int .i64) (Sort.ahead w q) g 0 (List.mergeSort ([] : List Int) fun x y => decide (x ≤ y)).toArray = Sort.ahead w q := by
    unfold putRow
    apply Sort.mapBlock_id
    intro c e fr _
    unfold putCells
    apply Array.ext
    · simp
    · intro i h1 h2
      simp
  rw [h]
  exact ⟨rfl, rfl, rfl, by simp [grow, Sort.ahead], fun k hk => heap_grow_old _ _ hk⟩
end Go.Proofs.Ytchfccbneedejaa
namespace Go.Proofs.Ytchfccbneedejaa
open Go.RowKit
/-- Some step from b on below M leads from v to u. -/
def adjF (E : List Ed) (M v b u : Nat) : Bool := (List.range M).any (fun k => decide (b ≤ k) && (frm E k == v) && (tto E k == u))
theorem adjF_iff {E : List Ed} {M v b u : Nat} : adjF E M v b u = true ↔ ∃ k, b ≤ k ∧ k < M ∧ frm E k = v ∧ tto E k = u := by
  unfold adjF
  rw [List.any_eq_true]
  constructor
  · rintro ⟨k, hk, h⟩
    simp at hk h
    exact ⟨k, h.1.1, hk, h.1.2, h.2⟩
  · rintro ⟨k, h1, h2, h3, h4⟩
    exact ⟨k, by simpa using h2, by simp [h1, h3, h4]⟩
theorem adjF_top {E : List Ed} {M v u : Nat} : adjF E M v M u = false := by
  rw [Bool.eq_false_iff]
  intro h
  obtain ⟨k, h1, h2, _⟩ := adjF_iff.1 h
  omega
/-- Step k is the last one below b that leaves v. -/
theorem adjF_step {E : List Ed} {M v b k u : Nat} (hk : k < b) (hb : b ≤ M) (hf : frm E k = v) (hn : ∀ j, k < j → j < b → frm E j ≠ v) : adjF E M v k u = (adjF E M v b u || decide (u = tto E k)) := by
  rw [Bool.eq_iff_iff]
  simp only [Bool.or_eq_true, adjF_iff, decide_eq_true_eq]
  constructor
  · rintro ⟨j, h1, h2, h3, h4⟩
    by_cases e : j = k
    · subst e; exact .inr h4.symm
    · by_cases e2 : j < b
      · exact absurd h3 (hn j (by omega) e2)
      · exact .inl ⟨j, by omega, h2, h3, h4⟩
  · rintro (⟨j, h1, h2, h3, h4⟩ | h)
    · exact ⟨j, by omega, h2, h3, h4⟩
    · exact ⟨k, Nat.le_refl _, by omega, hf, h.symm⟩
theorem adjF_end {E : List Ed} {M v b u : Nat} (hn : ∀ k, k < b → frm E k ≠ v) : adjF E M v b u = adjF E M v 0 u := by
  rw [Bool.eq_iff_iff]
  simp only [adjF_iff]
  constructor
  · rintro ⟨j, h1, h2, h3, h4⟩; exact ⟨j, Nat.zero_le _, h2, h3, h4⟩
  · rintro ⟨j, _, h2, h3, h4⟩
    refine ⟨j, ?_, h2, h3, h4⟩
    by_cases e : b ≤ j
    · exact e
    · exact absurd h3 (hn j (by omega))
/-- The unseen neighbours of v, rising. -/
def ext (E : List Ed) (M N : Nat) (S : Nat → Bool) (v : Nat) : List Nat := (List.range N).filter (fun u => !S u && adjF E M v 0 u)
theorem mem_ext {E : List Ed} {M N : Nat} {S : Nat → Bool} {v u : Nat} : u ∈ ext E M N S v ↔ u < N ∧ S u = false ∧ adjF E M v 0 u = true := by
  unfold ext
  simp [List.mem_filter]
theorem ext_nodup (E : List Ed) (M N : Nat) (S : Nat → Bool) (v : Nat) : (ext E M N S v).Nodup := List.Pairwise.filter _ List.nodup_range
theorem ints_inj {p q : List Nat} (h : ints p = ints q) : p = q := by
  have := congrArg (List.map Int.toNat) h
  simpa [ints, List.map_map, Function.comp_def] using this
theorem srt_ints {q r : List Nat} (hq : q.Nodup) (hr : r.Pairwise (· < ·)) (he : ∀ u, u ∈ q ↔ u ∈ r) : srt (ints q) = ints r := by
  have hp : (ints q).Perm (ints r) := by
    apply List.Perm.map
    exact (List.perm_ext_iff_of_nodup hq (hr.imp fun {a b} h => by omega)).2 he
  refine List.Perm.eq_of_pairwise (le := fun x y => decide (x ≤ y) = true) (fun a b _ _ h1 h2 => by simp at h1 h2; omega) ?_ ?_ ((List.mergeSort_perm _ _).trans hp)
  · exact List.pairwise_mergeSort (fun a b c h1 h2 => by simp at *; omega) (fun a b => by simp; omega) _
  · unfold ints
    rw [List.pairwise_map]
    exact hr.imp fun {a b} h => by simp; omega
theorem ext_sorted (E : List Ed) (M N : Nat) (S : Nat → Bool) (v : Nat) : (ext E M N S v).Pairwise (· < ·) := List.Pairwise.filter _ List.pairwise_lt_range
theorem nodup_short {q : List Nat} {N : Nat} (hq : q.Nodup) (h : ∀ u, u ∈ q → u < N) : q.length ≤ N := by
  have hp : q.Perm ((List.range N).filter (fun u => decide (u ∈ q))) := (List.perm_ext_iff_of_nodup hq (List.Pairwise.filter _ List.nodup_range)).2 (fun u => by
    rw [List.mem_filter]
    simp
    exact fun hu => h u hu)
  rw [hp.length_eq]
  exact Nat.le_trans (List.length_filter_le _ _) (by simp)
/-- What has been added so far, when the steps from b on have been walked. -/
structure Xs (E : List Ed) (M N : Nat) (S : Nat → Bool) (v b : Nat) (q : List Nat) : Prop where
  nd : q.Nodup
  mem : ∀ u, u ∈ q ↔ u < N ∧ S u = false ∧ adjF E M v b u = true
theorem Xs.start (E : List Ed) (M N : Nat) (S : Nat → Bool) (v : Nat) : Xs E M N S v M [] := ⟨List.nodup_nil, fun u => by simp [adjF_top]⟩
theorem Xs.skip {E : List Ed} {M N : Nat} {S : Nat → Bool} {v b k : Nat} {q : List Nat} (h : Xs E M N S v b q) (hk : k < b) (hb : b ≤ M) (hf : frm E k = v) (hn : ∀ j, k < j → j < b → frm E j ≠ v) (hs : (S (tto E k) || adjF E M v b (tto E k)) = true) : Xs E M N S v k q := by
  refine ⟨h.nd, fun u => ?_⟩
  rw [h.mem, adjF_step hk hb hf hn]
  constructor
  · rintro ⟨h1, h2, h3⟩; exact ⟨h1, h2, by rw [h3]; rfl⟩
  · rintro ⟨h1, h2, h3⟩
    refine ⟨h1, h2, ?_⟩
    by_cases e : u = tto E k
    · subst e; rw [h2, Bool.false_or] at hs; exact hs
    · simpa [e] using h3
theorem Xs.add {E : List Ed} {M N : Nat} {S : Nat → Bool} {v b k : Nat} {q : List Nat} (h : Xs E M N S v b q) (hk : k < b) (hb : b ≤ M) (hf : frm E k = v) (hn : ∀ j, k < j → j < b → frm E j ≠ v) (ht : tto E k < N) (hs : (S (tto E k) || adjF E M v b (tto E k)) = false) : Xs E M N S v k (q ++ [tto E k]) := by
  rw [Bool.or_eq_false_iff] at hs
  refine ⟨?_, fun u => ?_⟩
  · rw [List.nodup_append]
    refine ⟨h.nd, by simp, fun a ha c hc => ?_⟩
    simp at hc
    subst hc
    rintro rfl
    have := ((h.mem _).1 ha).2.2
    rw [hs.2] at this
    cases this
  · rw [List.mem_append, h.mem, adjF_step hk hb hf hn, List.mem_singleton]
    constructor
    · rintro (⟨h1, h2, h3⟩ | rfl)
      · exact ⟨h1, h2, by rw [h3]; rfl⟩
      · exact ⟨ht, hs.1, by simp⟩
    · rintro ⟨h1, h2, h3⟩
      by_cases e : u = tto E k
      · exact .inr e
      · exact .inl ⟨h1, h2, by simpa [e] using h3⟩
theorem Xs.done {E : List Ed} {M N : Nat} {S : Nat → Bool} {v b : Nat} {q : List Nat} (h : Xs E M N S v b q) (hn : ∀ k, k < b → frm E k ≠ v) : srt (ints q) = ints (ext E M N S v) :=
  srt_ints h.nd (ext_sorted E M N S v) (fun u => by rw [h.mem, mem_ext, adjF_end hn])
theorem Xs.short {E : List Ed} {M N : Nat} {S : Nat → Bool} {v b : Nat} {q : List Nat} (h : Xs E M N S v b q) : q.length ≤ N := nodup_short h.nd (fun u hu => ((h.mem u).1 hu).1)
end Go.Proofs.Ytchfccbneedejaa
namespace Go.Proofs.Ytchfccbneedejaa
open Go.RowKit
/-- A growth as it lies in memory: what the walks read. -/
structure Gr (w : World) (f b1 b2 bs N : Nat) (a : Option Addr) (cap : Nat) (l : List A) (S : Nat → Bool) : Prop where
  gw : Gw w f b1 b2 bs N l.length a cap
  ar : Arcs w a l
  fi : TbV w b1 N 3 (fun v => .int .i64 (lst (edl l) v (2 * l.length)))
  nx : TbV w b2 (2 * l.length) 3 (fun k => .int .i64 (lst (edl l) (frm (edl l) k) k))
  sn : TbV w bs N 4 (fun u => .bool (S u))
/-- The block in which the arcs lie, where there are some. -/
def abl (a : Option Addr) (l : List A) (j : Nat) : Prop := l ≠ [] ∧ ∃ x, a = some x ∧ x.block = j
/-- What stays the same in a growth. -/
structure Gf (B f b1 b2 bs N : Nat) (a : Option Addr) (l : List A) : Prop where
  ne : f ≠ b1 ∧ f ≠ b2 ∧ f ≠ bs ∧ b1 ≠ b2 ∧ b1 ≠ bs ∧ b2 ≠ bs
  lt : f < B ∧ b1 < B ∧ b2 < B ∧ bs < B
  av : ∀ j, abl a l j → j < B ∧ j ≠ bs
  nb : N ≤ 1024
  mb : l.length ≤ 16384
  po : ∀ x, x ∈ l → 0 ≤ x.f ∧ x.f < N ∧ 0 ≤ x.t ∧ x.t < N
theorem Gf.tto {B f b1 b2 bs N : Nat} {a : Option Addr} {l : List A} (g : Gf B f b1 b2 bs N a l) {k : Nat} (hk : k < 2 * l.length) : tto (edl l) k < N := by
  have hj : k / 2 < l.length := by omega
  have := g.po (l.getD (k / 2) A.zero) (by simp [List.getD, List.getElem?_eq_getElem hj])
  unfold Ytchfccbneedejaa.tto
  rw [edl_at hj]
  generalize l.getD (k / 2) A.zero = x at *
  show (if k % 2 = 0 then x.t.toNat else x.f.toNat) < N
  split <;> omega
theorem Arcs.fr {D : Nat → Prop} {w w' : World} {a : Option Addr} {l : List A} (h : Arcs w a l) (hf : Fr D w w') (hd : ∀ j, abl a l j → ¬ D j) : Arcs w' a l := by
  rcases h with h | ⟨b, o, rfl, hb, hat⟩
  · exact .inl h
  · by_cases hl : l = []
    · exact .inl hl
    · have e := hf.block b hb (hd _ ⟨hl, _, rfl, rfl⟩)
      refine .inr ⟨b, o, rfl, Nat.lt_of_lt_of_le hb hf.size, fun j hj => ?_⟩
      obtain ⟨h1, h2, h3⟩ := hat j hj
      exact ⟨(World.cell?_of_block (a := ⟨b, _, none⟩) e).trans h1, (World.cell?_of_block (a := ⟨b, _, none⟩) e).trans h2, (World.cell?_of_block (a := ⟨b, _, none⟩) e).trans h3⟩
theorem Gr.fr {D : Nat → Prop} {w w' : World} {B f b1 b2 bs N : Nat} {a : Option Addr} {cap : Nat} {l : List A} {S : Nat → Bool} (h : Gr w f b1 b2 bs N a cap l S) (g : Gf B f b1 b2 bs N a l) (hf : Fr D w w') (hd : ∀ j, j < B → ¬ D j) : Gr w' f b1 b2 bs N a cap l S :=
  ⟨h.gw.fr hf (hd _ g.lt.1), h.ar.fr hf (fun j hj => hd _ (g.av j hj).1), h.fi.fr hf (hd _ g.lt.2.1), h.nx.fr hf (hd _ g.lt.2.2.1), h.sn.fr hf (hd _ g.lt.2.2.2)⟩
theorem Gr.mark {w : World} {B f b1 b2 bs N : Nat} {a : Option Addr} {cap : Nat} {l : List A} {S S' : Nat → Bool} (h : Gr w f b1 b2 bs N a cap l S) (g : Gf B f b1 b2 bs N a l) {u : Nat} (hS : ∀ x, S' x = (S x || decide (x = u))) : Gr (w.setCell ⟨bs, u, none⟩ (.bool true)) f b1 b2 bs N a cap l S' := by
  have f1 : Fr (fun j => j = bs) w (w.setCell ⟨bs, u, none⟩ (.bool true)) := (Fr.refl _ w).setCell ⟨bs, u, none⟩ _ rfl
  refine ⟨h.gw.fr f1 g.ne.2.2.1, h.ar.fr f1 (fun j hj => (g.av j hj).2), h.fi.fr f1 g.ne.2.2.2.2.1, h.nx.fr f1 g.ne.2.2.2.2.2, (h.sn.set u (.bool true)).congr (fun x _ => ?_)⟩
  by_cases e : x = u
  · subst e; rw [updV_self, hS]; simp
  · rw [updV_ne _ _ e, hS]; simp [e]
theorem Gr.congr {w : World} {f b1 b2 bs N : Nat} {a : Option Addr} {cap : Nat} {l : List A} {S S' : Nat → Bool} (h : Gr w f b1 b2 bs N a cap l S) (hS : ∀ x, S x = S' x) : Gr w f b1 b2 bs N a cap l S' :=
  ⟨h.gw, h.ar, h.fi, h.nx, h.sn.congr (fun x _ => by rw [hS])⟩
/-- The loop of extend. -/
structure Ex (w wr : World) (B f b1 b2 bs N : Nat) (a : Option Addr) (cap : Nat) (l : List A) (S : Nat → Bool) (v b : Nat) (xs q : List Nat) (g0 g c : Nat) : Prop where
  bl : b ≤ 2 * l.length
  xq : Xs (edl l) (2 * l.length) N S v b q
  gr : Gr wr f b1 b2 bs N a cap l (fun u => S u || adjF (edl l) (2 * l.length) v b u)
  ow : wr.ownsRow B 3 1 (.slice (some ⟨g, 0, none⟩) (xs.length + q.length) c) (xs.length + q.length) (cellsI (ints xs ++ ints q))
  fr : Fr (fun j => j = bs ∨ j = g0) w wr
  ge : g = g0 ∨ w.heap.size ≤ g
theorem Ex.skip {w wr : World} {B f b1 b2 bs N : Nat} {a : Option Addr} {cap : Nat} {l : List A} {S : Nat → Bool} {v b k : Nat} {xs q : List Nat} {g0 g c : Nat} (h : Ex w wr B f b1 b2 bs N a cap l S v b xs q g0 g c)
    (hk : k < b) (hf : frm (edl l) k = v) (hn : ∀ j, k < j → j < b → frm (edl l) j ≠ v) (hs : (S (tto (edl l) k) || adjF (edl l) (2 * l.length) v b (tto (edl l) k)) = true) : Ex w wr B f b1 b2 bs N a cap l S v k xs q g0 g c := by
  refine ⟨Nat.le_trans (Nat.le_of_lt hk) h.bl, h.xq.skip hk h.bl hf hn hs, h.gr.congr (fun x => ?_), h.ow, h.fr, h.ge⟩
  rw [adjF_step hk h.bl hf hn]
  by_cases e : x = tto (edl l) k
  · subst e; rw [hs]; simp only [decide_true, Bool.or_true]
  · simp [e]
/-- What an append to the list leaves. -/
theorem Ex.add {w wr w6 : World} {B f b1 b2 bs N : Nat} {a : Option Addr} {cap : Nat} {l : List A} {S : Nat → Bool} {v b k : Nat} {xs q : List Nat} {g0 g c g6 c6 : Nat} {o : Obj} (h : Ex w wr B f b1 b2 bs N a cap l S v b xs q g0 g c) (gf : Gf B f b1 b2 bs N a l) (hg0 : B ≤ g0) (hwB : B ≤ w.heap.size)
    (hk : k < b) (hf : frm (edl l) k = v) (hn : ∀ j, k < j → j < b → frm (edl l) j ≠ v) (ht : tto (edl l) k < N) (hs : (S (tto (edl l) k) || adjF (edl l) (2 * l.length) v b (tto (edl l) k)) = false)
    (hown : w6.ownsRow B 3 1 (.slice (some ⟨g6, 0, none⟩) (xs.length + q.length + 1) c6) (xs.length + q.length + 1) (cellsI (ints xs ++ ints q) ++ [.int .i64 ((tto (edl l) k : Nat) : Int)])) (hgr : ((wr.setCell ⟨bs, tto (edl l) k, none⟩ (.bool true)).alloc o).grownBy w6 (some g)) (hb : g6 = g ∨ g6 = ((wr.setCell ⟨bs, tto (edl l) k, none⟩ (.bool true)).alloc o).heap.size) :
    Ex w w6 B f b1 b2 bs N a cap l S v k xs (q ++ [tto (edl l) k]) g0 g6 c6 := by
  have f1 : Fr (fun j => j = bs) wr (wr.setCell ⟨bs, tto (edl l) k, none⟩ (.bool true)) := (Fr.refl _ wr).setCell ⟨bs, tto (edl l) k, none⟩ _ rfl
  have f2 : Fr (fun j => j = g) (wr.setCell ⟨bs, tto (edl l) k, none⟩ (.bool true)) w6 := ((Fr.refl _ _).alloc o).trans ⟨hgr.os, hgr.tape, hgr.output, hgr.size, fun j hj hn => hgr.block j hj (fun e => hn (Option.some.inj e))⟩
  have hgB : B ≤ g := h.ge.elim (fun e => e ▸ hg0) (fun e => Nat.le_trans hwB e)
  refine ⟨Nat.le_trans (Nat.le_of_lt hk) h.bl, h.xq.add hk h.bl hf hn ht hs, ?_, ?_, ?_, ?_⟩
  · refine (h.gr.mark gf (S' := fun u => S u || adjF (edl l) (2 * l.length) v k u) (u := tto (edl l) k) (fun x => ?_)).fr gf f2 (fun j hj e => by omega)
    rw [adjF_step hk h.bl hf hn, Bool.or_assoc]
  · rw [ints_snoc, ← List.append_assoc, ← cellsI_snoc, show xs.length + (q ++ [tto (edl l) k]).length = xs.length + q.length + 1 by simp; omega]
    exact hown
  · refine ⟨f2.os.trans (f1.os.trans h.fr.os), f2.tape.trans (f1.tape.trans h.fr.tape), f2.output.trans (f1.output.trans h.fr.output), Nat.le_trans h.fr.size (Nat.le_trans f1.size f2.size), fun j hj hn => ?_⟩
    have hj1 := Nat.lt_of_lt_of_le hj h.fr.size
    have n1 : j ≠ bs := fun e => hn (.inl e)
    have n2 : j ≠ g := fun e => h.ge.elim (fun e2 => hn (.inr (e.trans e2))) (fun e2 => by omega)
    exact (f2.block j (Nat.lt_of_lt_of_le hj1 f1.size) n2).trans ((f1.block j hj1 n1).trans (h.fr.block j hj hn))
  · rcases hb with rfl | rfl
    · exact h.ge
    · right
      have := h.fr.size
      have := f1.size
      simp only [World.size_alloc]
      omega
/-- What extend leaves. -/
structure Exd (w w' : World) (B f b1 b2 bs N : Nat) (a : Option Addr) (cap : Nat) (l : List A) (S : Nat → Bool) (v : Nat) (ys : List Nat) (g0 g c : Nat) : Prop where
  ow : w'.ownsRow B 3 1 (.slice (some ⟨g, 0, none⟩) ys.length c) ys.length (cellsI (ints ys))
  gr : Gr w' f b1 b2 bs N a cap l (fun u => S u || adjF (edl l) (2 * l.length) v 0 u)
  fr : Fr (fun j => j = bs ∨ j = g0) w w'
  ge : g = g0 ∨ w.heap.size ≤ g
theorem ints_app (p q : List Nat) : ints (p ++ q) = ints p ++ ints q := by simp [ints]
theorem Ex.ends {w wr w5 : World} {B f b1 b2 bs N : Nat} {a : Option Addr} {cap : Nat} {l : List A} {S : Nat → Bool} {v b : Nat} {xs q : List Nat} {g0 g c : Nat} (h : Ex w wr B f b1 b2 bs N a cap l S v b xs q g0 g c) (gf : Gf B f b1 b2 bs N a l) (hg0 : B ≤ g0) (hwB : B ≤ w.heap.size)
    (hn : ∀ k, k < b → frm (edl l) k ≠ v) (how : w5.ownsRow B 3 1 (.slice (some ⟨g, 0, none⟩) (xs.length + q.length) c) (xs.length + q.length) (cellsI (ints xs ++ srt (ints q)))) (hf : Fr (fun j => j = g) wr w5) :
    (xs ++ ext (edl l) (2 * l.length) N S v).length = xs.length + q.length ∧ Exd w w5 B f b1 b2 bs N a cap l S v (xs ++ ext (edl l) (2 * l.length) N S v) g0 g c := by
  have hR := h.xq.done hn
  have hlen : (xs ++ ext (edl l) (2 * l.length) N S v).length = xs.length + q.length := by
    have := congrArg List.length hR
    rw [srt_len, ints_len, ints_len] at this
    rw [List.length_append, this]
  have hgB : B ≤ g := h.ge.elim (fun e => e ▸ hg0) (fun e => Nat.le_trans hwB e)
  refine ⟨hlen, ?_, ?_, ?_, h.ge⟩
  · rw [hlen, ints_app, ← hR]; exact how
  · refine (h.gr.congr (fun x => ?_)).fr gf hf (fun j hj e => by omega)
    rw [adjF_end hn]
  · refine ⟨hf.os.trans h.fr.os, hf.tape.trans h.fr.tape, hf.output.trans h.fr.output, Nat.le_trans h.fr.size hf.size, fun j hj hn => ?_⟩
    have n2 : j ≠ g := fun e => h.ge.elim (fun e2 => hn (.inr (e.trans e2))) (fun e2 => by omega)
    exact (hf.block j (Nat.lt_of_lt_of_le hj h.fr.size) n2).trans (h.fr.block j hj hn)
set_option maxHeartbeats 1600000 in
set_option maxRecDepth 100000 in
theorem extend_any {w : World} {B f b1 b2 bs N : Nat} {a : Option Addr} {cap : Nat} {l : List A} {S : Nat → Bool} (gf : Gf B f b1 b2 bs N a l) (gr : Gr w f b1 b2 bs N a cap l S) {v g0 c0 : Nat} {xs : List Nat} (hv : v < N) (hxs : xs.length ≤ 1024) (hg0 : B ≤ g0) (hwB : B ≤ w.heap.size)
    (hown : w.ownsRow B 3 1 (.slice (some ⟨g0, 0, none⟩) xs.length c0) xs.length (cellsI (ints xs))) :
    Calls Try.prog 93 #[.pointer (some ⟨f, 0, none⟩), .slice (some ⟨g0, 0, none⟩) xs.length c0, .int .i64 v] w fun e w' => ∃ g c, e = .returned (.slice (some ⟨g, 0, none⟩) (xs ++ ext (edl l) (2 * l.length) N S v).length c) ∧ Exd w w' B f b1 b2 bs N a cap l S v (xs ++ ext (edl l) (2 * l.length) N S v) g0 g c := by
  obtain ⟨i3, hi3, hz3, hs3, hby3⟩ := info_parts info3
  have HGF := Lib.hid gf
  have nb := gf.nb
  have mb := gf.mb
  have HX : Hid (Ex w w B f b1 b2 bs N a cap l S v (2 * l.length) xs [] g0 g0 c0) := by
    refine ⟨Nat.le_refl _, Xs.start _ _ _ _ _, gr.congr (fun x => by rw [adjF_top]; simp), ?_, Fr.refl _ _, .inl rfl⟩
    simpa [ints] using hown
  obtain ⟨h0, h1, h2, h3⟩ := four_cells gr.gw.hd
  have d1 := gr.fi.cell hv
  have hv' : (v : Int) < N := by omega
  obtain ⟨E, HE⟩ := named (edl l)
  obtain ⟨e0, HE0⟩ := named (lst E v (2 * l.length))
  rw [HE.out, HE0.out] at d1
  obtain ⟨R, HR⟩ := named (xs ++ ext (edl l) (2 * l.length) N S v)
  rw [HR.out]
  clear gr gf hown
  go_enter Try.func93, Try.ntmps93
  go_wp2_with fail
  go_loopw [1, 8] (fun s1 s8 wr => ∃ (b : Nat) (q : List Nat) (g c : Nat) (e : Int), s1 = .slice (some ⟨g, 0, none⟩) (xs.length + q.length) c ∧ s8 = .int .i64 e ∧ Hid (lst E v b = e) ∧ Hid (Ex w wr B f b1 b2 bs N a cap l S v b xs q g0 g c)) (fun _ s8 _ => (intOf s8 + 1).toNat)
  case atStart => exact ⟨2 * l.length, [], g0, c0, e0, rfl, rfl, HE0, HX⟩
  case round =>
    obtain ⟨b, q, g, c, e, rfl, rfl, HL, HXr⟩ := hrel
    clear h0 h1 h2 h3 d1 HX HE0
    obtain ⟨h0, h1, h2, h3⟩ := four_cells HXr.out.gr.gw.hd
    have hql := HXr.out.xq.short
    rcases lst_cases E v b with ⟨he, hn⟩ | ⟨k, hk, he, hf, hn⟩
    · rw [HL.out] at he
      subst he
      rw [← HE.out] at hn
      have HOW := Lib.hid HXr.out.ow
      have hgc : g < wr.heap.size ∧ xs.length + q.length ≤ c ∧ c ≤ 9223372036854775807 := by
        obtain ⟨g', c', he, _, h5, h6, h7⟩ := own_shape HOW.out (by intro e; cases e)
        injection he with e1 _ e3
        injection e1 with e1
        injection e1 with e1
        subst e1; subst e3
        exact ⟨h6, h5, h7⟩
      obtain ⟨hgl, hgc, hcm⟩ := hgc
      have HN := Lib.hid hn
      clear hn
      by_cases hcx : c = xs.length
      · obtain rfl : q = [] := List.eq_nil_of_length_eq_zero (by omega)
        subst hcx
        go_wp2_with fail
        all_goals first
        | (exfalso; omega)
        | (refine (sort_none (g := g) (c := 0) hgl).mono ?_
           rintro e w5 ⟨rfl, hb5⟩
           obtain ⟨hl5, hd5⟩ := HXr.out.ends HGF.out hg0 hwB HN.out (w5 := w5) (by have := own_on HOW.out hb5; simpa [srt, ints] using this) ⟨hb5.os, hb5.tape, hb5.output, hb5.size, fun k hk _ => hb5.block k hk⟩
           rw [HR.out] at hl5 hd5
           have HD5 := Lib.hid hd5
           have HL5 := Lib.hid hl5
           clear hd5 hl5
           go_wp2_with fail
           refine bodyPost_ret (v := .slice (some ⟨g, 0, none⟩) xs.length xs.length) (by simp [results, Try.results93, go_sem]) rfl ⟨g, _, ?_, HD5.out⟩
           rw [HL5.out]
           simp)
      · have hcx' : xs.length < c := by omega
        go_wp2_with fail
        refine (sort_any HOW.out (ints_len xs) (ints_len q).symm (by rw [ints_len]; omega)).mono ?_
        rintro e w5 ⟨rfl, hown5, hfr5⟩
        obtain ⟨hl5, hd5⟩ := HXr.out.ends HGF.out hg0 hwB HN.out hown5 hfr5
        rw [HR.out] at hl5 hd5
        have HD5 := Lib.hid hd5
        have HL5 := Lib.hid hl5
        clear hd5 hl5 hown5 hfr5
        go_wp2_with fail
        refine bodyPost_ret (v := .slice (some ⟨g, 0, none⟩) (xs.length + q.length) c) (by simp [results, Try.results93, go_sem]) rfl ⟨g, _, ?_, HD5.out⟩
        rw [HL5.out]
    · rw [HL.out] at he
      subst he
      rw [← HE.out] at hf hn
      have hk2 : k < 2 * l.length := Nat.lt_of_lt_of_le hk HXr.out.bl
      have hk2' : (k : Int) < ((2 * l.length : Nat) : Int) := by omega
      have hkn : ((k : Int) != -1) = true := by simp
      have HT := Lib.hid (HGF.out.tto hk2)
      have HF := Lib.hid hf
      have HN := Lib.hid hn
      obtain ⟨u, HU⟩ := named (tto (edl l) k)
      have hu : u < N := by rw [← HU.out]; exact HT.out
      have hu' : (u : Int) < N := by omega
      have dn := HXr.out.gr.nx.cell hk2
      rw [hf] at dn
      obtain ⟨e1, HE1⟩ := named (lst (edl l) v k)
      rw [HE1.out] at dn
      have ds := HXr.out.gr.sn.cell hu
      have dsf := HXr.out.gr.sn.free u
      obtain ⟨sb, HSB⟩ := named (S u || adjF (edl l) (2 * l.length) v b u)
      have hsb : (fun u => Value.bool (S u || adjF (edl l) (2 * l.length) v b u)) u = .bool sb := by show Value.bool _ = _; rw [HSB.out]
      rw [show (Value.bool (S u || adjF (edl l) (2 * l.length) v b u)) = .bool sb from hsb] at ds
      clear hsb hf hn
      go_wp2_with fail
      refine (across_any (cap := cap) (a := a) (bs := bs) (b1 := b1) (b2 := b2) (n := N) HXr.out.gr.gw HXr.out.gr.ar (fun x hx => ⟨(HGF.out.po x hx).1, (HGF.out.po x hx).2.2.1⟩) mb hk2).mono ?_
      rintro e w1 ⟨rfl, rfl⟩
      rw [HU.out]
      cases sb
      · have hz : (w1.setCell ⟨bs, u, none⟩ (.bool true)).heap.size = w1.heap.size := by simp [World.setCell]
        have hnw := one_new (w1.setCell ⟨bs, u, none⟩ (.bool true)) (u : Int)
        rw [hz] at hnw
        have HNW := Lib.hid hnw
        have HOW3 := Lib.hid ((own_set HXr.out.ow ⟨bs, u, none⟩ (.bool true) HGF.out.lt.2.2.2).alloc (.cells #[.int .i64 (u : Int)] 3))
        have HBZ : Hid (B ≤ ((w1.setCell ⟨bs, u, none⟩ (.bool true)).alloc (.cells #[.int .i64 (u : Int)] 3)).heap.size) := by
          show _ ≤ _
          rw [World.size_alloc, hz]
          exact Nat.le_trans hwB (Nat.le_trans HXr.out.fr.size (Nat.le_succ _))
        have hfb : f ≠ bs := HGF.out.ne.2.2.1
        have hfb' := hfb.symm
        have h2b : b2 ≠ bs := HGF.out.ne.2.2.2.2.2
        have h2b' := h2b.symm
        clear hz hnw
        go_wp2_with (at_builtin; refine wpList_append_new rfl (.tmp 45) (.tmp 47) 25 rfl B 3 i3 (.int .i64 0) 1 8 Try.underlying25 hi3 hz3 hs3 hby3 rfl (by decide) (.slice (some ⟨g, 0, none⟩) (xs.length + q.length) c) (xs.length + q.length) (cellsI (ints xs ++ ints q)) rfl HOW3.out ⟨w1.heap.size, 0, none⟩ 1 1 [.int .i64 (u : Int)] rfl rfl HNW.out (one_i64 _) (by unfold maxLen; omega) (by omega) HBZ.out (by omega) ?_; intro v6 w6 hown6 hgrow6 hb6; obtain ⟨g6, c6, hv6, _, _, _, _⟩ := own_shape hown6 (by rintro rfl; simp [Value.ownBlock] at hb6); subst hv6; have hb7 : g6 = g ∨ g6 = ((w1.setCell ⟨bs, u, none⟩ (.bool true)).alloc (.cells #[.int .i64 (u : Int)] 3)).heap.size := (hb6.imp (fun e => Option.some.inj e) (fun e => Option.some.inj e)); have HX6 := Lib.hid (HXr.out.add (w6 := w6) (g6 := g6) (c6 := c6) (o := .cells #[.int .i64 (u : Int)] 3) HGF.out hg0 hwB hk HF.out HN.out HT.out (by rw [HU.out]; exact HSB.out) (by rw [HU.out]; exact hown6) (by rw [HU.out]; exact hgrow6) (by rw [HU.out]; exact hb7)); obtain ⟨y0, y1, y2, y3⟩ := four_cells HX6.out.gr.gw.hd; have yn := HX6.out.gr.nx.cell hk2; rw [HF.out, HE1.out] at yn; clear hown6 hgrow6 hb6 hb7)
        have hlt := lst_lt (edl l) v k
        rw [HE1.out] at hlt
        rw [HU.out] at HX6
        exact ⟨⟨k, q ++ [u], g6, c6, e1, by simp [Nat.add_assoc], rfl, HE.out ▸ HE1, HX6⟩, by simp only [intOf]; omega⟩
      · go_wp2_with fail
        have hlt := lst_lt (edl l) v k
        rw [HE1.out] at hlt
        exact ⟨⟨k, q, g, c, e1, rfl, rfl, HE.out ▸ HE1, Lib.hid (HXr.out.skip hk HF.out HN.out (by rw [HU.out]; exact HSB.out))⟩, by simp only [intOf]; omega⟩
end Go.Proofs.Ytchfccbneedejaa
namespace Go.Proofs.Ytchfccbneedejaa
open Go.RowKit
/-- The list and what has been seen when k vertices have been left. -/
def gro (E : List Ed) (M N : Nat) (S : Nat → Bool) (c : Nat) : Nat → List Nat × (Nat → Bool)
  | 0 => ([c], fun u => S u || decide (u = c))
  | k + 1 => if k < (gro E M N S c k).1.length then ((gro E M N S c k).1 ++ ext E M N (gro E M N S c k).2 ((gro E M N S c k).1.getD k 0), fun u => (gro E M N S c k).2 u || adjF E M ((gro E M N S c k).1.getD k 0) 0 u) else gro E M N S c k
/-- All that is reached, in the order in which it is come upon. -/
def whole (E : List Ed) (M N : Nat) (S : Nat → Bool) (c : Nat) : List Nat := (gro E M N S c N).1
theorem gro_go {E : List Ed} {M N : Nat} {S : Nat → Bool} {c k : Nat} (h : k < (gro E M N S c k).1.length) : gro E M N S c (k + 1) = ((gro E M N S c k).1 ++ ext E M N (gro E M N S c k).2 ((gro E M N S c k).1.getD k 0), fun u => (gro E M N S c k).2 u || adjF E M ((gro E M N S c k).1.getD k 0) 0 u) := by
  simp only [gro]
  rw [if_pos h]
theorem gro_end {E : List Ed} {M N : Nat} {S : Nat → Bool} {c k : Nat} (h : (gro E M N S c k).1.length ≤ k) : ∀ j, gro E M N S c (k + j) = gro E M N S c k
  | 0 => rfl
  | j + 1 => by
    have ih := gro_end h j
    show gro E M N S c (k + j + 1) = _
    simp only [gro]
    rw [if_neg (by rw [ih]; omega), ih]
theorem gro_pre {E : List Ed} {M N : Nat} {S : Nat → Bool} {c k : Nat} : ∀ j, (gro E M N S c k).1 <+: (gro E M N S c (k + j)).1
  | 0 => List.prefix_refl _
  | j + 1 => by
    refine (gro_pre j).trans ?_
    show _ <+: (gro E M N S c (k + j + 1)).1
    simp only [gro]
    split
    · exact List.prefix_append _ _
    · exact List.prefix_refl _
structure Gi (N : Nat) (S : Nat → Bool) (p : List Nat × (Nat → Bool)) : Prop where
  nd : p.1.Nodup
  lt : ∀ u, u ∈ p.1 → u < N
  sn : ∀ u, u ∈ p.1 → p.2 u = true
theorem gro_inv {E : List Ed} {M N : Nat} {S : Nat → Bool} {c : Nat} (hc : c < N) : ∀ k, Gi N S (gro E M N S c k)
  | 0 => ⟨by simp [gro], fun u hu => by simp [gro] at hu; omega, fun u hu => by simp [gro] at hu ⊢; exact .inr hu⟩
  | k + 1 => by
    have ih := gro_inv hc k (E := E) (M := M) (S := S)
    by_cases h : k < (gro E M N S c k).1.length
    · rw [gro_go h]
      refine ⟨?_, ?_, ?_⟩
      · rw [List.nodup_append]
        refine ⟨ih.nd, ext_nodup _ _ _ _ _, fun a ha b hb => ?_⟩
        rintro rfl
        have h1 := ih.sn a ha
        have h2 := (mem_ext.1 hb).2.1
        rw [h1] at h2
        cases h2
      · intro u hu
        rcases List.mem_append.1 hu with hu | hu
        · exact ih.lt u hu
        · exact (mem_ext.1 hu).1
      · intro u hu
        rcases List.mem_append.1 hu with hu | hu
        · simp [ih.sn u hu]
        · show (_ || _) = true
          rw [(mem_ext.1 hu).2.2, Bool.or_true]
    · have : gro E M N S c (k + 1) = gro E M N S c k := by simp only [gro]; rw [if_neg h]
      rw [this]; exact ih
theorem gro_short {E : List Ed} {M N : Nat} {S : Nat → Bool} {c : Nat} (hc : c < N) (k : Nat) : (gro E M N S c k).1.length ≤ N := nodup_short (gro_inv hc k).nd (gro_inv hc k).lt
theorem gro_at {E : List Ed} {M N : Nat} {S : Nat → Bool} {c k : Nat} (hc : c < N) (h : k < (gro E M N S c k).1.length) : (gro E M N S c k).1.getD k 0 < N := (gro_inv (E := E) (M := M) (S := S) hc k).lt _ (by simp [List.getD, List.getElem?_eq_getElem h])
/-- What has come when k vertices have been left. -/
def came (E : List Ed) (M N : Nat) (S : Nat → Bool) (c k : Nat) : List Nat := (gro E M N S c k).1.take k
theorem came_zero (E : List Ed) (M N : Nat) (S : Nat → Bool) (c : Nat) : came E M N S c 0 = [] := by simp [came]
theorem take_snoc {p : List Nat} {k : Nat} (h : k < p.length) : p.take (k + 1) = p.take k ++ [p.getD k 0] := by
  rw [List.take_succ_eq_append_getElem h]
  simp [List.getD, List.getElem?_eq_getElem h]
theorem came_succ {E : List Ed} {M N : Nat} {S : Nat → Bool} {c k : Nat} (h : k < (gro E M N S c k).1.length) : came E M N S c (k + 1) = came E M N S c k ++ [(gro E M N S c k).1.getD k 0] := by
  unfold came
  rw [gro_go h, ← take_snoc h]
  exact List.take_append_of_le_length h
theorem came_pre {E : List Ed} {M N : Nat} {S : Nat → Bool} {c k : Nat} (hc : c < N) (h : k < (gro E M N S c k).1.length) : came E M N S c k ++ [(gro E M N S c k).1.getD k 0] <+: whole E M N S c := by
  have hk : k < N := Nat.lt_of_lt_of_le h (gro_short hc k)
  unfold came
  rw [← take_snoc h]
  refine (List.take_prefix _ _).trans ?_
  have := gro_pre (E := E) (M := M) (N := N) (S := S) (c := c) (k := k) (N - k)
  rwa [show k + (N - k) = N by omega] at this
theorem came_all {E : List Ed} {M N : Nat} {S : Nat → Bool} {c k : Nat} (hc : c < N) (hk : k ≤ (gro E M N S c k).1.length) (h : ¬ k < (gro E M N S c k).1.length) : came E M N S c k = whole E M N S c ∧ gro E M N S c k = gro E M N S c N := by
  have hn : (gro E M N S c k).1.length ≤ k := by omega
  have hkN : k ≤ N := Nat.le_trans hk (gro_short hc k)
  have := gro_end hn (N - k)
  rw [show k + (N - k) = N by omega] at this
  refine ⟨?_, this.symm⟩
  unfold came whole
  rw [this]
  exact List.take_of_length_le hn
end Go.Proofs.Ytchfccbneedejaa
