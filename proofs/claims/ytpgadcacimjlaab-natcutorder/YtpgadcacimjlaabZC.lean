/-
  The contract of grow.begin. Growth as it lies in memory; contracts of chain and across.
-/
import Derived.Test.YtpgadcacimjlaabZA
import Derived.LoopN
import Derived.Deep.DeepCutAuto
namespace Go.Proofs.Ytpgadcacimjlaab
open Go.RowKit
/-- The header of growth. -/
structure Gw (w : World) (f b1 b2 bs n m : Nat) (a : Option Addr) (cap : Nat) : Prop where
  hd : w.heap[f]? = some (.cells #[.slice a m cap, .slice (some ⟨b1, 0, none⟩) n n, .slice (some ⟨b2, 0, none⟩) (2 * m) (2 * m), .slice (some ⟨bs, 0, none⟩) n n] 106 (0, 0))
theorem four_cells {w : World} {g : Nat} {a b c d : Value} {t : TypeId} (hh : w.heap[g]? = some (.cells #[a, b, c, d] t)) : w.cell? ⟨g, 0, none⟩ = some a ∧ w.cell? ⟨g, 1, none⟩ = some b ∧ w.cell? ⟨g, 2, none⟩ = some c ∧ w.cell? ⟨g, 3, none⟩ = some d := by
  simp [World.cell?, hh]
theorem Gw.fr {D : Nat → Prop} {w w' : World} {f b1 b2 bs n m : Nat} {a : Option Addr} {cap : Nat} (h : Gw w f b1 b2 bs n m a cap) (hf : Fr D w w') (hn : ¬ D f) : Gw w' f b1 b2 bs n m a cap := ⟨(hf.block f (lt_of_block h.hd) hn).trans h.hd⟩
set_option maxHeartbeats 1600000 in
set_option maxRecDepth 100000 in
theorem chain_any {w : World} {f b1 b2 bs n m : Nat} {a : Option Addr} {cap : Nat} {F G : Nat → Int} (hg : Gw w f b1 b2 bs n m a cap) (h1 : TbV w b1 n 3 (fun v => .int .i64 (F v))) (h2 : TbV w b2 (2 * m) 3 (fun v => .int .i64 (G v))) (hne : b1 ≠ b2) (hf1 : f ≠ b1) (hf2 : f ≠ b2) {v k : Nat} (hv : v < n) (hk : k < 2 * m) :
    Calls Try.prog 57 #[.pointer (some ⟨f, 0, none⟩), .int .i64 v, .int .i64 k] w fun e w' => e = .returned (.tuple #[]) ∧ TbV w' b1 n 3 (fun x => .int .i64 (updI F v k x)) ∧ TbV w' b2 (2 * m) 3 (fun x => .int .i64 (updI G k (F v) x)) ∧ Fr (fun j => j = b1 ∨ j = b2) w w' := by
  obtain ⟨c0, c1, c2, c3⟩ := four_cells hg.hd
  have d1 := h1.cell hv
  have d1f := h1.free v
  have d2 := h2.cell hk
  have d2f := h2.free k
  have hv' : (v : Int) < n := by omega
  have hk' : (k : Int) < ((2 * m : Nat) : Int) := by omega
  have f1 : Fr (fun j => j = b2) w (w.setCell ⟨b2, k, none⟩ (.int .i64 (F v))) := (Fr.refl _ w).setCell ⟨b2, k, none⟩ _ rfl
  have f2 : Fr (fun j => j = b1) (w.setCell ⟨b2, k, none⟩ (.int .i64 (F v))) ((w.setCell ⟨b2, k, none⟩ (.int .i64 (F v))).setCell ⟨b1, v, none⟩ (.int .i64 k)) := (Fr.refl _ _).setCell ⟨b1, v, none⟩ _ rfl
  have t2 := ((h2.set k (.int .i64 (F v))).fr f2 (fun e => hne e.symm)).congr (fun x _ => upd_rank G k (F v) x)
  have t1 := ((h1.fr f1 hne).set v (.int .i64 k)).congr (fun x _ => upd_rank F v k x)
  have f3 := (f1.imp (D2 := fun j => j = b1 ∨ j = b2) (fun _ h => .inr h)).trans (f2.imp (fun _ h => .inl h))
  have HT1 := Lib.hid t1
  have HT2 := Lib.hid t2
  have HF3 := Lib.hid f3
  have hne2 := hne.symm
  have hf1' := hf1.symm
  have hf2' := hf2.symm
  clear h1 h2 f1 f2 f3 t1 t2
  generalize hFv : F v = fv at *
  generalize hGk : G k = gk at *
  go_enter Try.func57, Try.ntmps57
  go_wp2_with fail
  go_region
  all_goals
    go_wp2_with fail
    go_end0
    exact ⟨rfl, HT1.out, HT2.out, ⟨HF3.out.os, HF3.out.tape, HF3.out.output, HF3.out.size, HF3.out.block⟩⟩
set_option maxHeartbeats 800000 in
theorem across_any {w : World} {f b1 b2 bs n : Nat} {a : Option Addr} {l : List A} {cap : Nat} (hg : Gw w f b1 b2 bs n l.length a cap) (hr : Arcs w a l) (hp : ∀ x, x ∈ l → 0 ≤ x.f ∧ 0 ≤ x.t) (hm : l.length ≤ 16384) {k : Nat} (hk : k < 2 * l.length) :
    Calls Try.prog 71 #[.pointer (some ⟨f, 0, none⟩), .int .i64 k] w fun e w' => e = .returned (.int .i64 (tto (edl l) k)) ∧ w' = w := by
  obtain ⟨c0, c1, c2, c3⟩ := four_cells hg.hd
  have hj : k / 2 < l.length := by omega
  obtain ⟨b, o, rfl, hbl, hat⟩ : ∃ b o, a = some ⟨b, o, none⟩ ∧ b < w.heap.size ∧ ∀ j, j < l.length → (l.getD j A.zero).at w b (o + j * 3) := by
    rcases hr with rfl | ⟨b, o, h⟩
    · simp at hj
    · exact ⟨b, o, h⟩
  obtain ⟨x0, x1, x2⟩ := hat (k / 2) hj
  have hpo := hp (l.getD (k / 2) A.zero) (by simp [List.getD, List.getElem?_eq_getElem hj])
  have he := edl_at hj
  have hj' : ((k / 2 : Nat) : Int) < l.length := by omega
  generalize l.getD (k / 2) A.zero = x at *
  obtain ⟨T, HT⟩ := named (tto (edl l) k)
  rw [HT.out]
  have E1 : Hid ((k : Int) / 2 = ((k / 2 : Nat) : Int)) := by show _ = _; omega
  by_cases hp2 : k % 2 = 0
  · have e2 : ((k : Int) % 2 == 0) = true := by simp; omega
    have hT : (T : Int) = x.t := by
      rw [← HT.out]; unfold tto; rw [if_pos hp2, he]; exact Int.toNat_of_nonneg hpo.2
    have HTT := Lib.hid hT
    clear hT
    go_enter Try.func71, Try.ntmps71
    go_wp2_with fail
    go_ret
    exact ⟨by rw [HTT.out]; rfl, rfl⟩
  · have e2 : ((k : Int) % 2 == 0) = false := by simp; omega
    have hT : (T : Int) = x.f := by
      rw [← HT.out]; unfold tto; rw [if_neg hp2, he]; exact Int.toNat_of_nonneg hpo.1
    have HTT := Lib.hid hT
    clear hT
    go_enter Try.func71, Try.ntmps71
    go_wp2_with fail
    go_ret
    exact ⟨by rw [HTT.out]; rfl, rfl⟩
end Go.Proofs.Ytpgadcacimjlaab
namespace Go.Proofs.Ytpgadcacimjlaab
open Go.RowKit
theorem four_new (W : World) (o1 o2 o3 o4 : Obj) : Below W.heap.size W ((((W.alloc o1).alloc o2).alloc o3).alloc o4) ∧ ((((W.alloc o1).alloc o2).alloc o3).alloc o4).heap[W.heap.size]? = some o1 ∧ ((((W.alloc o1).alloc o2).alloc o3).alloc o4).heap[W.heap.size + 1]? = some o2 ∧ ((((W.alloc o1).alloc o2).alloc o3).alloc o4).heap[W.heap.size + 2]? = some o3 ∧ ((((W.alloc o1).alloc o2).alloc o3).alloc o4).heap[W.heap.size + 3]? = some o4 := by
  refine ⟨((((Below.refl _ W).alloc (Nat.le_refl _) o1).alloc (by simp) o2).alloc (by simp; omega) o3).alloc (by simp; omega) o4, ?_, ?_, ?_, ?_⟩
  · exact (Below.heap_alloc _ _ _ (by simp; omega)).trans ((Below.heap_alloc _ _ _ (by simp; omega)).trans ((Below.heap_alloc _ _ _ (by simp)).trans (heap_top W o1)))
  · have := heap_top (W.alloc o1) o2
    rw [World.size_alloc] at this
    exact (Below.heap_alloc _ _ _ (by simp)).trans ((Below.heap_alloc _ _ _ (by simp)).trans this)
  · have := heap_top ((W.alloc o1).alloc o2) o3
    rw [World.size_alloc, World.size_alloc] at this
    exact (Below.heap_alloc _ _ _ (by simp)).trans this
  · have := heap_top (((W.alloc o1).alloc o2).alloc o3) o4
    rw [World.size_alloc, World.size_alloc, World.size_alloc] at this
    exact this
/-- What the first statement leaves. -/
structure Md (W wc : World) (f b1 b2 bs N m : Nat) (a : Option Addr) (cap : Nat) : Prop where
  gw : Gw wc f b1 b2 bs N m a cap
  t1 : TbV wc b1 N 3 (fun _ => .int .i64 0)
  t2 : TbV wc b2 (2 * m) 3 (fun _ => .int .i64 0)
  ts : TbV wc bs N 4 (fun _ => .bool false)
  lo : W.heap.size ≤ f ∧ W.heap.size ≤ b1 ∧ W.heap.size ≤ b2 ∧ W.heap.size ≤ bs
  ne : f ≠ b1 ∧ f ≠ b2 ∧ f ≠ bs ∧ b1 ≠ b2 ∧ b1 ≠ bs ∧ b2 ≠ bs
  be : Below W.heap.size W wc
abbrev tz (n : Nat) : Obj := .cells ((List.range n).map (fun _ => Value.int .i64 0)).toArray 3
abbrev tf (n : Nat) : Obj := .cells ((List.range n).map (fun _ => Value.bool false)).toArray 4
theorem md_of {W w4 : World} {q1 q2 qs N m cap : Nat} {a : Option Addr} (hb : Below W.heap.size W w4) (hh : w4.heap[W.heap.size + 3]? = some (.cells #[.slice a m cap, .slice (some ⟨q1, 0, none⟩) N N, .slice (some ⟨q2, 0, none⟩) (2 * m) (2 * m), .slice (some ⟨qs, 0, none⟩) N N] 106)) (t1 : w4.heap[q1]? = some (tz N)) (t2 : w4.heap[q2]? = some (tz (2 * m))) (ts : w4.heap[qs]? = some (tf N))
    (h : (W.heap.size ≤ q1 ∧ q1 < W.heap.size + 3) ∧ (W.heap.size ≤ q2 ∧ q2 < W.heap.size + 3) ∧ (W.heap.size ≤ qs ∧ qs < W.heap.size + 3) ∧ q1 ≠ q2 ∧ q1 ≠ qs ∧ q2 ≠ qs) : Hid (Md W w4.drew (W.heap.size + 1 + 1 + 1) q1 q2 qs N m a cap) :=
  ⟨⟨hh⟩, t1, t2, ts, ⟨by omega, by omega, by omega, by omega⟩, ⟨by omega, by omega, by omega, by omega, by omega, by omega⟩, hb.drew⟩
/-- The tables while arcs are chained. -/
structure Bg (w wr : World) (f b1 b2 bs N m : Nat) (a : Option Addr) (cap : Nat) (E : List Ed) (c : Nat) : Prop where
  gw : Gw wr f b1 b2 bs N m a cap
  fi : TbV wr b1 N 3 (fun v => .int .i64 (lst E v c))
  nx : TbV wr b2 (2 * m) 3 (fun k => .int .i64 (if k < c then lst E (frm E k) k else 0))
  sn : TbV wr bs N 4 (fun _ => .bool false)
  be : Below w.heap.size w wr
theorem Bg.on {w wr w2 : World} {f b1 b2 bs N m : Nat} {a : Option Addr} {cap : Nat} {E : List Ed} {c : Nat} (h : Bg w wr f b1 b2 bs N m a cap E c) (hb : Below wr.heap.size wr w2) : Bg w w2 f b1 b2 bs N m a cap E c :=
  ⟨⟨(hb.block _ (lt_of_block h.gw.hd)).trans h.gw.hd⟩, h.fi.same (hb.block _ h.fi.lt), h.nx.same (hb.block _ h.nx.lt), h.sn.same (hb.block _ h.sn.lt), h.be.trans (hb.mono h.be.size)⟩
theorem Bg.step {w wr w2 : World} {f b1 b2 bs N m : Nat} {a : Option Addr} {cap : Nat} {E : List Ed} {c v : Nat} (h : Bg w wr f b1 b2 bs N m a cap E c) (ne : f ≠ b1 ∧ f ≠ b2 ∧ f ≠ bs ∧ b1 ≠ b2 ∧ b1 ≠ bs ∧ b2 ≠ bs) (l1 : w.heap.size ≤ b1) (l2 : w.heap.size ≤ b2) (hv : frm E c = v)
    (t1 : TbV w2 b1 N 3 (fun x => .int .i64 (updI (fun v => lst E v c) v c x))) (t2 : TbV w2 b2 (2 * m) 3 (fun x => .int .i64 (updI (fun k => if k < c then lst E (frm E k) k else 0) c (lst E v c) x))) (hf : Fr (fun j => j = b1 ∨ j = b2) wr w2) : Bg w w2 f b1 b2 bs N m a cap E (c + 1) := by
  refine ⟨h.gw.fr hf (fun e => e.elim ne.1 ne.2.1), t1.congr (fun x _ => ?_), t2.congr (fun x _ => ?_), h.sn.fr hf (fun e => e.elim (fun e => ne.2.2.2.2.1 e.symm) (fun e => ne.2.2.2.2.2 e.symm)), ?_⟩
  · rw [lst_step, hv]
  · by_cases e : x = c
    · subst e; rw [updI_self, if_pos (Nat.lt_succ_self _), hv]
    · rw [updI_ne _ _ e]
      by_cases e2 : x < c
      · rw [if_pos e2, if_pos (by omega)]
      · rw [if_neg e2, if_neg (by omega)]
  · exact ⟨hf.os.trans h.be.os, hf.tape.trans h.be.tape, hf.output.trans h.be.output, Nat.le_trans h.be.size hf.size, fun k hk => (hf.block k (Nat.lt_of_lt_of_le hk h.be.size) (fun e => e.elim (fun e => absurd l1 (Nat.not_le.2 (e ▸ hk))) (fun e => absurd l2 (Nat.not_le.2 (e ▸ hk))))).trans (h.be.block k hk)⟩
theorem Bg.call {w wr : World} {f b1 b2 bs N m : Nat} {a : Option Addr} {cap : Nat} {E : List Ed} {c v : Nat} {K : Int} (h : Bg w wr f b1 b2 bs N m a cap E c) (ne : f ≠ b1 ∧ f ≠ b2 ∧ f ≠ bs ∧ b1 ≠ b2 ∧ b1 ≠ bs ∧ b2 ≠ bs) (lo : w.heap.size ≤ f ∧ w.heap.size ≤ b1 ∧ w.heap.size ≤ b2 ∧ w.heap.size ≤ bs) (hf : frm E c = v) (hv : v < N) (hk : c < 2 * m) (hK : K = (c : Int)) :
    Calls Try.prog 57 #[.pointer (some ⟨f, 0, none⟩), .int .i64 v, .int .i64 K] wr fun e w2 => e = .returned (.tuple #[]) ∧ Bg w w2 f b1 b2 bs N m a cap E (c + 1) ∧ Fr (fun j => j = b1 ∨ j = b2) wr w2 := by
  subst hK
  refine (chain_any h.gw h.fi h.nx ne.2.2.2.1 ne.1 ne.2.1 hv hk).mono ?_
  rintro e w2 ⟨rfl, t1, t2, hfr⟩
  exact ⟨rfl, h.step ne lo.2.1 lo.2.2.1 hf t1 t2 hfr, hfr⟩
set_option maxHeartbeats 1600000 in
set_option maxRecDepth 100000 in
theorem begin_any (N : Nat) (a : Option Addr) (l : List A) (cap : Nat) (w : World) (hN : N ≤ 1024) (hm : l.length ≤ 16384) (hpo : ∀ x, x ∈ l → 0 ≤ x.f ∧ x.f < N ∧ 0 ≤ x.t ∧ x.t < N) (hr : Arcs w a l) :
    Calls Try.prog 38 #[.agg #[.int .i64 N, .slice a l.length cap]] w fun e w' => ∃ f b1 b2 bs, e = .returned (.pointer (some ⟨f, 0, none⟩)) ∧ (f ≠ b1 ∧ f ≠ b2 ∧ f ≠ bs ∧ b1 ≠ b2 ∧ b1 ≠ bs ∧ b2 ≠ bs) ∧ (w.heap.size ≤ f ∧ w.heap.size ≤ b1 ∧ w.heap.size ≤ b2 ∧ w.heap.size ≤ bs) ∧ Bg w w' f b1 b2 bs N l.length a cap (edl l) (2 * l.length) := by
  obtain ⟨b, o, hab⟩ : ∃ b o, 0 < l.length → a = some ⟨b, o, none⟩ ∧ b < w.heap.size ∧ ∀ j, j < l.length → (l.getD j A.zero).at w b (o + j * 3) := by
    rcases hr with rfl | ⟨b, o, h⟩
    · exact ⟨0, 0, fun h => absurd h (by simp)⟩
    · exact ⟨b, o, fun _ => h⟩
  obtain ⟨E, HE⟩ := named (edl l)
  have HEN : Hid (∀ k, k < l.length → ed E k = ⟨(l.getD k A.zero).f.toNat, (l.getD k A.zero).t.toNat, (l.getD k A.zero).w⟩) := fun k hk => by rw [← HE.out]; exact edl_at hk
  have HPO := Lib.hid hpo
  have HAB := Lib.hid hab
  have HBW : Hid (Below w.heap.size w (w.alloc (.cells #[.int .i64 N, .slice a l.length cap] 24))) := (Below.refl _ _).alloc (Nat.le_refl _) _
  obtain ⟨m, HMl⟩ := named l.length
  rw [HMl.out] at hm HEN HAB HBW ⊢
  rw [HE.out]
  clear hr hpo hab
  obtain ⟨i3, hi3, hz3, hs3, hb3⟩ := info_parts info3
  obtain ⟨i4, hi4, hz4, hs4, hb4⟩ := info_parts info4
  have hg := heap_top w (.cells #[.int .i64 N, .slice a m cap] 24)
  have hmkN : ∀ w, (Instr.makeSlice 25 (.int .i64 N) (.int .i64 N)).run Try.prog w = .ok (.slice (some ⟨w.heap.size, 0, none⟩) N N) (w.alloc (tz N)) := fun w => by
    have := run_make (P := Try.prog) w 25 3 i3 (.int .i64 0) Try.underlying25 hi3 hz3 .i64 .i64 N N (by omega) (by omega) (by rw [hb3]; omega) (by omega)
    rw [this, Int.toNat_natCast, hs3, made_int]
  have hmk2 : ∀ w, (Instr.makeSlice 25 (.int .i64 (2 * (m : Int))) (.int .i64 (2 * (m : Int)))).run Try.prog w = .ok (.slice (some ⟨w.heap.size, 0, none⟩) (2 * m) (2 * m)) (w.alloc (tz (2 * m))) := fun w => by
    have := run_make (P := Try.prog) w 25 3 i3 (.int .i64 0) Try.underlying25 hi3 hz3 .i64 .i64 (2 * (m : Int)) (2 * (m : Int)) (by omega) (by omega) (by rw [hb3]; omega) (by omega)
    rw [this, show (2 * (m : Int)).toNat = 2 * m by omega, hs3, made_int]
  have hmkB : ∀ w, (Instr.makeSlice 50 (.int .i64 N) (.int .i64 N)).run Try.prog w = .ok (.slice (some ⟨w.heap.size, 0, none⟩) N N) (w.alloc (tf N)) := fun w => by
    have := run_make (P := Try.prog) w 50 4 i4 (.bool false) Try.underlying50 hi4 hz4 .i64 .i64 N N (by omega) (by omega) (by rw [hb4]; omega) (by omega)
    rw [this, Int.toNat_natCast, hs4, made_bool]
  generalize hp : w.heap.size = p at *
  obtain ⟨⟨g0, g1⟩, gf0, gf1⟩ := two_cells hg
  go_enter Try.func38, Try.ntmps38
  go_wp2_with fail
  have hpW : p < (w.alloc (.cells #[.int .i64 N, .slice a m cap] 24)).heap.size := lt_of_block hg
  generalize hW : w.alloc (.cells #[.int .i64 N, .slice a m cap] 24) = W at *
  go_cut [3] (fun s3 wc => ∃ f b1 b2 bs, s3 = .pointer (some ⟨f, 0, none⟩) ∧ Hid (Md W wc f b1 b2 bs N m a cap))
  case first =>
    have hn1 : p ≠ W.heap.size := Nat.ne_of_lt hpW
    have hn2 : p ≠ W.heap.size + 1 := by omega
    have hn3 : p ≠ W.heap.size + 1 + 1 := by omega
    have hn7 : p ≠ W.heap.size + 2 := by omega
    have hn8 := hn7.symm
    have al : ∀ (V : World) (o : Obj) (q : Nat), p < V.heap.size → (V.alloc o).cell? ⟨p, q, none⟩ = V.cell? ⟨p, q, none⟩ := fun V o q h => World.cell?_of_block (a := ⟨p, q, none⟩) (Below.heap_alloc V o p h)
    have k1 : ∀ o1 o2 o3, (((W.alloc o1).alloc o2).alloc o3).cell? ⟨p, 1, none⟩ = some (.slice a m cap) := fun o1 o2 o3 => by
      rw [al _ _ _ (by simp; omega), al _ _ _ (by simp; omega), al _ _ _ hpW, g1]
    have k0 : ∀ o1 o2 o3, (((W.alloc o1).alloc o2).alloc o3).cell? ⟨p, 0, none⟩ = some (.int .i64 N) := fun o1 o2 o3 => by
      rw [al _ _ _ (by simp; omega), al _ _ _ (by simp; omega), al _ _ _ hpW, g0]
    clear al
    have hn4 := hn1.symm
    have hn5 := hn2.symm
    have hn6 := hn3.symm
    clear hW hp HBW hg hi3 hi4 hz3 hz4 hs3 hs4 hb3 hb4 HAB HPO HEN HE HMl
    clear i3 i4
    go_region
    all_goals
      go_wp2_with fail
      go_meet
      case rel =>
        obtain ⟨hb, h1, h2, h3, h4⟩ := four_new W _ _ _ _
        first
        | exact ⟨_, _, _, _, rfl, md_of hb h4 h1 h2 h3 (by omega)⟩
        | exact ⟨_, _, _, _, rfl, md_of hb h4 h1 h3 h2 (by omega)⟩
        | exact ⟨_, _, _, _, rfl, md_of hb h4 h2 h1 h3 (by omega)⟩
        | exact ⟨_, _, _, _, rfl, md_of hb h4 h2 h3 h1 (by omega)⟩
        | exact ⟨_, _, _, _, rfl, md_of hb h4 h3 h1 h2 (by omega)⟩
        | exact ⟨_, _, _, _, rfl, md_of hb h4 h3 h2 h1 (by omega)⟩
  case rest =>
    obtain ⟨f, b1, b2, bs, rfl, HM⟩ := hcut
    have HNE := Lib.hid HM.out.ne
    have hgc := (HM.out.be.block p (lt_of_block hg)).trans hg
    obtain ⟨j0, j1⟩ := (two_cells hgc).1
    have HBC : Hid (Below p w wc) := HBW.out.trans (HM.out.be.mono (Nat.le_of_lt hpW))
    clear hmkN hmk2 hmkB g0 g1 gf0 gf1
    clear hi3 hi4 hz3 hz4 hs3 hs4 hb3 hb4
    clear i3 i4
    obtain ⟨c0, c1, c2, c3⟩ := four_cells HM.out.gw.hd
    have hN' : (0 : Int) ≤ N := by omega
    go_wp2_with fail
    go_loopw [27] (fun i wr => ∃ k : Nat, k ≤ N ∧ i = .int .i64 k ∧ TbV wr b1 N 3 (fun v => .int .i64 (if v < k then -1 else 0)) ∧ Hid (Fr (fun j => j = b1) wc wr)) (fun i _ => N - (intOf i).toNat)
    case atStart => exact ⟨0, Nat.zero_le _, rfl, HM.out.t1.congr (fun v _ => by simp), Fr.refl _ _⟩
    case round =>
      obtain ⟨k, hk, rfl, t1, HF⟩ := hrel
      clear c0 c1 c2 c3 j0 j1
      obtain ⟨c0, c1, c2, c3⟩ := four_cells (HM.out.gw.fr HF.out HNE.out.1).hd
      obtain ⟨j0, j1⟩ := (two_cells ((HF.out.block p (lt_of_block hgc) (fun e => absurd HM.out.lo.2.1 (Nat.not_le.2 (e ▸ hpW)))).trans hgc)).1
      by_cases hlt : k < N
      · have hlt' : (k : Int) < N := by omega
        have d1 := t1.cell hlt
        have d2 := t1.free k
        go_wp2_with fail
        refine ⟨⟨k + 1, by omega, by simp, (t1.set k (.int .i64 (-1))).congr (fun v _ => ?_), HF.out.setCell ⟨b1, k, none⟩ _ rfl⟩, by simp [intOf]; omega⟩
        by_cases e : v = k
        · subst e; rw [updV_self, if_pos (Nat.lt_succ_self _)]
        · rw [updV_ne _ _ e]
          by_cases e2 : v < k
          · rw [if_pos e2, if_pos (by omega)]
          · rw [if_neg e2, if_neg (by omega)]
      · obtain rfl : k = N := by omega
        have hb : Bg w wr f b1 b2 bs k m a cap E (2 * 0) := by
          refine ⟨HM.out.gw.fr HF.out HNE.out.1, t1.congr (fun v hv => by rw [if_pos hv]; rfl), (HM.out.t2.fr HF.out (fun e => HNE.out.2.2.2.1 e.symm)).congr (fun v _ => by rw [if_neg (by omega)]), HM.out.ts.fr HF.out (fun e => HNE.out.2.2.2.2.1 e.symm), ?_⟩
          rw [hp]
          exact ⟨HF.out.os.trans HBC.out.os, HF.out.tape.trans HBC.out.tape, HF.out.output.trans HBC.out.output, Nat.le_trans HBC.out.size HF.out.size, fun j hj => (HF.out.block j (Nat.lt_of_lt_of_le hj (hp ▸ HBC.out.size)) (fun e => absurd HM.out.lo.2.1 (Nat.not_le.2 (Nat.lt_trans (e ▸ hj) hpW)))).trans (HBC.out.block j hj)⟩
        have HB := Lib.hid hb
        have HLO : Hid (p ≤ f ∧ p ≤ b1 ∧ p ≤ b2 ∧ p ≤ bs) := by
          obtain ⟨q1, q2, q3, q4⟩ := HM.out.lo
          exact ⟨by omega, by omega, by omega, by omega⟩
        have hgr : wr.heap[p]? = some (.cells #[.int .i64 k, .slice a m cap] 24) := (HF.out.block p (lt_of_block hgc) (fun e => absurd HM.out.lo.2.1 (Nat.not_le.2 (e ▸ hpW)))).trans hgc
        have HGR := Lib.hid hgr
        clear hb hgr t1 HF HM hgc hg HBC HBW hW hpW
        go_wp2_with fail
        go_loopw [40] (fun i wx => ∃ c : Nat, c ≤ m ∧ i = .int .i64 c ∧ Hid (Bg w wx f b1 b2 bs k m a cap E (2 * c))) (fun i _ => m - (intOf i).toNat)
        case atStart => exact ⟨0, Nat.zero_le _, rfl, HB⟩
        case round =>
          obtain ⟨c, hc, rfl, HC⟩ := hrel
          clear c0 c1 c2 c3 j0 j1
          by_cases hlt : c < m
          · obtain ⟨rfl, hbl, hat⟩ := HAB.out (by omega)
            have hlt' : (c : Int) < m := by omega
            have hmem := HPO.out (l.getD c A.zero) (by rw [← HMl.out] at hlt; simp [List.getD, List.getElem?_eq_getElem hlt])
            have hbx := HC.out.be
            rw [hp] at hbx
            obtain ⟨q0, q1, q2⟩ := (hat c hlt).on (by rw [hp]; exact hbx)
            have HED := Lib.hid (HEN.out c hlt)
            generalize l.getD c A.zero = x at *
            obtain ⟨u, hu⟩ : ∃ u : Nat, x.f = u := ⟨x.f.toNat, by omega⟩
            obtain ⟨v, hv⟩ : ∃ v : Nat, x.t = v := ⟨x.t.toNat, by omega⟩
            rw [hu, hv] at hmem
            rw [hu] at q0 HED
            rw [hv] at q1 HED
            have hul : u < k := by omega
            have hvl : v < k := by omega
            have HF1 : Hid (frm E (2 * c) = u) := by show _ = _; unfold frm; rw [if_pos (by omega), show 2 * c / 2 = c by omega, HED.out]; simp
            have HF2 : Hid (frm E (2 * c + 1) = v) := by show _ = _; unfold frm; rw [if_neg (by omega), show (2 * c + 1) / 2 = c by omega, HED.out]; simp
            clear hbx hu hv
            go_wp2_with fail
            have hlo := HLO.out
            rw [← hp] at hlo
            have HB1 := Lib.hid (HC.out.on ((Below.refl _ _).alloc (Nat.le_refl _) (.cells #[.int .i64 u, .int .i64 v, .int .u32 x.w] 40)))
            have hx := heap_top wr (.cells #[.int .i64 u, .int .i64 v, .int .u32 x.w] 40)
            have hn1 : wr.heap.size ≠ b1 := Nat.ne_of_gt HC.out.fi.lt
            have hn2 : wr.heap.size ≠ b2 := Nat.ne_of_gt HC.out.nx.lt
            clear q0 q1 q2 hat
            refine (HB1.out.call HNE.out hlo HF1.out hul (by omega) (by simp)).mono ?_
            rintro e w1 ⟨rfl, hB2, hfr⟩
            have HB2 := Lib.hid hB2
            have hx1 := (hfr.block wr.heap.size (lt_of_block hx) (fun e => e.elim hn1 hn2)).trans hx
            obtain ⟨z0, z1, z2⟩ := three_cells hx1
            clear hB2 hfr hx hx1
            go_wp2_with fail
            refine (HB2.out.call HNE.out hlo HF2.out hvl (by omega) (by simp)).mono ?_
            rintro e w2 ⟨rfl, hB3, hfr⟩
            have HB3 := Lib.hid hB3
            clear hB3 hfr z0 z1 z2
            go_wp2_with fail
            exact ⟨⟨c + 1, by omega, by simp, HB3⟩, by simp [intOf]; omega⟩
          · obtain rfl : c = m := by omega
            have hlt' : ¬ (c : Int) < c := by omega
            go_wp2_with fail
            go_ret
            exact ⟨f, rfl, b1, b2, bs, HNE.out, HLO.out, HC.out⟩
end Go.Proofs.Ytpgadcacimjlaab
