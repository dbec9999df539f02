import Derived.Deep.RegionLaw
import Derived.Test.YtaafkpojjdjphaaGreatQNC
import Derived.Laws.AppendOwnNone
import Derived.Lib.SliceRun
import Derived.Deep.LoopGhost
set_option maxRecDepth 100000
namespace Go.Proofs.YtaafkpojjdjphaaGreat.N5.Hp
open Go.RowKit
theorem run_append_new {P : Program} (w : World) (base : Nat) (t ty e : TypeId) (i : TypeInfo) (z : Value) (size bytes : Nat) (ht : P.underlying t = some (.slice e)) (hi : P.info? e = some i) (hz : i.zero = some z)
  (hsize : i.size = size) (hby : i.bytes = bytes) (hzs : z.cells.size = size) (hsz : 0 < size)
  (v : Value) (n : Nat) (xs : List Value) (hown : w.ownsRow base e size v n xs)
  (a : Addr) (m c : Nat) (news : List Value) (hl : news.length = m * size) (hnews : ∀ j u, news[j]? = some u → w.cell? (a.add j) = some u) (h1 : ∀ u ∈ news, u.oneCell' = true)
  (h63 : n + m ≤ maxLen) (hbytes : (n + m) * bytes ≤ 140737488355328) (hbase : base ≤ w.heap.size) (hm : 0 < m) :
  ∃ v' w', (Builtin.append_ #[t, t] ty #[v, .slice (some a) m c]).run P w = .ok v' w' ∧ w'.ownsRow base e size v' (n + m) (xs ++ news) ∧ w.grownBy w' v.ownBlock ∧ (v'.ownBlock = v.ownBlock ∨ v'.ownBlock = some w.heap.size) := by
 obtain ⟨v', w', hr, h2, h3, h4⟩ := run_append_own (P := P) w base t ty e i z size bytes ht hi hz hsize hby hzs hsz v n xs hown a m c news hl hnews h1 h63 hbytes hbase
 refine ⟨v', w', hr, h2, h3, ?_⟩
 subst hsize
 subst hby
 have hsmall : n + m ≤ 9223372036854775807 := by simp only [maxLen] at h63; omega
 rcases hown.2 with ⟨rfl, rfl⟩ | ⟨g, cap, cur, rfl, hbg, hg, hnc, hcm, hcs, htake⟩
 ·have hr2 := run_append_nil (P := P) w t ty e i z ht hi hz a m c news hl hnews (by omega) (by omega) (by have hb := hbytes; simp only [Nat.zero_add] at hb; omega)
  rw [hr2] at hr
  injection hr with e1 e2
  right
  rw [← e1]
  rfl
 ·by_cases hroom : n + m ≤ cap
  ·have hfit : n * i.size + news.length ≤ cur.size := by rw [hl, hcs, ← Nat.add_mul]; exact Nat.mul_le_mul_right _ hroom
   have hr2 := run_append_room (P := P) w t ty e i ht hi g n cap cur hg a m c news hl hnews h1 hroom hfit
   rw [hr2] at hr
   injection hr with e1 e2
   left
   rw [← e1]
   rfl
  ·have holds : ∀ j u, xs[j]? = some u → w.cell? ((⟨g, 0, none⟩ : Addr).add j) = some u := hown.cells (g := g) rfl
   have hr2 := run_append_grow (P := P) w t ty e i z ht hi hz ⟨g, 0, none⟩ n cap xs hown.1 holds a m c news hl hnews (by omega) (by omega) (growslice_fits (by omega) hbytes)
   rw [hr2] at hr
   injection hr with e1 e2
   right
   rw [← e1]
   rfl
theorem wp_append_new {P : Program} {w : World} {o : Oper} {a : Act} {K : Act → World → Prop} {Q : Exit → Act → World → Prop} (s x : Operand) (t : TypeId)
  (ho : o.op = .call { callee := .builtin .append, args := #[s, x], argTypes := #[t, t] })
  (base : Nat) (e : TypeId) (i : TypeInfo) (z : Value) (size bytes : Nat) (ht : P.underlying t = some (.slice e)) (hi : P.info? e = some i) (hz : i.zero = some z)
  (hsize : i.size = size) (hby : i.bytes = bytes) (hzs : z.cells.size = size) (hsz : 0 < size)
  (v : Value) (n : Nat) (xs : List Value) (hs : a.eval s = v) (hown : w.ownsRow base e size v n xs)
  (ad : Addr) (m c : Nat) (news : List Value) (hx : a.eval x = .slice (some ad) m c) (hl : news.length = m * size) (hnews : ∀ j u, news[j]? = some u → w.cell? (ad.add j) = some u) (h1 : ∀ u ∈ news, u.oneCell' = true)
  (h63 : n + m ≤ maxLen) (hbytes : (n + m) * bytes ≤ 140737488355328) (hbase : base ≤ w.heap.size) (hm : 0 < m)
  (h : ∀ v' w', w'.ownsRow base e size v' (n + m) (xs ++ news) → w.grownBy w' v.ownBlock → (v'.ownBlock = v.ownBlock ∨ v'.ownBlock = some w.heap.size) → K (a.put o.dst v') w') : o.wp P a w K Q := by
 obtain ⟨v', w', hr, h2, h3, h4⟩ := run_append_new (P := P) w base t o.type e i z size bytes ht hi hz hsize hby hzs hsz v n xs hown ad m c news hl hnews h1 h63 hbytes hbase hm
 unfold Oper.wp
 simp [execOp, ho, resolve, invoke, builtin, hs, hx, hr, Result.andThen]
 exact h v' w' h2 h3 h4
theorem Rep.grow {w w3 : World} {h p : Nat} {v v3 : Value} {n : Nat} {ms : List M} {pl : List Int} (r : Rep w h p v n ms pl) (m : M)
  (hown : w3.ownsRow 0 285 2 v3 (ms.length + 1) (cellsM ms ++ [.int .i64 m.id, .int .u64 m.key])) (hg : w.grownBy w3 v.ownBlock) (hb : v3.ownBlock = v.ownBlock ∨ v3.ownBlock = some w.heap.size) :
  Rep (w3.setCell ⟨h, 0, none⟩ v3) h p v3 n (ms ++ [m]) pl ∧ (∀ k, Dof h p v3 k → Dof h p v k ∨ w.heap.size ≤ k) ∧ Fr (Dof h p v) w (w3.setCell ⟨h, 0, none⟩ v3) := by
 have s0 := lt_of_block r.hd
 have s1 := lt_of_block r.pb
 have hd3 := (hg.block h s0 (fun e => r.hv e.symm)).trans r.hd
 have pb3 := (hg.block p s1 (fun e => r.pv e.symm)).trans r.pb
 have n1 : v3.ownBlock ≠ some h := by
  rcases hb with hb | hb
  ·rw [hb]; exact r.hv
  ·rw [hb]; intro e; injection e with e; omega
 have n2 : v3.ownBlock ≠ some p := by
  rcases hb with hb | hb
  ·rw [hb]; exact r.pv
  ·rw [hb]; intro e; injection e with e; omega
 refine ⟨⟨?_, ?_, ?_, r.hp, n1, n2, r.pn, r.nb⟩, ?_, ?_⟩
 ·rw [heap_setCell_same w3 h 0 _ _ _ hd3]
  simp
 ·have e : cellsM (ms ++ [m]) = cellsM ms ++ [.int .i64 m.id, .int .u64 m.key] := by rw [cellsM_app]; rfl
  rw [e, show (ms ++ [m]).length = ms.length + 1 by simp]
  exact own_same hown (fun k hk => heap_setCell_other w3 _ k _ (fun e => n1 (by rw [hk]; exact congrArg some e)))
 ·rw [heap_setCell_other w3 _ p _ (fun e => r.hp e.symm)]
  exact pb3
 ·rintro k (rfl | rfl | hk)
  ·exact Or.inl (Or.inl rfl)
  ·exact Or.inl (Or.inr (Or.inl rfl))
  ·rcases hb with hb | hb
   ·exact Or.inl (Or.inr (Or.inr (by rw [← hb]; exact hk)))
   ·rw [hb] at hk; injection hk with hk; right; omega
 ·have f : Fr (Dof h p v) w w3 := ⟨hg.os, hg.tape, hg.output, hg.size, fun k hk hn => hg.block k hk (fun e => hn (Or.inr (Or.inr e.symm)))⟩
  exact f.setCell ⟨h, 0, none⟩ v3 (Or.inl (Or.inl rfl))
theorem info63 : (Tryz.prog.info? 285).map (fun i => (i.zero, i.size, i.bytes)) = some (some (.agg #[.int .i64 0, .int .u64 0]), 2, 16) := by kernel_rfl
theorem WF.len {n : Nat} {ms : List M} {pl : List Int} {T : Nat → Option Int} (h : WF n ms pl T) : ms.length ≤ n := by
 rw [← h.cnt]
 unfold YtaafkpojjdjphaaGreat.N5.Hp.cnt
 exact Nat.le_trans (List.length_filter_le _ _) (by simp)
theorem WF.room {n : Nat} {ms : List M} {pl : List Int} {T : Nat → Option Int} (h : WF n ms pl T) {x : Nat} (hx : x < n) (h0 : T x = none) : ms.length < n := by
 rw [← h.cnt]
 unfold YtaafkpojjdjphaaGreat.N5.Hp.cnt
 rcases Nat.lt_or_ge ((List.range n).filter (fun x => (T x).isSome)).length n with h' | h'
 ·exact h'
 ·exfalso
  have e : ((List.range n).filter (fun x => (T x).isSome)).length = (List.range n).length := Nat.le_antisymm (List.length_filter_le _ _) (by simpa using h')
  have := List.length_filter_eq_length_iff.1 e x (by simpa using hx)
  rw [h0] at this
  cases this
def low (T : Nat → Option Int) (x : Nat) (key : Int) : Bool := match T x with | none => true | some k => decide (key < k)
def lowT (T : Nat → Option Int) (x : Nat) (key : Int) : Nat → Option Int := if low T x key then upd T x (some key) else T
def After (w w' : World) (h p : Nat) (v : Value) (n : Nat) (T' : Nat → Option Int) : Prop :=
 ∃ v' ms' pl', Rep w' h p v' n ms' pl' ∧ WF n ms' pl' T' ∧ (∀ k, Dof h p v' k → Dof h p v k ∨ w.heap.size ≤ k) ∧ Fr (Dof h p v) w w'
theorem Fr.cell {D : Nat → Prop} {w w' : World} (f : Fr D w w') {a : Addr} {u : Value} (h : w.cell? a = some u) (hn : ¬ D a.block) : w'.cell? a = some u :=
 (World.cell?_of_block (f.block _ (World.block_lt_of_cell? w a h) hn)).trans h
theorem ahead_key {x : Nat} {a b : Int} : ahead ⟨x, a⟩ ⟨x, b⟩ = decide (a < b) := by simp [ahead]
set_option maxHeartbeats 1600000 in
theorem lower_new {w : World} {h p : Nat} {v : Value} {n : Nat} {ms : List M} {pl : List Int} {T : Nat → Option Int} (r : Rep w h p v n ms pl) (f : WF n ms pl T) (x : Nat) (hx : x < n) (key : Int) (h0 : T x = none) :
  Calls Tryz.prog 226 #[.pointer (some ⟨h, 0, none⟩), .agg #[.int .i64 x, .int .u64 key]] w fun e w' => e = .returned (.bool true) ∧ After w w' h p v n (upd T x (some key)) := by
 obtain ⟨i0, hi, hz0, hz1, hz2⟩ := info_parts info63
 have hroom := f.room hx h0
 have hnb := r.nb
 obtain ⟨N, HN⟩ := named ms.length
 have hpx : pl.getD x 0 = ((0 : Nat) : Int) := by
  rcases f.find hx with ⟨a, _⟩ | ⟨i, _, _, _, d⟩
  ·exact a
  ·rw [h0] at d; cases d
 have HADD := Lib.hid (f.add hx h0 key)
 rw [HN.out] at hroom
 have r0 := r.alloc (.cells #[.int .i64 x, .int .u64 key] 285)
 have t0 := heap_top w (.cells #[.int .i64 x, .int .u64 key] 285)
 have HF := Lib.hid (find_any r0 x hx 0 hpx (by omega))
 have fr0 := (Fr.refl (Dof h p v) w).alloc (.cells #[.int .i64 x, .int .u64 key] 285)
 clear hpx
 have s0 := lt_of_block r0.hd
 have s1 := lt_of_block t0
 obtain ⟨⟨c0, c1, c2⟩, f0, f1, f2⟩ := cells3 r0.hd
 obtain ⟨⟨b0, b1⟩, _, _⟩ := cells2 t0
 generalize hW : w.alloc (.cells #[.int .i64 x, .int .u64 key] 285) = W at *
 have HW := Lib.hid hW
 clear hW
 obtain ⟨a, c, hv⟩ := own_slice r0.own
 rw [HN.out] at hv
 subst hv
 go_enter Tryz.func226, Tryz.ntmps226
 go_wp2_with fail
 rw [HW.out]
 refine HF.out.mono ?_
 rintro e w1 ⟨rfl, rfl⟩
 go_wp2_with fail
 go_quiet (fail)
 go_wp2_with fail
 have r2 : Rep (w1.drewN nq).drew h p (.slice a N c) n ms pl := r0.same (fun _ _ => rfl)
 have t2 : (w1.drewN nq).drew.heap[w.heap.size]? = some (.cells #[.int .i64 x, .int .u64 key] 285) := t0
 have fr2 : Fr (Dof h p (.slice a N c)) w (w1.drewN nq).drew := fr0.then ⟨rfl, rfl, rfl, Nat.le_refl _, fun _ _ _ => rfl⟩
 have s2 : w.heap.size < (w1.drewN nq).heap.size := s1
 have s3 : h < (w1.drewN nq).heap.size := s0
 clear r0 t0 fr0 c0 c1 c2 f0 f1 f2 b0 b1 HF HW s0 s1
 generalize w1.drewN nq = W2 at *
 obtain ⟨⟨c0, c1, c2⟩, f0, f1, f2⟩ := cells3 r2.hd
 obtain ⟨⟨b0, b1⟩, _, _⟩ := cells2 t2
 simp only [World.cell?_drew, World.frozen?_drew] at c0 c1 c2 f0 f1 f2 b0 b1
 have HOWN := Lib.hid (r2.own.alloc (.cells #[.int .i64 x, .int .u64 key] 285))
 have HR3 := Lib.hid (r2.alloc (.cells #[.int .i64 x, .int .u64 key] 285))
 rw [HN.out] at HOWN
 have HNW : Hid (∀ j u, [Value.int .i64 x, .int .u64 key][j]? = some u → (W2.drew.alloc (.cells #[.int .i64 x, .int .u64 key] 285)).cell? ((⟨W2.heap.size, 0, none⟩ : Addr).add j) = some u) := by
  intro j u hu
  have ht := (cells2 (heap_top W2.drew (.cells #[.int .i64 x, .int .u64 key] 285))).1
  match j, hu with
  | 0, hu => simp at hu; subst hu; exact ht.1
  | 1, hu => simp at hu; subst hu; exact ht.2
 have H1 : Hid (∀ u ∈ [Value.int .i64 x, .int .u64 key], u.oneCell' = true) := by
  intro u hu
  simp at hu
  rcases hu with rfl | rfl <;> rfl
 go_region_law (first | (rw [if_pos (by rfl)]; refine wp_append_new (.tmp 42) (.tmp 44) 274 rfl 0 285 i0 _ 2 16 Tryz.underlying274 hi hz0 hz1 hz2 rfl (by decide) (.slice a N c) N (cellsM ms) rfl HOWN.out ⟨W2.heap.size, 0, none⟩ 1 1 [.int .i64 x, .int .u64 key] rfl rfl HNW.out H1.out (by unfold maxLen; omega) (by omega) (by omega) (by omega) ?_; intro v3 w3 hown3 hgrow3 hb3; obtain ⟨g3, c3, hv3, hc3, hs3, hm3⟩ := own_shape hown3 (by omega); subst hv3; have hd3 := (hgrow3.block h (by simp; omega) (fun e => HR3.out.hv e.symm)).trans HR3.out.hd; obtain ⟨⟨q0, q1, q2⟩, qf0, qf1, qf2⟩ := cells3 hd3))
 all_goals
  obtain ⟨r4, hD4, fr4⟩ := HR3.out.grow ⟨x, key⟩ (by rw [HN.out]; exact hown3) hgrow3 hb3
  have fr5 := (fr2.alloc (.cells #[.int .i64 x, .int .u64 key] 285)).then fr4
  have hlt := r.lt
  have t4 := (fr4.block w.heap.size (by simp; omega) (fun hd => by have := hlt _ hd; omega)).trans ((Below.heap_alloc _ _ _ (by exact s2)).trans t2)
  have HBX : Hid (¬ Dof h p (.slice (some ⟨g3, 0, none⟩) (N + 1) c3) w.heap.size) := fun hk => by
   rcases hD4 _ hk with h' | h'
   ·have := hlt _ h'; omega
   ·have : (W2.drew.alloc (.cells #[.int .i64 x, .int .u64 key] 285)).heap.size = W2.heap.size + 1 := by simp
    omega
  have hD5 : ∀ k, Dof h p (.slice (some ⟨g3, 0, none⟩) (N + 1) c3) k → Dof h p (.slice a N c) k ∨ w.heap.size ≤ k := fun k hk => by
   rcases hD4 k hk with h' | h'
   ·exact Or.inl h'
   ·have : (W2.drew.alloc (.cells #[.int .i64 x, .int .u64 key] 285)).heap.size = W2.heap.size + 1 := by simp
    omega
  clear hgrow3 hown3 hb3 hd3 q0 q1 q2 qf0 qf1 qf2 c0 c1 c2 f0 f1 f2 b0 b1 HOWN HR3 HNW H1 fr4 fr2 r2 t2 hD4
  generalize w3.setCell ⟨h, 0, none⟩ (.slice (some ⟨g3, 0, none⟩) (N + 1) c3) = W4 at *
  have r5 := r4.drew
  have fr6 := fr5.drew
  have sx : w.heap.size < W4.drew.heap.size := lt_of_block t4
  obtain ⟨⟨b0, b1⟩, _, _⟩ := cells2 t4
  have HB0 : Hid (W4.drew.cell? ⟨w.heap.size, 0, none⟩ = some (.int .i64 x)) := b0
  have HB1 : Hid (W4.drew.cell? ⟨w.heap.size, 1, none⟩ = some (.int .u64 key)) := b1
  have HL5 : Hid ((ms ++ [(⟨x, key⟩ : M)]).length ≤ 16384) := by show _ ≤ _; simp; have := HN.out; omega
  rw [HN.out] at HADD
  clear r4 fr5
  go_wp2_with fail
  go_region_held3 (fun w' => w'.cell? ⟨w.heap.size, 0, none⟩ = some (.int .i64 x) ∧ w'.cell? ⟨w.heap.size, 1, none⟩ = some (.int .u64 key)) (go_keep) (first | (go_at_call 228; refine (up_any r5 _ N ⟨x, key⟩ HL5.out HADD.out.1 HADD.out.2).mono ?_; rintro e w5 ⟨k6, ms6, pl6, rfl, r6, g6, o6, hk6, hl6, fr7⟩; have y0 := fr7.cell HB0.out HBX.out; have y1 := fr7.cell HB1.out HBX.out) | (go_at_call 227; refine (put_any r6 k6 g6.kl ⟨x, key⟩ hx (by rw [hl6]; exact HL5.out)).mono ?_; rintro e w6 ⟨rfl, r7, fr8⟩; have z0 := fr8.cell y0 HBX.out; have z1 := fr8.cell y1 HBX.out))
  have wf7 := g6.fill o6 hk6
  have fr9 := fr6.trans (fr7.then fr8) hD5
  clear r5 r6 g6 o6 fr7 fr8 HADD y0 y1 z0 z1 b0 b1
  go_wp2_with fail
  go_ret
  exact ⟨rfl, _, _, _, r7, wf7, hD5, fr9⟩
set_option maxHeartbeats 1600000 in
theorem lower_old {w : World} {h p : Nat} {v : Value} {n : Nat} {ms : List M} {pl : List Int} {T : Nat → Option Int} (r : Rep w h p v n ms pl) (f : WF n ms pl T) (x : Nat) (hx : x < n) (key k0 : Int) (h0 : T x = some k0) :
  Calls Tryz.prog 226 #[.pointer (some ⟨h, 0, none⟩), .agg #[.int .i64 x, .int .u64 key]] w fun e w' => e = .returned (.bool (decide (key < k0))) ∧ After w w' h p v n (if key < k0 then upd T x (some key) else T) := by
 obtain ⟨i, hi, hpi, hid, hki⟩ : ∃ i, i < ms.length ∧ pl.getD x 0 = (i : Int) + 1 ∧ (gm ms i).id = x ∧ (gm ms i).key = k0 := by
  rcases f.find hx with ⟨_, b⟩ | ⟨i, a, b, c, d⟩
  ·rw [h0] at b; cases b
  ·rw [h0] at d; exact ⟨i, a, b, c, (Option.some.inj d).symm⟩
 have hgm : gm ms i = ⟨x, k0⟩ := by cases hg : gm ms i; rw [hg] at hid hki; simp at hid hki; rw [hid, hki]
 have hnb := r.nb
 have hln := f.len
 obtain ⟨N, HN⟩ := named ms.length
 have HLOW := Lib.hid (fun hh => f.lower (key := key) hi hh)
 rw [hgm] at HLOW
 rw [HN.out] at hi hln
 have HAK := Lib.hid (ahead_key (x := x) (a := key) (b := k0))
 have r0 := r.alloc (.cells #[.int .i64 x, .int .u64 key] 285)
 have t0 := heap_top w (.cells #[.int .i64 x, .int .u64 key] 285)
 have HF := Lib.hid (find_any r0 x hx (i + 1) (by rw [hpi]; omega) (by omega))
 have fr0 := (Fr.refl (Dof h p v) w).alloc (.cells #[.int .i64 x, .int .u64 key] 285)
 clear hpi hid hki
 have HLEN : Hid (ms.length ≤ 16384) := by show _ ≤ _; have := HN.out; omega
 have HRL := Lib.hid r.lt
 obtain ⟨b, c, hv, hc1, hg1, hc2⟩ := own_shape r0.own (by have := HN.out; omega)
 rw [HN.out] at hv hc1
 subst hv
 have hgs : b < w.heap.size := HRL.out b (Or.inr (Or.inr rfl))
 have s0 := lt_of_block r0.hd
 have s1 := lt_of_block t0
 obtain ⟨⟨c0, c1, c2⟩, f0, f1, f2⟩ := cells3 r0.hd
 obtain ⟨⟨b0, b1⟩, _, _⟩ := cells2 t0
 have r'' := r0
 rw [← HN.out] at r''
 obtain ⟨⟨d0, d1⟩, _, _⟩ := r''.member i (by have := HN.out; omega)
 rw [hgm] at d0 d1
 clear r'' hgm
 generalize hW : w.alloc (.cells #[.int .i64 x, .int .u64 key] 285) = W at *
 have HW := Lib.hid hW
 clear hW
 have hsub : ((i : Int) + 1) - 1 = i := by omega
 have hdec : decide (0 < i + 1) = true := by simp
 by_cases hkk : key < k0
 ·rw [show decide (key < k0) = true by simpa using hkk, if_pos hkk]
  have HT : Hid (ahead ⟨x, key⟩ ⟨x, k0⟩ = true) := by show _ = _; rw [HAK.out]; simpa using hkk
  have HUP := Lib.hid (HLOW.out HT.out)
  clear HLOW HAK hkk
  go_enter Tryz.func226, Tryz.ntmps226
  go_wp2_with fail
  rw [HW.out]
  refine HF.out.mono ?_
  rintro e w1 ⟨rfl, rfl⟩
  rw [hdec]
  clear HF HW
  go_wp2_with fail
  go_region_held3 (fun w' => w'.cell? ⟨h, 0, none⟩ = some (.slice (some ⟨b, 0, none⟩) N c) ∧ w'.cell? ⟨h, 2, none⟩ = some (.func (.func 213) #[] #[]) ∧ w'.cell? ⟨w.heap.size, 0, none⟩ = some (.int .i64 x) ∧ w'.cell? ⟨w.heap.size, 1, none⟩ = some (.int .u64 key) ∧ w'.cell? ⟨b, i * 2, none⟩ = some (.int .i64 x) ∧ w'.cell? ⟨b, i * 2 + 1, none⟩ = some (.int .u64 k0)) (go_keep) ((refine (nearer_is ⟨x, key⟩ ⟨x, k0⟩ true HT.out _).mono ?_; rintro e w2 ⟨rfl, hb2⟩; have k0 := (hb2.cell (p := ⟨h, 0, none⟩) s0).trans c0; have k2 := (hb2.cell (p := ⟨h, 2, none⟩) s0).trans c2; have k3 := (hb2.cell (p := ⟨w.heap.size, 0, none⟩) s1).trans b0; have k4 := (hb2.cell (p := ⟨w.heap.size, 1, none⟩) s1).trans b1; have k5 := (hb2.cell (p := ⟨b, i * 2, none⟩) hg1).trans d0; have k6 := (hb2.cell (p := ⟨b, i * 2 + 1, none⟩) hg1).trans d1))
  have r2 := r0.drew.on hb2
  have t2 := (hb2.block _ s1).trans t0
  have fr2 := fr0.drew.then (Fr.of hb2)
  have sx : w.heap.size < w2.drew.heap.size := lt_of_block t2
  clear hb2 r0 t0 fr0 c0 c1 c2 f0 f1 f2 b0 b1 d0 d1 s0 s1
  have r5 := r2.drew
  have fr6 := fr2.drew
  obtain ⟨⟨b0, b1⟩, _, _⟩ := cells2 t2
  have HB0 : Hid (w2.drew.cell? ⟨w.heap.size, 0, none⟩ = some (.int .i64 x)) := b0
  have HB1 : Hid (w2.drew.cell? ⟨w.heap.size, 1, none⟩ = some (.int .u64 key)) := b1
  have HBX : Hid (¬ Dof h p (.slice (some ⟨b, 0, none⟩) N c) w.heap.size) := fun hk => by have := HRL.out _ hk; omega
  clear r2 fr2 t2
  go_wp2_with fail
  go_region_held3 (fun w' => w'.cell? ⟨w.heap.size, 0, none⟩ = some (.int .i64 x) ∧ w'.cell? ⟨w.heap.size, 1, none⟩ = some (.int .u64 key)) (go_keep) (first | (go_at_call 228; refine (up_any r5 _ i ⟨x, key⟩ HLEN.out HUP.out.1 HUP.out.2).mono ?_; rintro e w5 ⟨k6, ms6, pl6, rfl, r6, g6, o6, hk6, hl6, fr7⟩; have y0 := fr7.cell HB0.out HBX.out; have y1 := fr7.cell HB1.out HBX.out) | (go_at_call 227; refine (put_any r6 k6 g6.kl ⟨x, key⟩ hx (by rw [hl6]; exact HLEN.out)).mono ?_; rintro e w6 ⟨rfl, r7, fr8⟩; have z0 := fr8.cell y0 HBX.out; have z1 := fr8.cell y1 HBX.out))
  have wf7 := g6.fill o6 hk6
  have fr9 := fr6.then (fr7.then fr8)
  clear r5 r6 g6 o6 fr7 fr8 y0 y1 z0 z1 b0 b1
  go_wp2_with fail
  go_ret
  exact ⟨rfl, _, _, _, r7, wf7, fun k hk => Or.inl hk, fr9⟩
 ·rw [show decide (key < k0) = false by simpa using hkk, if_neg hkk]
  have HT : Hid (ahead ⟨x, key⟩ ⟨x, k0⟩ = false) := by show _ = _; rw [HAK.out]; simpa using hkk
  clear HLOW HAK hkk
  go_enter Tryz.func226, Tryz.ntmps226
  go_wp2_with fail
  rw [HW.out]
  refine HF.out.mono ?_
  rintro e w1 ⟨rfl, rfl⟩
  rw [hdec]
  clear HF HW
  go_wp2_with fail
  go_region_held3 (fun w' => w'.cell? ⟨h, 0, none⟩ = some (.slice (some ⟨b, 0, none⟩) N c) ∧ w'.cell? ⟨h, 2, none⟩ = some (.func (.func 213) #[] #[]) ∧ w'.cell? ⟨w.heap.size, 0, none⟩ = some (.int .i64 x) ∧ w'.cell? ⟨w.heap.size, 1, none⟩ = some (.int .u64 key) ∧ w'.cell? ⟨b, i * 2, none⟩ = some (.int .i64 x) ∧ w'.cell? ⟨b, i * 2 + 1, none⟩ = some (.int .u64 k0)) (go_keep) ((refine (nearer_is ⟨x, key⟩ ⟨x, k0⟩ false HT.out _).mono ?_; rintro e w2 ⟨rfl, hb2⟩; have k0 := (hb2.cell (p := ⟨h, 0, none⟩) s0).trans c0; have k2 := (hb2.cell (p := ⟨h, 2, none⟩) s0).trans c2; have k3 := (hb2.cell (p := ⟨w.heap.size, 0, none⟩) s1).trans b0; have k4 := (hb2.cell (p := ⟨w.heap.size, 1, none⟩) s1).trans b1; have k5 := (hb2.cell (p := ⟨b, i * 2, none⟩) hg1).trans d0; have k6 := (hb2.cell (p := ⟨b, i * 2 + 1, none⟩) hg1).trans d1))
  have r2 := r0.drew.on hb2
  have t2 := (hb2.block _ s1).trans t0
  have fr2 := fr0.drew.then (Fr.of hb2)
  clear hb2 r0 t0 fr0 c0 c1 c2 f0 f1 f2 b0 b1 d0 d1 s0 s1
  go_wp2_with fail
  go_ret
  exact ⟨rfl, _, _, _, r2, f, fun k hk => Or.inl hk, fr2⟩
theorem lower_any {w : World} {h p : Nat} {v : Value} {n : Nat} {ms : List M} {pl : List Int} {T : Nat → Option Int} (r : Rep w h p v n ms pl) (f : WF n ms pl T) (x : Nat) (hx : x < n) (key : Int) :
  Calls Tryz.prog 226 #[.pointer (some ⟨h, 0, none⟩), .agg #[.int .i64 x, .int .u64 key]] w fun e w' => e = .returned (.bool (low T x key)) ∧ After w w' h p v n (lowT T x key) := by
 cases h0 : T x with
 | none =>
   rw [show lowT T x key = upd T x (some key) by simp [lowT, low, h0], show low T x key = true by simp [low, h0]]
   exact lower_new r f x hx key h0
 | some k0 =>
   rw [show lowT T x key = (if key < k0 then upd T x (some key) else T) by simp [lowT, low, h0], show low T x key = decide (key < k0) by simp [low, h0]]
   exact lower_old r f x hx key k0 h0
def HR (w : World) (h n : Nat) (T : Nat → Option Int) (D : Nat → Prop) : Prop := ∃ p v ms pl, Rep w h p v n ms pl ∧ WF n ms pl T ∧ D = Dof h p v
def HRto (w w' : World) (h n : Nat) (T' : Nat → Option Int) (D : Nat → Prop) : Prop := ∃ D', HR w' h n T' D' ∧ (∀ k, D' k → D k ∨ w.heap.size ≤ k) ∧ Fr D w w'
theorem After.to {w w' : World} {h p : Nat} {v : Value} {n : Nat} {T' : Nat → Option Int} (a : After w w' h p v n T') : HRto w w' h n T' (Dof h p v) := by
 obtain ⟨v', ms', pl', r, f, hd, fr⟩ := a
 exact ⟨Dof h p v', ⟨p, v', ms', pl', r, f, rfl⟩, hd, fr⟩
theorem HR.lt {w : World} {h n : Nat} {T : Nat → Option Int} {D : Nat → Prop} (r : HR w h n T D) : ∀ k, D k → k < w.heap.size := by
 obtain ⟨p, v, ms, pl, r, _, rfl⟩ := r
 exact r.lt
theorem HR.on {w w' : World} {h n : Nat} {T : Nat → Option Int} {D : Nat → Prop} (r : HR w h n T D) (hb : Below w.heap.size w w') : HR w' h n T D := by
 obtain ⟨p, v, ms, pl, r, f, rfl⟩ := r
 exact ⟨p, v, ms, pl, r.on hb, f, rfl⟩
theorem HR.same {w w' : World} {h n : Nat} {T : Nat → Option Int} {D : Nat → Prop} (r : HR w h n T D) (hs : ∀ k, D k → w'.heap[k]? = w.heap[k]?) : HR w' h n T D := by
 obtain ⟨p, v, ms, pl, r, f, rfl⟩ := r
 exact ⟨p, v, ms, pl, r.same hs, f, rfl⟩
theorem HR.fr {w w' : World} {h n : Nat} {T : Nat → Option Int} {D D' : Nat → Prop} (r : HR w h n T D) (f : Fr D' w w') (hd : ∀ k, D k → ¬ D' k) : HR w' h n T D :=
 r.same (fun k hk => f.block k (r.lt k hk) (hd k hk))
theorem HR.to {w w' : World} {h n : Nat} {T : Nat → Option Int} {D : Nat → Prop} (r : HR w h n T D) (hb : Below w.heap.size w w') : HRto w w' h n T D :=
 ⟨D, r.on hb, fun _ hk => Or.inl hk, Fr.of hb⟩
def lowE (n : Nat) (x : Int) : Int := if okI n x then 0 else 5
def lowB (n : Nat) (T : Nat → Option Int) (x key : Int) : Bool := okI n x && low T x.toNat key
def lowTT (n : Nat) (T : Nat → Option Int) (x key : Int) : Nat → Option Int := if okI n x then lowT T x.toNat key else T
set_option maxHeartbeats 800000 in
theorem Lower_any {w : World} {h n : Nat} {T : Nat → Option Int} {D : Nat → Prop} (r : HR w h n T D) (x key : Int) :
  Calls Tryz.prog 215 #[.pointer (some ⟨h, 0, none⟩), .int .i64 x, .int .u64 key] w fun e w' => e = .returned (.tuple #[.bool (lowB n T x key), .int .i64 (lowE n x)]) ∧ HRto w w' h n (lowTT n T x key) D := by
 obtain ⟨p, v, ms, pl, r, f, rfl⟩ := r
 have HM := Lib.hid (may_any r x)
 cases hok : okI n x with
 | true =>
   have h1 : 0 ≤ x ∧ x < n := by simpa [okI] using hok
   obtain ⟨y, rfl⟩ : ∃ y : Nat, x = y := ⟨x.toNat, by omega⟩
   rw [show lowB n T y key = low T y key by simp [lowB, hok], show lowE n y = 0 by simp [lowE, hok], show lowTT n T y key = lowT T y key by simp [lowTT, hok]]
   rw [hok] at HM
   have HL := Lib.hid (lower_any r f y (by omega) key)
   clear hok
   obtain ⟨t, HT⟩ := named (low T y key)
   rw [HT.out] at HL ⊢
   go_enter Tryz.func215, Tryz.ntmps215
   go_wp2_with fail
   refine HM.out.mono ?_
   rintro e w1 ⟨rfl, rfl⟩
   go_wp2_with fail
   refine HL.out.mono ?_
   rintro e w2 ⟨rfl, ha⟩
   go_wp2_with fail
   go_ret2
   exact ⟨rfl, ha.to⟩
 | false =>
   rw [show lowB n T x key = false by simp [lowB, hok], show lowE n x = 5 by simp [lowE, hok], show lowTT n T x key = T by simp [lowTT, hok]]
   rw [hok] at HM
   clear hok
   go_enter Tryz.func215, Tryz.ntmps215
   go_wp2_with fail
   refine HM.out.mono ?_
   rintro e w1 ⟨rfl, rfl⟩
   go_wp2_with fail
   go_ret2
   exact ⟨rfl, Dof h p v, ⟨p, v, ms, pl, r, f, rfl⟩, fun _ hk => Or.inl hk, Fr.refl _ _⟩
end Go.Proofs.YtaafkpojjdjphaaGreat.N5.Hp
namespace Go.Proofs.YtaafkpojjdjphaaGreat.N5
open Go.RowKit
theorem info3 : (Tryz.prog.info? 3).map (fun i => (i.zero, i.size, i.bytes)) = some (some (.int .i64 0), 1, 8) := by kernel_rfl
def ArcsB (B : Nat) (w : World) (a : Option Addr) (l : List A) : Prop :=
 l = [] ∨ ∃ b o, a = some ⟨b, o, none⟩ ∧ b < B ∧ ∀ j, j < l.length → (l.getD j A.zero).at w b (o + j * 3)
theorem Arcs.b {w : World} {a : Option Addr} {l : List A} (h : Arcs w a l) : ArcsB w.heap.size w a l := h
theorem ArcsB.get {B : Nat} {w : World} {a : Option Addr} {l : List A} (h : ArcsB B w a l) : ∃ b o, 0 < l.length → a = some ⟨b, o, none⟩ ∧ b < B ∧ ∀ j, j < l.length → (l.getD j A.zero).at w b (o + j * 3) := by
 rcases h with rfl | ⟨b, o, h⟩
 ·exact ⟨0, 0, fun h => absurd h (by simp)⟩
 ·exact ⟨b, o, fun _ => h⟩
end Go.Proofs.YtaafkpojjdjphaaGreat.N5
namespace Go.Proofs.YtaafkpojjdjphaaGreat.N5
open Go.RowKit
def Ints (w : World) (a : Option Addr) (xs : List Int) : Prop :=
 xs = [] ∨ ∃ b o, a = some ⟨b, o, none⟩ ∧ b < w.heap.size ∧ ∀ j, j < xs.length → w.cell? ⟨b, o + j, none⟩ = some (.int .i64 (xs.getD j 0))
theorem Ints.get {w : World} {a : Option Addr} {xs : List Int} (h : Ints w a xs) : ∃ b o, 0 < xs.length → a = some ⟨b, o, none⟩ ∧ b < w.heap.size ∧ ∀ j, j < xs.length → w.cell? ⟨b, o + j, none⟩ = some (.int .i64 (xs.getD j 0)) := by
 rcases h with rfl | ⟨b, o, h⟩
 ·exact ⟨0, 0, fun h => absurd h (by simp)⟩
 ·exact ⟨b, o, fun _ => h⟩
end Go.Proofs.YtaafkpojjdjphaaGreat.N5
namespace Go.Proofs.YtaafkpojjdjphaaGreat.N5
open Go.RowKit
end Go.Proofs.YtaafkpojjdjphaaGreat.N5
namespace Go.Proofs.YtaafkpojjdjphaaGreat.N5
open Go.RowKit
end Go.Proofs.YtaafkpojjdjphaaGreat.N5
namespace Go.Proofs.YtaafkpojjdjphaaGreat.N5
open Go.RowKit
end Go.Proofs.YtaafkpojjdjphaaGreat.N5
namespace Go.Proofs.YtaafkpojjdjphaaGreat.N5
open Go.RowKit
def Tb (w : World) (b n : Nat) (ty : TypeId) (K : IntKind) (F : Nat → Int) : Prop := w.heap[b]? = some (.cells ((List.range n).map (fun v => Value.int K (F v))).toArray ty (0, 0))
theorem Tb.lt {w : World} {b n : Nat} {ty : TypeId} {K : IntKind} {F : Nat → Int} (h : Tb w b n ty K F) : b < w.heap.size := lt_of_block h
theorem Tb.same {w w' : World} {b n : Nat} {ty : TypeId} {K : IntKind} {F : Nat → Int} (h : Tb w b n ty K F) (hs : w'.heap[b]? = w.heap[b]?) : Tb w' b n ty K F := hs.trans h
theorem Tb.cell {w : World} {b n : Nat} {ty : TypeId} {K : IntKind} {F : Nat → Int} (h : Tb w b n ty K F) {v : Nat} (hv : v < n) : w.cell? ⟨b, v, none⟩ = some (.int K (F v)) := by
 unfold Tb at h
 simp [World.cell?, h, hv]
theorem Tb.free {w : World} {b n : Nat} {ty : TypeId} {K : IntKind} {F : Nat → Int} (h : Tb w b n ty K F) (v : Nat) : w.frozen? ⟨b, v, none⟩ = false := by
 unfold Tb at h
 simp [World.frozen?, h]
theorem Tb.congr {w : World} {b n : Nat} {ty : TypeId} {K : IntKind} {F G : Nat → Int} (h : Tb w b n ty K F) (e : ∀ v, v < n → F v = G v) : Tb w b n ty K G := by
 unfold Tb at *
 rw [h]
 congr 3
 apply List.map_congr_left
 intro v hv
 rw [e v (by simpa using hv)]
theorem tab_set (n : Nat) (K : IntKind) (F : Nat → Int) (v : Nat) (x : Int) : ((List.range n).map (fun u => Value.int K (F u))).toArray.setIfInBounds v (.int K x) = ((List.range n).map (fun u => Value.int K (updI F v x u))).toArray := by
 apply Array.ext'
 simp only [Array.toList_setIfInBounds]
 apply List.ext_getElem?
 intro i
 rw [List.getElem?_set]
 by_cases e : v = i
 ·subst e
  by_cases h : v < n
  ·simp [h, updI_self]
  ·simp [h]
 ·rw [if_neg e]
  by_cases h : i < n
  ·simp [h, updI_ne F x (fun h : i = v => e h.symm)]
  ·simp [h]
theorem Tb.set {w : World} {b n : Nat} {ty : TypeId} {K : IntKind} {F : Nat → Int} (h : Tb w b n ty K F) (v : Nat) (x : Int) : Tb (w.setCell ⟨b, v, none⟩ (.int K x)) b n ty K (updI F v x) := by
 unfold Tb
 rw [heap_setCell_same w b v _ _ _ h, tab_set]
theorem row_made {w : World} {base g n : Nat} {e : TypeId} {xs : List Value} (h : w.ownsRow base e 1 (.slice (some ⟨g, 0, none⟩) n n) n xs) : w.heap[g]? = some (.cells xs.toArray e (0, 0)) := by
 rcases h.2 with ⟨h', _⟩ | ⟨g', c', cur, h', _, h3, _, _, h6, h7⟩
 ·cases h'
 ·cases h'
  rw [h3, ← h7]
  rw [List.take_of_length_le (by simp; omega)]
theorem info34 : (Tryz.prog.info? 48).map (fun i => (i.zero, i.size, i.bytes)) = some (some (.int .u64 0), 1, 8) := by kernel_rfl
theorem made_u64 (n : Nat) : (madeCells (Value.int .u64 0).cells (n * 1)).toList = (List.range n).map (fun _ => Value.int .u64 0) := by
 show (madeCells #[Value.int .u64 0] (n * 1)).toList = _
 rw [toList_madeCells_one, Nat.mul_one]
 apply List.ext_getElem
 ·simp
 ·intro i h1 h2
  simp
theorem made_int (n : Nat) : (madeCells (Value.int .i64 0).cells (n * 1)).toList = (List.range n).map (fun _ => Value.int .i64 0) := by
 show (madeCells #[Value.int .i64 0] (n * 1)).toList = _
 rw [toList_madeCells_one, Nat.mul_one]
 apply List.ext_getElem
 ·simp
 ·intro i h1 h2
  simp
set_option maxHeartbeats 800000 in
theorem filledD_any (n : Nat) (hn : n ≤ 8192) (c : Int) (w : World) :
  Calls Tryz.prog 181 #[.int .i64 n, .int .u64 c] w fun e w' => ∃ b, e = .returned (.slice (some ⟨b, 0, none⟩) n n) ∧ Tb w' b n 48 .u64 (fun _ => c) ∧ w.heap.size ≤ b ∧ Below w.heap.size w w' := by
 obtain ⟨i0, hi, hz0, hz1, hz2⟩ := info_parts info34
 have HM := Lib.hid (made_u64 n)
 go_enter Tryz.func181, Tryz.ntmps181
 go_wp2_with (at_make; refine wpList_make_full _ rfl (.tmp 7) (.tmp 7) 38 rfl 0 48 i0 (.int .u64 0) 1 Tryz.underlying38 hi hz0 hz1 .i64 .i64 n n n rfl rfl rfl rfl (by rw [hz2]; omega) (by unfold maxLen; omega) (Nat.zero_le _) ?_; intro w1 hown1 hgrow1; rw [HM.out] at hown1)
 have hrow : Tb w1 w.heap.size n 48 .u64 (fun _ => 0) := row_made hown1
 have hb1 : Below w.heap.size w w1 := (Below.refl _ _).grown hgrow1 (Nat.le_refl _) (by intro k hk; cases hk)
 clear hown1 hgrow1
 go_wp2_with fail
 go_loopw [11] (fun i wr => ∃ k : Nat, k ≤ n ∧ i = .int .i64 k ∧ Tb wr w.heap.size n 48 .u64 (fun v => if v < k then c else 0) ∧ Below w.heap.size w wr) (fun i _ => n - (intOf i).toNat)
 case atStart => exact ⟨0, Nat.zero_le _, rfl, hrow.congr (fun v _ => by simp), hb1⟩
 case round =>
  obtain ⟨k, hk, rfl, ht, hb⟩ := hrel
  by_cases hlt : k < n
  ·have c0 := ht.cell hlt
   have f0 := ht.free k
   have hlt' : (k : Int) < n := by omega
   go_wp2_with fail
   refine ⟨⟨k + 1, by omega, by go_num, (ht.set k c).congr (fun v _ => ?_), hb.setCell (Nat.le_refl _) _⟩, by simp [intOf]; omega⟩
   unfold updI
   by_cases e : v = k
   ·subst e; simp
   ·rw [if_neg e]
    show (if v < k then c else 0) = _
    by_cases e2 : v < k
    ·rw [if_pos e2, if_pos (by omega)]
    ·rw [if_neg e2, if_neg (by omega)]
  ·have hlt' : ¬ (k : Int) < n := by omega
   go_wp2_with fail
   go_ret
   exact ⟨_, rfl, ht.congr (fun v hv => by rw [if_pos (by omega)]), Nat.le_refl _, hb⟩
set_option maxHeartbeats 800000 in
theorem filledI_any (n : Nat) (hn : n ≤ 8192) (c : Int) (w : World) :
  Calls Tryz.prog 214 #[.int .i64 n, .int .i64 c] w fun e w' => ∃ b, e = .returned (.slice (some ⟨b, 0, none⟩) n n) ∧ Tb w' b n 3 .i64 (fun _ => c) ∧ w.heap.size ≤ b ∧ Below w.heap.size w w' := by
 obtain ⟨i0, hi, hz0, hz1, hz2⟩ := info_parts info3
 have HM := Lib.hid (made_int n)
 go_enter Tryz.func214, Tryz.ntmps214
 go_wp2_with (at_make; refine wpList_make_full _ rfl (.tmp 7) (.tmp 7) 25 rfl 0 3 i0 (.int .i64 0) 1 Tryz.underlying25 hi hz0 hz1 .i64 .i64 n n n rfl rfl rfl rfl (by rw [hz2]; omega) (by unfold maxLen; omega) (Nat.zero_le _) ?_; intro w1 hown1 hgrow1; rw [HM.out] at hown1)
 have hrow : Tb w1 w.heap.size n 3 .i64 (fun _ => 0) := row_made hown1
 have hb1 : Below w.heap.size w w1 := (Below.refl _ _).grown hgrow1 (Nat.le_refl _) (by intro k hk; cases hk)
 clear hown1 hgrow1
 go_wp2_with fail
 go_loopw [11] (fun i wr => ∃ k : Nat, k ≤ n ∧ i = .int .i64 k ∧ Tb wr w.heap.size n 3 .i64 (fun v => if v < k then c else 0) ∧ Below w.heap.size w wr) (fun i _ => n - (intOf i).toNat)
 case atStart => exact ⟨0, Nat.zero_le _, rfl, hrow.congr (fun v _ => by simp), hb1⟩
 case round =>
  obtain ⟨k, hk, rfl, ht, hb⟩ := hrel
  by_cases hlt : k < n
  ·have c0 := ht.cell hlt
   have f0 := ht.free k
   have hlt' : (k : Int) < n := by omega
   go_wp2_with fail
   refine ⟨⟨k + 1, by omega, by go_num, (ht.set k c).congr (fun v _ => ?_), hb.setCell (Nat.le_refl _) _⟩, by simp [intOf]; omega⟩
   unfold updI
   by_cases e : v = k
   ·subst e; simp
   ·rw [if_neg e]
    show (if v < k then c else 0) = _
    by_cases e2 : v < k
    ·rw [if_pos e2, if_pos (by omega)]
    ·rw [if_neg e2, if_neg (by omega)]
  ·have hlt' : ¬ (k : Int) < n := by omega
   go_wp2_with fail
   go_ret
   exact ⟨_, rfl, ht.congr (fun v hv => by rw [if_pos (by omega)]), Nat.le_refl _, hb⟩
set_option maxHeartbeats 400000 in
theorem unreached_any (n : Nat) (hn : n ≤ 8192) (w : World) :
  Calls Tryz.prog 125 #[.int .i64 n] w fun e w' => ∃ b, e = .returned (.slice (some ⟨b, 0, none⟩) n n) ∧ Tb w' b n 48 .u64 (fun _ => Inf) ∧ w.heap.size ≤ b ∧ Below w.heap.size w w' := by
 have HF := Lib.hid (filledD_any n hn 18446744073709551615 w)
 go_enter Tryz.func125, Tryz.ntmps125
 go_wp2_with fail
 refine HF.out.mono ?_
 rintro e w1 ⟨b, rfl, h1, h2, h3⟩
 go_wp2_with fail
 go_ret
 exact ⟨b, rfl, h1, h2, h3⟩
set_option maxHeartbeats 400000 in
theorem add_any (a b : Int) (ha : 0 ≤ a ∧ a ≤ Inf) (hb : 0 ≤ b ∧ b ≤ Inf) (w : World) :
  Calls Tryz.prog 66 #[.int .u64 a, .int .u64 b] w fun e w' => e = .returned (.int .u64 (sat a b)) ∧ w' = w := by
 unfold Inf at ha hb
 by_cases h : 18446744073709551615 ≤ a + b
 ·have h1 : 18446744073709551615 - b ≤ a := by omega
  have HS : Hid (sat a b = 18446744073709551615) := by show _ = _; unfold sat Inf; rw [if_pos h]
  clear h
  go_enter Tryz.func66, Tryz.ntmps66
  go_wp2_with fail
  go_ret
  exact ⟨by rw [HS.out]; rfl, rfl⟩
 ·have h1 : ¬ 18446744073709551615 - b ≤ a := by omega
  have HS : Hid (sat a b = a + b) := by show _ = _; unfold sat Inf; rw [if_neg h]
  go_enter Tryz.func66, Tryz.ntmps66
  go_wp2_with fail
  go_ret
  exact ⟨by rw [HS.out]; rfl, rfl⟩
end Go.Proofs.YtaafkpojjdjphaaGreat.N5
