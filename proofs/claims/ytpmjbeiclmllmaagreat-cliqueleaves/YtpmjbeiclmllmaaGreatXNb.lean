/-
  Contract of near.From. Contracts of heap.New, and of (*Heap).Len, Top, Pop, Drop and Key. Contracts of heap.emptyQueue, heap.New, and of the law's works and among. A search as it lies in memory. Contracts of near.chained and near.begin. Contract of near.begin: the search is laid, and its first vertex told. A search whose own function keeps tables: what one arrival changes. Contracts of near.check, near.shorter and near.From.
-/
import Derived.Test.YtpmjbeiclmllmaaGreatNHTake
import Derived.Laws.EntriesVeiled
import Derived.Test.YtpmjbeiclmllmaaGreatXNa
import Derived.BigRegion
import Derived.Deep.DeepCutAuto
namespace Go.Proofs.YtpmjbeiclmllmaaGreat.N5.Hp
open Go.RowKit
/-- What Top tells. -/
def TopIs (n : Nat) (T : Nat → Option Int) (x : Nat) (k e : Int) : Prop :=
  (e = 0 ∧ T x = some k ∧ x < n ∧ ∀ y k', T y = some k' → k < k' ∨ k = k' ∧ x ≤ y) ∨ (e = 5 ∧ x = 0 ∧ k = 0 ∧ ∀ y, T y = none)
theorem TopIs.unique {n : Nat} {T : Nat → Option Int} {x x' : Nat} {k k' e e' : Int} (h : TopIs n T x k e) (h' : TopIs n T x' k' e') : x = x' ∧ k = k' ∧ e = e' := by
  rcases h with ⟨rfl, a, _, b⟩ | ⟨rfl, rfl, rfl, a⟩ <;> rcases h' with ⟨rfl, a', _, b'⟩ | ⟨rfl, rfl, rfl, a'⟩
  · have p := b _ _ a'
    have q := b' _ _ a
    omega
  · rw [a' x] at a; cases a
  · rw [a x'] at a'; cases a'
  · exact ⟨rfl, rfl, rfl⟩
theorem WF.topIs {n : Nat} {ms : List M} {pl : List Int} {T : Nat → Option Int} (f : WF n ms pl T) (h : 0 < ms.length) : TopIs n T (gm ms 0).id (gm ms 0).key 0 := by
  obtain ⟨a, b, c⟩ := f.top h
  exact Or.inl ⟨rfl, a, b, c⟩
theorem WF.topNo {n : Nat} {ms : List M} {pl : List Int} {T : Nat → Option Int} (f : WF n ms pl T) (h : ms.length = 0) : TopIs n T 0 0 5 := by
  refine Or.inr ⟨rfl, rfl, rfl, fun y => ?_⟩
  by_cases hy : y < n
  · rcases f.find hy with ⟨_, a⟩ | ⟨i, a, _⟩
    · exact a
    · omega
  · exact f.out y (by omega)
set_option maxRecDepth 100000 in
set_option maxHeartbeats 400000 in
theorem Len_any {w : World} {h n : Nat} {T : Nat → Option Int} {D : Nat → Prop} (r : HR w h n T D) :
    Calls Tryz.prog 152 #[.pointer (some ⟨h, 0, none⟩)] w fun e w' => e = .returned (.int .i64 (cnt T n)) ∧ w' = w := by
  obtain ⟨p, v, ms, pl, r, f, rfl⟩ := r
  obtain ⟨⟨c0, c1, c2⟩, f0, f1, f2⟩ := cells3 r.hd
  rw [f.cnt]
  obtain ⟨a, c, hv⟩ := own_slice r.own
  generalize ms.length = N at *
  subst hv
  go_enter Tryz.func152, Tryz.ntmps152
  go_wp2_with fail
  go_ret
  exact ⟨rfl, rfl⟩
set_option maxRecDepth 100000 in
set_option maxHeartbeats 800000 in
theorem Top_any {w : World} {h n : Nat} {T : Nat → Option Int} {D : Nat → Prop} (r : HR w h n T D) :
    Calls Tryz.prog 137 #[.pointer (some ⟨h, 0, none⟩)] w fun e w' => ∃ (x : Nat) (k er : Int), e = .returned (.tuple #[.int .i64 x, .int .u64 k, .int .i64 er]) ∧ TopIs n T x k er ∧ Below w.heap.size w w' := by
  have HLEN := Lib.hid (Len_any r)
  obtain ⟨p, v, ms, pl, r, f, rfl⟩ := r
  rw [f.cnt] at HLEN
  obtain ⟨⟨c0, c1, c2⟩, f0, f1, f2⟩ := cells3 r.hd
  by_cases h0 : 0 < ms.length
  · have HT := Lib.hid (f.topIs h0)
    obtain ⟨b, c, hv, hc1, hg1, hc2⟩ := own_shape r.own h0
    subst hv
    obtain ⟨⟨d0, d1⟩, _, _⟩ := r.member 0 h0
    obtain ⟨X, HX⟩ := named (gm ms 0)
    rw [HX.out] at d0 d1 HT
    have hne : ((ms.length : Int) == 0) = false := by simp; intro e; rw [e] at h0; simp at h0
    have h0' : (0 : Int) < ms.length := by omega
    simp only [Nat.zero_mul, Nat.zero_add] at d0 d1
    generalize ms.length = N at *
    go_enter Tryz.func137, Tryz.ntmps137
    go_wp2_with fail
    refine HLEN.out.mono ?_
    rintro e w1 ⟨rfl, rfl⟩
    go_wp2_with fail
    go_quiet (fail)
    go_wp2_with fail
    go_ret3
    exact ⟨X.id, X.key, 0, rfl, HT.out, bthen ((Below.refl _ _).alloc (Nat.le_refl _) _) ⟨rfl, rfl, rfl, Nat.le_refl _, fun _ _ => rfl⟩ (by simp)⟩
  · have HT := Lib.hid (f.topNo (by omega))
    rw [show ms.length = 0 by omega] at HLEN
    go_enter Tryz.func137, Tryz.ntmps137
    go_wp2_with fail
    refine HLEN.out.mono ?_
    rintro e w1 ⟨rfl, rfl⟩
    go_wp2_with fail
    go_ret3
    exact ⟨0, 0, 5, rfl, HT.out, Below.refl _ _⟩
set_option maxRecDepth 100000 in
set_option maxHeartbeats 800000 in
theorem Pop_any {w : World} {h n : Nat} {T : Nat → Option Int} {D : Nat → Prop} (r : HR w h n T D) :
    Calls Tryz.prog 138 #[.pointer (some ⟨h, 0, none⟩)] w fun e w' => ∃ (x : Nat) (k er : Int), e = .returned (.tuple #[.int .i64 x, .int .u64 k, .int .i64 er]) ∧ TopIs n T x k er ∧ HRto w w' h n (if er = 0 then upd T x none else T) D := by
  have HTOP := Lib.hid (Top_any r)
  have r0 := r
  obtain ⟨p, v, ms, pl, r, f, rfl⟩ := r
  by_cases h0 : 0 < ms.length
  · have HT := Lib.hid (f.topIs h0)
    have HTK := Lib.hid (fun w' (hb : Below w.heap.size w w') => take_any (r.on hb) f 0 h0)
    obtain ⟨X, HX⟩ := named (gm ms 0)
    rw [HX.out] at HT HTK
    go_enter Tryz.func138, Tryz.ntmps138
    go_wp2_with fail
    refine HTOP.out.mono ?_
    rintro e w1 ⟨x, k, er, rfl, ht, hb1⟩
    obtain ⟨rfl, rfl, rfl⟩ := ht.unique HT.out
    go_wp2_with fail
    refine (HTK.out w1 hb1).mono ?_
    rintro e w2 ⟨rfl, ha⟩
    go_wp2_with fail
    go_ret3
    obtain ⟨D', h1, h2, h3⟩ := ha.to
    exact ⟨X.id, X.key, 0, rfl, HT.out, D', by rw [if_pos rfl]; exact h1, fun k hk => (h2 k hk).imp id (fun h' => Nat.le_trans hb1.size h'), (Fr.of hb1).then h3⟩
  · have HT := Lib.hid (f.topNo (by omega))
    go_enter Tryz.func138, Tryz.ntmps138
    go_wp2_with fail
    refine HTOP.out.mono ?_
    rintro e w1 ⟨x, k, er, rfl, ht, hb1⟩
    obtain ⟨rfl, rfl, rfl⟩ := ht.unique HT.out
    go_wp2_with fail
    go_ret3
    exact ⟨0, 0, 5, rfl, HT.out, by rw [if_neg (by decide)]; exact r0.to hb1⟩
/-- What Drop tells. -/
def dropB (n : Nat) (T : Nat → Option Int) (x : Int) : Bool := okI n x && (T x.toNat).isSome
def dropT (n : Nat) (T : Nat → Option Int) (x : Int) : Nat → Option Int := if okI n x then upd T x.toNat none else T
theorem upd_none {T : Nat → Option Int} {x : Nat} (h : T x = none) : upd T x none = T := by
  funext y
  unfold upd
  split
  · rename_i e; rw [e, h]
  · rfl
/-- What Key tells. -/
def keyK (n : Nat) (T : Nat → Option Int) (x : Int) : Int := if okI n x then (T x.toNat).getD 0 else 0
end Go.Proofs.YtpmjbeiclmllmaaGreat.N5.Hp
namespace Go.Proofs.YtpmjbeiclmllmaaGreat.N5.Hp
open Go.RowKit
theorem info3 : (Tryz.prog.info? 3).map (fun i => (i.zero, i.size, i.bytes)) = some (some (.int .i64 0), 1, 8) := by kernel_rfl
theorem made_i64 (n : Nat) : (madeCells (Value.int .i64 0).cells (n * 1)).toList = cellsI (List.replicate n 0) := by
  show (madeCells #[Value.int .i64 0] (n * 1)).toList = _
  rw [toList_madeCells_one, Nat.mul_one]
  unfold cellsI
  simp
theorem row_made {w : World} {base g n : Nat} {e : TypeId} {xs : List Value} (h : w.ownsRow base e 1 (.slice (some ⟨g, 0, none⟩) n n) n xs) : w.heap[g]? = some (.cells xs.toArray e (0, 0)) := by
  rcases h.2 with ⟨h', _⟩ | ⟨g', c', cur, h', _, h3, _, _, h6, h7⟩
  · cases h'
  · cases h'
    rw [h3, ← h7]
    rw [List.take_of_length_le (by simp; omega)]
set_option maxRecDepth 100000 in
set_option maxHeartbeats 800000 in
theorem empty_any (n : Nat) (hn : n ≤ 16384) (w : World) :
    Calls Tryz.prog 133 #[.int .i64 n, .func (.func 134) #[] #[]] w fun e w' => ∃ p, e = .returned (.agg #[.slice none 0 0, .slice (some ⟨p, 0, none⟩) n n, .func (.func 134) #[] #[]]) ∧ w'.heap[p]? = some (.cells (cellsI (List.replicate n 0)).toArray 3 (0, 0)) ∧ w.heap.size ≤ p ∧ Below w.heap.size w w' := by
  obtain ⟨i0, hi, hz0, hz1, hz2⟩ := info_parts info3
  have HM := Lib.hid (made_i64 n)
  go_enter Tryz.func133, Tryz.ntmps133
  go_wp2_with (at_make; refine wpList_make_full _ rfl (.tmp 5) (.tmp 5) 25 rfl 0 3 i0 (.int .i64 0) 1 Tryz.underlying25 hi hz0 hz1 .i64 .i64 n n n rfl rfl rfl rfl (by rw [hz2]; omega) (by unfold maxLen; omega) (Nat.zero_le _) ?_; intro w1 hown1 hgrow1; rw [HM.out] at hown1; have hrow := row_made hown1; have hb1 := ((Below.refl w.heap.size w).alloc (Nat.le_refl _) _).grown hgrow1 (by simp) (by intro k hk; cases hk); have hd1 := (hgrow1.block w.heap.size (by simp) (by simp)).trans (heap_top w _); obtain ⟨⟨c0, c1, c2⟩, f0, f1, f2⟩ := cells3 hd1)
  rw [show (w.alloc (.cells #[.slice none 0 0, .slice none 0 0, .nilFunc] 175)).heap.size = w.heap.size + 1 by simp] at hrow
  go_wp2_with fail
  refine bodyPost_ret (v := .agg #[.slice none 0 0, .slice (some ⟨w.heap.size + 1, 0, none⟩) n n, .func (.func 134) #[] #[]]) (by simp [results, Tryz.results133, go_sem, c0, c1, c2]) rfl ⟨w.heap.size + 1, rfl, ?_, by omega, ?_⟩
  · rw [heap_setCell_other _ _ _ _ (by simp), heap_setCell_other _ _ _ _ (by simp), heap_setCell_other _ _ _ _ (by simp)]
    exact hrow
  · exact ((hb1.setCell (by simp) _).setCell (by simp) _).setCell (by simp) _
/-- What New tells. -/
def newE (n : Int) : Int := if 0 ≤ n ∧ n ≤ 16384 then 0 else 1
set_option maxRecDepth 100000 in
set_option maxHeartbeats 800000 in
theorem New_no (n : Int) (hn : ¬ (0 ≤ n ∧ n ≤ 16384)) (w : World) :
    Calls Tryz.prog 123 #[.int .i64 n] w fun e w' => e = .returned (.tuple #[.pointer none, .int .i64 1]) ∧ w' = w := by
  by_cases h0 : n < 0
  · go_enter Tryz.func123, Tryz.ntmps123
    go_wp2_with fail
    go_ret2
    exact ⟨rfl, rfl⟩
  · have h1 : 16384 < n := by omega
    clear hn
    go_enter Tryz.func123, Tryz.ntmps123
    go_wp2_with fail
    go_ret2
    exact ⟨rfl, rfl⟩
set_option maxRecDepth 100000 in
set_option maxHeartbeats 800000 in
theorem New_any (n : Nat) (hn : n ≤ 16384) (w : World) :
    Calls Tryz.prog 123 #[.int .i64 n] w fun e w' => ∃ h D, e = .returned (.tuple #[.pointer (some ⟨h, 0, none⟩), .int .i64 0]) ∧ HR w' h n (fun _ => none) D ∧ (∀ k, D k → w.heap.size ≤ k) ∧ Below w.heap.size w w' := by
  have HEM := Lib.hid (empty_any n hn w)
  have h1 : ¬ (16384 : Int) < n := by omega
  go_enter Tryz.func123, Tryz.ntmps123
  go_wp2_with fail
  refine HEM.out.mono ?_
  rintro e w1 ⟨p, rfl, hp, hps, hb⟩
  go_wp2_with fail
  go_ret2
  refine ⟨w1.heap.size, Dof w1.heap.size p (.slice none 0 0), rfl, ⟨p, .slice none 0 0, [], List.replicate n 0, ⟨heap_top _ _, ?_, (Below.heap_alloc _ _ _ (lt_of_block hp)).trans hp, ?_, by simp [Value.ownBlock], by simp [Value.ownBlock], by simp, hn⟩, WF.empty n, rfl⟩, ?_, hb.alloc hb.size _⟩
  · exact World.ownsRow_nil _ _ _ _
  · have := lt_of_block hp; omega
  · rintro k (rfl | rfl | hk)
    · exact hb.size
    · exact hps
    · cases hk
theorem HRto.comp {w w1 w2 : World} {h n : Nat} {T2 : Nat → Option Int} {D D1 : Nat → Prop} (hd : ∀ k, D1 k → D k ∨ w.heap.size ≤ k) (f : Fr D w w1) (b : HRto w1 w2 h n T2 D1) : HRto w w2 h n T2 D := by
  obtain ⟨D2, r, hd2, f2⟩ := b
  refine ⟨D2, r, fun k hk => ?_, f.trans f2 hd⟩
  rcases hd2 k hk with h' | h'
  · exact hd k h'
  · exact Or.inr (Nat.le_trans f.size h')
theorem wt_low1 : lowB 5 (fun _ => none) 3 7 = true := rfl
theorem wt_low2 : lowB 5 (upd (fun _ => none) 3 (some 7)) 1 7 = true := rfl
theorem wt_low3 : lowB 5 (upd (upd (fun _ => none) 3 (some 7)) 1 (some 7)) 3 9 = false := rfl
theorem wt_low4 : lowB 5 (upd (upd (fun _ => none) 3 (some 7)) 1 (some 7)) 3 2 = true := rfl
theorem wt1 : lowTT 5 (fun _ => none) 3 7 = upd (fun _ => none) 3 (some 7) := rfl
theorem wt2 : lowTT 5 (upd (fun _ => none) 3 (some 7)) 1 7 = upd (upd (fun _ => none) 3 (some 7)) 1 (some 7) := rfl
theorem wt3 : lowTT 5 (upd (upd (fun _ => none) 3 (some 7)) 1 (some 7)) 3 9 = upd (upd (fun _ => none) 3 (some 7)) 1 (some 7) := rfl
theorem wt4 : lowTT 5 (upd (upd (fun _ => none) 3 (some 7)) 1 (some 7)) 3 2 = upd (upd (upd (fun _ => none) 3 (some 7)) 1 (some 7)) 3 (some 2) := rfl
theorem wt_top : TopIs 5 (upd (upd (upd (fun _ => none) 3 (some 7)) 1 (some 7)) 3 (some 2)) 3 2 0 := by
  refine Or.inl ⟨rfl, rfl, by omega, fun y k' hy => ?_⟩
  unfold upd at hy
  split at hy
  · injection hy with hy; omega
  · split at hy
    · injection hy with hy; omega
    · cases hy
theorem wt_cnt : cnt (upd (upd (upd (upd (fun _ => none) 3 (some 7)) 1 (some 7)) 3 (some 2)) 3 none) 5 = 1 := by decide
/-- The law's among. -/
def amg (x : Int) (n : Nat) : Int := x % n
theorem tmod_bd (x : Int) (n : Nat) (hn : 0 < n) : -(n : Int) < x.tmod n ∧ x.tmod n < n := by
  have h1 := Int.tmod_lt_of_pos x (show (0 : Int) < n by omega)
  have h2 := Int.tmod_lt_of_pos (-x) (show (0 : Int) < n by omega)
  rw [Int.neg_tmod] at h2
  omega
theorem tmod_amg (x : Int) (n : Nat) : (x.tmod n + n) % (n : Int) = amg x n := by
  unfold amg
  rw [Int.add_emod_right]
  have h := Int.mul_tdiv_add_tmod x n
  conv => rhs; rw [← h]
  rw [Int.mul_add_emod_self_left]
end Go.Proofs.YtpmjbeiclmllmaaGreat.N5.Hp
namespace Go.Proofs.YtpmjbeiclmllmaaGreat.N5
open Go.RowKit
open Hp (HR HRto Fr upd upd_self upd_ne TopIs)
/-- The blocks of a search: f itself, the chains b1 and b2, the queue h. -/
structure Sr (w : World) (f : Nat) (a : Option Addr) (cap : Nat) (l : List A) (n b1 b2 h : Nat) (fn : Value) (T : Nat → Option Int) (D : Nat → Prop) : Prop where
  hd : w.heap[f]? = some (.cells #[.slice a l.length cap, .slice (some ⟨b1, 0, none⟩) n n, .slice (some ⟨b2, 0, none⟩) l.length l.length, .pointer (some ⟨h, 0, none⟩), fn] 164 (0, 0))
  t1 : Tb w b1 n 3 .i64 (fun v => lastAt l v l.length)
  t2 : Tb w b2 l.length 3 .i64 (fun j => lastAt l (src (ar l j)) j)
  hp : HR w h n T D
  sep : ∀ k, D k → k ≠ f ∧ k ≠ b1 ∧ k ≠ b2
theorem five_cells {w : World} {g : Nat} {a b c d e : Value} {t : TypeId} (h : w.heap[g]? = some (.cells #[a, b, c, d, e] t)) : (w.cell? ⟨g, 0, none⟩ = some a ∧ w.cell? ⟨g, 1, none⟩ = some b ∧ w.cell? ⟨g, 2, none⟩ = some c ∧ w.cell? ⟨g, 3, none⟩ = some d ∧ w.cell? ⟨g, 4, none⟩ = some e) := by
  simp [World.cell?, h]
theorem wrap_u64 {x : Int} (h : 0 ≤ x) (h2 : x < 18446744073709551616) : IntKind.u64.wrap x = x := by
  have h3 : x % 18446744073709551616 = x := Int.emod_eq_of_lt h h2
  simp [IntKind.wrap, IntKind.bits, IntKind.signed, h3]
theorem one_cell {w : World} {g : Nat} {a : Value} {t : TypeId} (h : w.heap[g]? = some (.cells #[a] t)) : w.cell? ⟨g, 0, none⟩ = some a ∧ w.frozen? ⟨g, 0, none⟩ = false := by
  simp [World.cell?, World.frozen?, h]
/-- shorter's function: the least length told. -/
theorem short_any (w : World) (c bf n v : Nat) (d y : Int) (F : Nat → Int) (hv : v < n) (hc : w.heap[c]? = some (.cells #[.slice (some ⟨bf, 0, none⟩) n n] 37)) (ht : Tb w bf n 47 .u64 F) :
    Calls Tryz.prog 126 #[.int .i64 v, .int .u64 d, .int .i64 y, .pointer (some ⟨c, 0, none⟩)] w fun e w' => e = .returned (.bool (decide (d < F v))) ∧ w' = if d < F v then w.setCell ⟨bf, v, none⟩ (.int .u64 d) else w := by
  obtain ⟨c0, c1⟩ := one_cell hc
  have d0 := ht.cell hv
  have d1 := ht.free v
  have hv' : (v : Int) < n := by omega
  obtain ⟨q, HQ⟩ := named (F v)
  rw [HQ.out] at d0 ⊢
  by_cases h : d < q
  · have h' : ¬ q ≤ d := by omega
    have HD : Hid (decide (d < q) = true) := by show _ = _; simpa using h
    rw [if_pos h, HD.out]
    go_enter Tryz.func126, Tryz.ntmps126
    go_wp2_with fail
    go_ret
    exact ⟨rfl, rfl⟩
  · have h' : q ≤ d := by omega
    have HD : Hid (decide (d < q) = false) := by show _ = _; simpa using h
    rw [if_neg h, HD.out]
    go_enter Tryz.func126, Tryz.ntmps126
    go_wp2_with fail
    go_ret
    exact ⟨rfl, rfl⟩
theorem _root_.Go.Proofs.YtpmjbeiclmllmaaGreat.N5.Hp.HR.lt_n {w : World} {h n : Nat} {T : Nat → Option Int} {D : Nat → Prop} (r : HR w h n T D) {u : Nat} {k : Int} (e : T u = some k) : u < n := by
  obtain ⟨p, v, ms, pl, r, f, rfl⟩ := r
  by_cases hu : u < n
  · exact hu
  · rw [f.out u (by omega)] at e; cases e
/-- The least key. -/
def NearIs (T : Nat → Option Int) (q : Int) : Prop := (∃ u, T u = some q ∧ ∀ y k, T y = some k → q ≤ k) ∨ (q = Inf ∧ ∀ y, T y = none)
set_option maxRecDepth 100000 in
set_option maxHeartbeats 400000 in
theorem nearest_any {w : World} {f h n : Nat} {x0 x1 x2 x4 : Value} {T : Nat → Option Int} {D : Nat → Prop} (hd : w.heap[f]? = some (.cells #[x0, x1, x2, .pointer (some ⟨h, 0, none⟩), x4] 164 (0, 0))) (r : HR w h n T D) :
    Calls Tryz.prog 127 #[.pointer (some ⟨f, 0, none⟩)] w fun e w' => ∃ q, e = .returned (.int .u64 q) ∧ NearIs T q ∧ Below w.heap.size w w' := by
  have HT := Lib.hid (Hp.Top_any r)
  obtain ⟨c0, c1, c2, c3, c4⟩ := five_cells hd
  go_enter Tryz.func127, Tryz.ntmps127
  go_wp2_with fail
  refine HT.out.mono ?_
  rintro e w1 ⟨x, k, er, rfl, ht, hb⟩
  rcases ht with ⟨rfl, h1, h2, h3⟩ | ⟨rfl, rfl, rfl, h1⟩
  · have H3 := Lib.hid h3
    have H1 := Lib.hid h1
    clear h1 h3
    go_wp2_with fail
    go_ret
    exact ⟨k, rfl, Or.inl ⟨x, H1.out, fun y k' e => by rcases H3.out y k' e with e' | e' <;> omega⟩, hb⟩
  · have H1 := Lib.hid h1
    clear h1
    go_wp2_with fail
    go_ret
    exact ⟨Inf, rfl, Or.inr ⟨rfl, H1.out⟩, hb⟩
/-- A search with what is done at the vertices that it reaches: what stands in memory (SS), and what one arrival changes. -/
structure Sys (f n : Nat) (a : Option Addr) (cap : Nat) (l : List A) (b1 b2 h : Nat) (fn : Value) (ok : Nat → Bool) {X : Type} (XR : (Nat → Int) → X → Nat → Int → Int → X → Prop) (SS : World → (Nat → Int) → (Nat → Option Int) → X → Prop) : Prop where
  hd : ∀ {w F T x}, SS w F T x → w.heap[f]? = some (.cells #[.slice a l.length cap, .slice (some ⟨b1, 0, none⟩) n n, .slice (some ⟨b2, 0, none⟩) l.length l.length, .pointer (some ⟨h, 0, none⟩), fn] 164 (0, 0))
  t1 : ∀ {w F T x}, SS w F T x → Tb w b1 n 3 .i64 (fun v => lastAt l v l.length)
  t2 : ∀ {w F T x}, SS w F T x → Tb w b2 l.length 3 .i64 (fun j => lastAt l (src (ar l j)) j)
  arcs : ∀ {w F T x}, SS w F T x → Arcs w a l
  heap : ∀ {w F T x}, SS w F T x → ∃ D, HR w h n T D ∧ ∀ w' T', HRto w w' h n T' D → SS w' F T' x
  on : ∀ {w w' F T x}, SS w F T x → Below w.heap.size w w' → SS w' F T x
  arr : ∀ {w w0 F T x} {v : Nat} {d y : Int}, SS w0 F T x → Below w0.heap.size w0 w → v < n → 0 ≤ d → d ≤ Inf → (∀ k, T v = some k → k = F v) →
    Calls Tryz.prog 125 #[.pointer (some ⟨f, 0, none⟩), .int .i64 v, .int .u64 d, .int .i64 y] w fun e w' => e = .returned (.tuple #[]) ∧
      (ok v = true ∧ d < F v ∧ (∃ x', SS w' (updI F v d) (upd T v (some d)) x' ∧ XR F x v d y x') ∨ ¬ (ok v = true ∧ d < F v) ∧ SS w' F T x) ∧ ∀ k, w0.heap.size ≤ k → k < w.heap.size → w'.heap[k]? = w.heap[k]?
set_option maxRecDepth 100000 in
set_option maxHeartbeats 1600000 in
theorem step_any {f n : Nat} {a : Option Addr} {cap : Nat} {l : List A} {b1 b2 h : Nat} {fn : Value} {ok : Nat → Bool} {X : Type} {XR : (Nat → Int) → X → Nat → Int → Int → X → Prop} {SS : World → (Nat → Int) → (Nat → Option Int) → X → Prop} (sy : Sys f n a cap l b1 b2 h fn ok XR SS) (g : RG n l) (s : Nat)
    (J : (Nat → Int) → (Nat → Option Int) → X → Prop) (jp : ∀ F T x v d, J F T x → T v = some d → F v < Inf → J F (upd T v none) x)
    (jt : ∀ F T x x' K v d k j, Mid l ok s F T K v d k → j < l.length → src (ar l j) = v → ok (dst (ar l j)) = true → sat d (ar l j).w < F (dst (ar l j)) → J F T x → XR F x (dst (ar l j)) (sat d (ar l j).w) j x' → J (updI F (dst (ar l j)) (sat d (ar l j).w)) (upd T (dst (ar l j)) (some (sat d (ar l j).w))) x')
    {w : World} {F : Nat → Int} {T : Nat → Option Int} {x : X} {K : Nat} (hs : SS w F T x) (hi : Inv l ok s F T K (fun _ => False)) (hj : J F T x) (hne : ∃ u k, T u = some k) :
    Calls Tryz.prog 128 #[.pointer (some ⟨f, 0, none⟩)] w fun e w' => e = .returned (.tuple #[]) ∧ ∃ F' T' x', SS w' F' T' x' ∧ Inv l ok s F' T' (K + 1) (fun _ => False) ∧ J F' T' x' ∧ dn F' T' n = dn F T n + 1 := by
  obtain ⟨D, hp, hh⟩ := sy.heap hs
  have HP := Lib.hid (Hp.Pop_any hp)
  obtain ⟨c0, c1, c2, c3, c4⟩ := five_cells (sy.hd hs)
  have hnb := g.nb
  have hlb := g.lb
  obtain ⟨m0, HM0⟩ := named (dn F T n + 1)
  rw [HM0.out]
  have HJP := Lib.hid jp
  have HJT := Lib.hid jt
  clear jp jt
  go_enter Tryz.func128, Tryz.ntmps128
  go_wp2_with fail
  refine HP.out.mono ?_
  rintro e w1 ⟨v, d, er, rfl, ht, hto⟩
  rcases ht with ⟨rfl, h1, h2, h3⟩ | ⟨rfl, rfl, rfl, h1⟩
  · rw [if_pos rfl] at hto
    have hs1 := hh w1 _ hto
    have hmid := hi.pop h1 (fun y k e => by rcases h3 y k e with e' | e' <;> omega) l.length (Nat.le_refl _)
    have hj1 := HJP.out F T x v d hj h1 (by rw [hmid.fv]; exact hmid.di)
    have hdn := dn_pop (F := F) n h2 h1 (by rw [hmid.fv]; exact hmid.di)
    have hd0 : 0 ≤ d ∧ d ≤ Inf := ⟨by rw [← hmid.fv]; exact hi.lo v, by have := hmid.di; omega⟩
    rw [HM0.out] at hdn
    have HD := Lib.hid hd0
    clear hto hh HP hp hs hi hj hne h1 h3 c0 c1 c2 c3 c4 hd0
    obtain ⟨c0, c1, c2, c3, c4⟩ := five_cells (sy.hd hs1)
    have e1 := (sy.t1 hs1).cell h2
    have h2' : (v : Int) < n := by omega
    go_wp2_with fail
    go_loopg [5] l.length (fun k i wr => ∃ (F1 : Nat → Int) (T1 : Nat → Option Int) (x1 : X), k ≤ l.length ∧ i = .int .i64 (lastAt l v k) ∧ SS wr F1 T1 x1 ∧ Hid (Mid l ok s F1 T1 K v d k) ∧ Hid (J F1 T1 x1) ∧ Hid (dn F1 T1 n = m0))
    case atStart => exact ⟨F, _, x, Nat.le_refl _, rfl, hs1, hmid, hj1, hdn⟩
    case round =>
      obtain ⟨F1, T1, x1, hk, rfl, hs2, hm2, hj2, hd2⟩ := hrel
      clear c0 c1 c2 c3 c4 e1 hs1 hmid hj1 hdn
      obtain ⟨c0, c1, c2, c3, c4⟩ := five_cells (sy.hd hs2)
      by_cases hl : lastAt l v gk = -1
      · have hl' : (lastAt l v gk == -1) = true := by simp [hl]
        have HN := Lib.hid (lastAt_none hl)
        rw [hl] at *
        clear hl
        go_wp2_with fail
        go_end0
        exact ⟨rfl, F1, T1, x1, hs2, hm2.out.done HN.out, hj2.out, hd2.out⟩
      · obtain ⟨j, hj1, hj3, hj4, hj5⟩ := lastAt_some hl
        have HL5 := Lib.hid hj5
        have HL4 := Lib.hid hj4
        rw [hj1] at *
        have hjl : j < l.length := by omega
        have hjl' : (j : Int) < l.length := by omega
        have hjn : ((j : Int) == -1) = false := by simp
        have e2 := (sy.t2 hs2).cell hjl
        rw [hj4] at e2
        obtain ⟨b, o, hab⟩ := (sy.arcs hs2).b.get
        obtain ⟨rfl, hbl, hat⟩ := hab (by omega)
        obtain ⟨q0, q1, q2⟩ := hat j hjl
        have hmem := ar_mem hjl
        have hx := g.ends _ hmem
        have hw := g.wt _ hmem
        have hte := g.t_eq hmem
        have htl := g.dst_lt hmem
        clear hj4 hj5 hj1 hl hat hab
        have HME := Lib.hid hmem
        obtain ⟨xa, HXA⟩ := named (ar l j)
        have q0' : wr.cell? ⟨b, o + j * 3, none⟩ = some (.int .i64 (ar l j).f) := q0
        have q1' : wr.cell? ⟨b, o + j * 3 + 1, none⟩ = some (.int .i64 (ar l j).t) := q1
        have q2' : wr.cell? ⟨b, o + j * 3 + 2, none⟩ = some (.int .u32 (ar l j).w) := q2
        rw [hte] at q1'
        clear q0 q1 q2
        rw [HXA.out] at q0' q1' q2' hx hw hte htl
        go_wp2_with fail
        have hsa := (Below.refl wr.heap.size wr).alloc (Nat.le_refl _) (.cells #[.int .i64 xa.f, .int .i64 (dst xa), .int .u32 xa.w] 68)
        have HSZ : Hid (wr.heap.size < (wr.alloc (.cells #[.int .i64 xa.f, .int .i64 (dst xa), .int .u32 xa.w] 68)).heap.size) := by show _ < _; simp
        have hb57 := heap_top wr (.cells #[.int .i64 xa.f, .int .i64 (dst xa), .int .u32 xa.w] 68)
        obtain ⟨z0, z1, z2⟩ := three_cells hb57
        clear hb57 q0' q1' q2' c0 c1 c2 c3 c4 e2
        generalize wr.alloc (.cells #[.int .i64 xa.f, .int .i64 (dst xa), .int .u32 xa.w] 68) = W at *
        have hwi : 0 ≤ xa.w ∧ xa.w ≤ Inf := ⟨hw.1, by unfold Inf; omega⟩
        have HADD := Lib.hid (fun w' : World => add_any d xa.w HD.out hwi w')
        have hsl : 0 ≤ sat d xa.w := sat_ge (by have := HD.out.1; omega) (by unfold Inf; omega)
        have HARR := Lib.hid (fun (w' : World) (hb : Below W.heap.size W w') => sy.arr (y := j) hs2 (hsa.trans (hb.mono hsa.size)) htl hsl (sat_inf _ _) (fun k e => (hm2.out.inv.key _ k e).1))
        clear hwi hsl hsa hte hx
        have Z1 := Lib.hid z1
        have Z2 := Lib.hid z2
        have HTL := Lib.hid htl
        obtain ⟨hw0, hw1⟩ := hw
        have HW : IntKind.u64.wrap xa.w = xa.w := wrap_u64 hw0 (by omega)
        clear htl
        obtain ⟨sd, HSD⟩ := named (sat d xa.w)
        rw [HSD.out] at HADD HARR
        go_region_held3 (fun w' => w'.cell? ⟨wr.heap.size, 1, none⟩ = some (.int .i64 (dst xa)) ∧ w'.cell? ⟨wr.heap.size, 2, none⟩ = some (.int .u32 xa.w)) (go_keep) (first | (go_at_call 101; refine (HADD.out _).mono ?_; rintro e w' ⟨rfl, rfl⟩) | (go_at_call 125; refine (HARR.out _ (by first | exact Below.refl _ _ | exact (Below.refl _ _).drew | exact below_drewN _ _ _)).mono ?_; rintro e w3 ⟨rfl, hor, hfr⟩; have y1 : w3.cell? ⟨wr.heap.size, 1, none⟩ = some (.int .i64 (dst xa)) := (World.cell?_of_block (hfr _ (Nat.le_refl _) HSZ.out)).trans Z1.out; have y2 : w3.cell? ⟨wr.heap.size, 2, none⟩ = some (.int .u32 xa.w) := (World.cell?_of_block (hfr _ (Nat.le_refl _) HSZ.out)).trans Z2.out))
        have e9 : lastAt l (src (ar l j)) j = lastAt l v j := by rw [HL4.out]
        have hdst : dst (ar l j) = dst xa := by rw [HXA.out]
        have hsat : sat d (ar l j).w = sd := by rw [HXA.out, HSD.out]
        rcases hor with ⟨ho, hlt, x2, hs3, hxr⟩ | ⟨hno, hs3⟩
        · have HMID := Lib.hid (hm2.out.take g.wt hjl HL4.out HL5.out (by rw [hdst]; exact ho) (by rw [hdst, hsat]; exact hlt))
          have HJ3 := Lib.hid (HJT.out F1 T1 x1 x2 K v d gk j hm2.out hjl HL4.out (by rw [hdst]; exact ho) (by rw [hdst, hsat]; exact hlt) hj2.out (by rw [hdst, hsat]; exact hxr))
          rw [hdst, hsat] at HMID HJ3
          have HDN : Hid (dn (updI F1 (dst xa) sd) (upd T1 (dst xa) (some sd)) n = m0) := by
            show _ = _
            rw [← hd2.out]
            refine dn_congr n (fun u hu => ?_)
            by_cases e : u = dst xa
            · subst e
              rw [upd_self]
              refine ⟨fun h => (by cases h.2), fun h => ?_⟩
              have := hm2.out.top _ h.1 h.2
              have h8 := hm2.out.inv.lo (dst xa)
              have h9 : d ≤ sd := by rw [← HSD.out]; exact sat_ge (by omega) HD.out.2
              omega
            · rw [updI_ne _ _ e, upd_ne _ _ e]
          obtain ⟨c0, c1, c2, c3, c4⟩ := five_cells (sy.hd hs3)
          have e2 := (sy.t2 hs3).cell hjl
          rw [e9] at e2
          have HRE := Lib.hid hxr
          clear hxr hlt ho hdst hsat e9 y1 y2 hfr z0 z1 z2
          go_wp2_with fail
          go_roundg j
          case measure => omega
          case rel => exact ⟨_, _, x2, by omega, rfl, hs3, HMID, HJ3, HDN⟩
        · have HMID := Lib.hid (hm2.out.skip hjl HL4.out HL5.out (by rw [hdst, hsat]; exact hno))
          obtain ⟨c0, c1, c2, c3, c4⟩ := five_cells (sy.hd hs3)
          have e2 := (sy.t2 hs3).cell hjl
          rw [e9] at e2
          clear hno hdst hsat e9 y1 y2 hfr z0 z1 z2
          go_wp2_with fail
          go_roundg j
          case measure => omega
          case rel => exact ⟨F1, T1, x1, by omega, rfl, hs3, HMID, hj2, hd2⟩
  · exact absurd hne (by rintro ⟨u, k, e⟩; rw [h1 u] at e; cases e)
set_option maxRecDepth 100000 in
set_option maxHeartbeats 800000 in
theorem goAll_any {f n : Nat} {a : Option Addr} {cap : Nat} {l : List A} {b1 b2 h : Nat} {fn : Value} {ok : Nat → Bool} {X : Type} {XR : (Nat → Int) → X → Nat → Int → Int → X → Prop} {SS : World → (Nat → Int) → (Nat → Option Int) → X → Prop} (sy : Sys f n a cap l b1 b2 h fn ok XR SS) (g : RG n l) (s : Nat)
    (J : (Nat → Int) → (Nat → Option Int) → X → Prop) (jp : ∀ F T x v d, J F T x → T v = some d → F v < Inf → J F (upd T v none) x)
    (jt : ∀ F T x x' K v d k j, Mid l ok s F T K v d k → j < l.length → src (ar l j) = v → ok (dst (ar l j)) = true → sat d (ar l j).w < F (dst (ar l j)) → J F T x → XR F x (dst (ar l j)) (sat d (ar l j).w) j x' → J (updI F (dst (ar l j)) (sat d (ar l j).w)) (upd T (dst (ar l j)) (some (sat d (ar l j).w))) x')
    {w : World} {F : Nat → Int} {T : Nat → Option Int} {x : X} (hs : SS w F T x) (hi : ∃ K, K ≤ dn F T n ∧ Inv l ok s F T K (fun _ => False)) (hj : J F T x) :
    Calls Tryz.prog 106 #[.pointer (some ⟨f, 0, none⟩)] w fun e w' => e = .returned (.tuple #[]) ∧ ∃ F' T' x', SS w' F' T' x' ∧ (∃ K, K ≤ dn F' T' n ∧ Inv l ok s F' T' K (fun _ => False)) ∧ J F' T' x' ∧ ∀ u, T' u = none := by
  have HST := Lib.hid (fun w F T x K hs hi hj hne => step_any sy g s J jp jt (w := w) (F := F) (T := T) (x := x) (K := K) hs hi hj hne)
  clear jp jt
  go_enter Tryz.func106, Tryz.ntmps106
  go_wp2_with fail
  go_loopg [3] (n - dn F T n) (fun k i wr => ∃ (F1 : Nat → Int) (T1 : Nat → Option Int) (x1 : X), SS wr F1 T1 x1 ∧ Hid (k = n - dn F1 T1 n) ∧ Hid (∃ K, K ≤ dn F1 T1 n ∧ Inv l ok s F1 T1 K (fun _ => False)) ∧ Hid (J F1 T1 x1))
  case atStart => exact ⟨F, T, x, hs, rfl, hi, hj⟩
  case round =>
    obtain ⟨F1, T1, x1, hs1, hk1, hi1, hj1⟩ := hrel
    obtain ⟨D, hp, hh⟩ := sy.heap hs1
    go_wp2_with fail
    refine (nearest_any (sy.hd hs1) hp).mono ?_
    rintro e w1 ⟨q, rfl, hq, hb⟩
    have hs2 := sy.on hs1 hb
    rcases hq with ⟨u, h1, h2⟩ | ⟨rfl, h1⟩
    · obtain ⟨K, hK, hiv⟩ := hi1.out
      obtain ⟨hq1, hq2⟩ := hiv.key u q h1
      have hq : q < 18446744073709551615 := by unfold Inf at hq2; omega
      have HSP := Lib.hid (HST.out w1 F1 T1 x1 K hs2 hiv hj1.out ⟨u, q, h1⟩)
      have HN : Hid (dn F1 T1 n + 1 ≤ n) := by
        have h5 := Hp.HR.lt_n hp h1
        have h6 := dn_pop (F := F1) n h5 h1 hq2
        have := dn_le F1 (upd T1 u none) n
        show _ ≤ _
        omega
      have HK := Lib.hid hK
      clear hh hp hs1 hb hq1 hq2 h1 h2 hiv hK
      go_wp2_with fail
      refine HSP.out.mono ?_
      rintro e w2 ⟨rfl, F2, T2, x2, hs3, hi3, hj3, hd3⟩
      have HD3 := Lib.hid hd3
      have HI3 := Lib.hid hi3
      have HJ3 := Lib.hid hj3
      clear hd3 hi3 hj3
      go_wp2_with fail
      go_roundg (n - dn F2 T2 n)
      case measure => have := HD3.out; have := HN.out; have := hk1.out; omega
      case rel => exact ⟨F2, T2, x2, hs3, rfl, ⟨K + 1, by have := HD3.out; have := HK.out; omega, HI3.out⟩, HJ3⟩
    · have H1 := Lib.hid h1
      clear h1 hh hp hs1 hb
      unfold Inf
      go_wp2_with fail
      go_end0
      exact ⟨rfl, F1, T1, x1, hs2, hi1.out, hj1.out, H1.out⟩
end Go.Proofs.YtpmjbeiclmllmaaGreat.N5
namespace Go.Proofs.YtpmjbeiclmllmaaGreat.N5
open Go.RowKit
open Hp (HR HRto Fr upd upd_self upd_ne TopIs)
theorem heap_top_at (w : World) (o : Obj) (k : Nat) (h : w.heap.size = k) : (w.alloc o).heap[k]? = some o := by rw [← h]; exact heap_top w o
theorem below_base {W v w : World} (h : Below v.heap.size v w) (hb : Below W.heap.size W v) : Below W.heap.size W w := hb.trans (h.mono hb.size)
theorem cell_set2 {w : World} {p1 p2 q : Addr} {u1 u2 v : Value} (h : w.cell? q = some v) (h1 : q.block ≠ p1.block) (h2 : q.block ≠ p2.block) : ((w.setCell p1 u1).setCell p2 u2).cell? q = some v :=
  (World.cell?_of_block (a := q) ((Below.heap_setCell _ p2 u2 q.block h2).trans (Below.heap_setCell w p1 u1 q.block h1))).trans h
theorem cell_al {w : World} {q : Addr} {v : Value} {o : Obj} {k : Nat} (h : w.cell? q = some v) (_ : q.block ≠ k) : (w.alloc o).cell? q = some v :=
  (World.cell?_of_block (a := q) (Below.heap_alloc w o q.block (World.block_lt_of_cell? w _ h))).trans h
theorem Tb.alloc {w : World} {b n : Nat} {ty : TypeId} {K : IntKind} {F : Nat → Int} (h : Tb w b n ty K F) (o : Obj) : Tb (w.alloc o) b n ty K F := h.same (Below.heap_alloc w o b h.lt)
theorem set2_other {w : World} {c b : Nat} {u1 u2 : Value} (h : b ≠ c) : ((w.setCell ⟨c, 0, none⟩ u1).setCell ⟨c, 1, none⟩ u2).heap[b]? = w.heap[b]? :=
  (Below.heap_setCell _ _ _ b h).trans (Below.heap_setCell w _ _ b h)
theorem set2_same {w : World} {c : Nat} {a b u1 u2 : Value} {t : TypeId} (h : w.heap[c]? = some (.cells #[a, b] t)) : ((w.setCell ⟨c, 0, none⟩ u1).setCell ⟨c, 1, none⟩ u2).heap[c]? = some (.cells #[u1, u2] t) := by
  rw [heap_setCell_same _ c 1 _ _ _ (heap_setCell_same w c 0 _ _ _ h)]
  simp
theorem tb1 {W w1 : World} {o : Obj} (h : Below (W.alloc o).drew.heap.size (W.alloc o).drew w1) : w1.heap[W.heap.size]? = some o :=
  (h.block W.heap.size (by show _ < (W.alloc o).heap.size; simp)).trans (heap_top W o)
theorem tb2 {W w1 : World} {o p : Obj} (h : Below ((W.alloc o).alloc p).drew.heap.size ((W.alloc o).alloc p).drew w1) : w1.heap[W.heap.size]? = some o :=
  (h.block W.heap.size (by show _ < ((W.alloc o).alloc p).heap.size; simp; omega)).trans ((Below.heap_alloc (W.alloc o) p _ (by simp)).trans (heap_top W o))
theorem tb3 {W w1 : World} {o p : Obj} (h : Below ((W.alloc p).alloc o).drew.heap.size ((W.alloc p).alloc o).drew w1) : w1.heap[W.heap.size + 1]? = some o :=
  (h.block (W.heap.size + 1) (by show _ < ((W.alloc p).alloc o).heap.size; simp)).trans (heap_top_at (W.alloc p) o _ (by simp))
set_option maxHeartbeats 1600000 in
set_option maxRecDepth 100000 in
theorem chained_any (n : Nat) (a : Option Addr) (l : List A) (cap : Nat) (w : World) (g : RG n l) (hr : Arcs w a l) :
    Calls Tryz.prog 124 #[.agg #[.int .i64 n, .slice a l.length cap]] w fun e w' => ∃ b1 b2, e = .returned (.agg #[.slice (some ⟨b1, 0, none⟩) n n, .slice (some ⟨b2, 0, none⟩) l.length l.length]) ∧ b1 ≠ b2 ∧ w.heap.size ≤ b1 ∧ w.heap.size ≤ b2 ∧
      Tb w' b1 n 3 .i64 (fun v => lastAt l v l.length) ∧ Tb w' b2 l.length 3 .i64 (fun j => lastAt l (src (ar l j)) j) ∧ Below w.heap.size w w' := by
  obtain ⟨i0, hi, hz0, hz1, hz2⟩ := info_parts info3
  have hnb := g.nb
  have hlb := g.lb
  have HM := Lib.hid (made_int l.length)
  have hb0 : Below w.heap.size w ((w.alloc (.cells #[.int .i64 n, .slice a l.length cap] 24)).alloc (.cells #[.slice none 0 0, .slice none 0 0] 161)) := ((Below.refl _ _).alloc (Nat.le_refl _) _).alloc (by simp) _
  have hg : ((w.alloc (.cells #[.int .i64 n, .slice a l.length cap] 24)).alloc (.cells #[.slice none 0 0, .slice none 0 0] 161)).heap[w.heap.size]? = some (.cells #[.int .i64 n, .slice a l.length cap] 24) := (Below.heap_alloc _ _ _ (by simp)).trans (heap_top w _)
  have h1 := heap_top (w.alloc (.cells #[.int .i64 n, .slice a l.length cap] 24)) (.cells #[.slice none 0 0, .slice none 0 0] 161)
  rw [show (w.alloc (.cells #[.int .i64 n, .slice a l.length cap] 24)).heap.size = w.heap.size + 1 by simp] at h1
  have hmS : ∀ w, (Instr.makeSlice 25 (.int .i64 l.length) (.int .i64 l.length)).run Tryz.prog w = .ok (.slice (some ⟨w.heap.size, 0, none⟩) l.length l.length) (w.alloc (.cells ((List.range l.length).map (fun _ => Value.int .i64 0)).toArray 3)) := fun w => by
    have := run_make (P := Tryz.prog) w 25 3 i0 (.int .i64 0) Tryz.underlying25 hi hz0 .i64 .i64 l.length l.length (by omega) (by omega) (by rw [hz2]; omega) (by omega)
    rw [hz1] at this
    rw [this, Int.toNat_natCast, ← HM.out, Array.toArray_toList]
  go_enter Tryz.func124, Tryz.ntmps124
  go_wp2_with fail
  generalize hW : (w.alloc (.cells #[.int .i64 n, .slice a l.length cap] 24)).alloc (.cells #[.slice none 0 0, .slice none 0 0] 161) = W at *
  obtain ⟨⟨g0, g1⟩, gf0, gf1⟩ := two_cells hg
  have HSZ := Lib.hid (lt_of_block hg)
  have HNB : Hid (n ≤ 8192) := by show _ ≤ _; omega
  go_cut [3] (fun s3 wc => ∃ b1 b2 c, s3 = .pointer (some ⟨c, 0, none⟩) ∧ wc.heap[c]? = some (.cells #[.slice (some ⟨b1, 0, none⟩) n n, .slice (some ⟨b2, 0, none⟩) l.length l.length] 161) ∧ Tb wc b1 n 3 .i64 (fun _ => -1) ∧ Tb wc b2 l.length 3 .i64 (fun _ => 0) ∧ W.heap.size ≤ b1 ∧ W.heap.size ≤ b2 ∧ W.heap.size ≤ c ∧ b1 ≠ b2 ∧ b1 ≠ c ∧ b2 ≠ c ∧ Below W.heap.size W wc)
  case first =>
    have G0 := Lib.hid g0
    have G1 := Lib.hid g1
    have hn1 : w.heap.size ≠ W.heap.size := Nat.ne_of_lt HSZ.out
    have hn2 : w.heap.size ≠ W.heap.size + 1 := Nat.ne_of_lt (Nat.lt_succ_of_lt HSZ.out)
    have hn3 := hn1.symm
    have hn4 := hn2.symm
    clear hW hb0 hg h1 hr g hi hz0 hz1 hz2 HM gf0 gf1 hnb hlb
    clear i0
    go_region_held3 (fun w' => w'.cell? ⟨w.heap.size, 0, none⟩ = some (.int .i64 n) ∧ w'.cell? ⟨w.heap.size, 1, none⟩ = some (.slice a l.length cap)) (go_keep) (((go_at_call 135; refine (filledI_any n HNB.out (-1) _).mono ?_; rintro e w1 ⟨b1, rfl, ht1, hb1, hbe⟩; have BE : Below W.heap.size W w1 := below_base hbe (by first | exact (Below.refl _ _).drew | exact ((Below.refl _ _).drew).alloc (Nat.le_refl _) _ | exact ((((Below.refl _ _).drew).alloc (Nat.le_refl _) _).alloc (by rw [World.size_alloc]; exact Nat.le_succ _) _)); have s1 : w.heap.size ≠ w1.heap.size := Nat.ne_of_lt (Nat.lt_of_lt_of_le HSZ.out BE.size); have s2 : w.heap.size ≠ w1.heap.size + 1 := Nat.ne_of_lt (Nat.lt_succ_of_lt (Nat.lt_of_lt_of_le HSZ.out BE.size)); have s3 := s1.symm; have s4 := s2.symm; have y0 := (BE.cell (p := ⟨w.heap.size, 0, none⟩) HSZ.out).trans G0.out; have y1 := (BE.cell (p := ⟨w.heap.size, 1, none⟩) HSZ.out).trans G1.out); first | (have zz : w1.heap[W.heap.size]? = some (.cells #[.slice none 0 0, .slice none 0 0] 161) := tb2 hbe; have mm : w1.heap[W.heap.size + 1]? = some (.cells ((List.range l.length).map (fun _ => Value.int .i64 0)).toArray 3) := tb3 hbe; obtain ⟨⟨z0, z1⟩, zf0, zf1⟩ := two_cells zz; have zlt := lt_of_block zz; have zne := Nat.ne_of_lt zlt) | (have zz : w1.heap[W.heap.size + 1]? = some (.cells #[.slice none 0 0, .slice none 0 0] 161) := tb3 hbe; have mm : w1.heap[W.heap.size]? = some (.cells ((List.range l.length).map (fun _ => Value.int .i64 0)).toArray 3) := tb2 hbe; obtain ⟨⟨z0, z1⟩, zf0, zf1⟩ := two_cells zz; have zlt := lt_of_block zz; have zne := Nat.ne_of_lt zlt) | (have zz : w1.heap[W.heap.size]? = some (.cells #[.slice none 0 0, .slice none 0 0] 161) := tb1 hbe; obtain ⟨⟨z0, z1⟩, zf0, zf1⟩ := two_cells zz; have zlt := lt_of_block zz; have zne := Nat.ne_of_lt zlt) | (have mm : w1.heap[W.heap.size]? = some (.cells ((List.range l.length).map (fun _ => Value.int .i64 0)).toArray 3) := tb1 hbe) | skip))
    · go_wp2_with fail
      go_meet
      case rel =>
        have q1 : W.heap.size ≤ b1 := hb1
        have q2 := ht1.lt
        have q3 := BE.size
        exact ⟨b1, w1.heap.size, w1.heap.size + 1, rfl, heap_top_at _ _ _ (by simp), (ht1.alloc _).alloc _, (Below.heap_alloc _ _ _ (by simp)).trans (heap_top w1 _), by omega, by omega, by omega, by omega, by omega, by omega, (BE.alloc q3 _).alloc (by simp; omega) _⟩
    · go_wp2_with fail
      go_meet
      case rel =>
        have q1 : W.heap.size ≤ b1 := hb1
        have q2 := ht1.lt
        have q3 := BE.size
        exact ⟨b1, w1.heap.size + 1, w1.heap.size, rfl, (Below.heap_alloc _ _ _ (by simp)).trans (heap_top w1 _), (ht1.alloc _).alloc _, heap_top_at _ _ _ (by simp), by omega, by omega, by omega, by omega, by omega, by omega, (BE.alloc q3 _).alloc (by simp; omega) _⟩
    · go_wp2_with fail
      go_meet
      case rel =>
        have q1 : W.heap.size + 1 ≤ b1 := by have := hb1; rw [show (W.alloc (.cells ((List.range l.length).map (fun _ => Value.int .i64 0)).toArray 3)).drew.heap.size = W.heap.size + 1 by show (W.alloc _).heap.size = _; simp] at this; exact this
        have q2 := ht1.lt
        have q3 := BE.size
        have q4 := lt_of_block mm
        exact ⟨b1, W.heap.size, w1.heap.size, rfl, heap_top w1 _, ht1.alloc _, (Below.heap_alloc _ _ _ q4).trans mm, by omega, by omega, by omega, by omega, by omega, by omega, BE.alloc q3 _⟩
    · go_wp2_with fail
      go_meet
      case rel =>
        have q1 : W.heap.size + 2 ≤ b1 := by have := hb1; rw [show ((W.alloc (.cells ((List.range l.length).map (fun _ => Value.int .i64 0)).toArray 3)).alloc (.cells #[.slice none 0 0, .slice none 0 0] 161)).drew.heap.size = W.heap.size + 2 by show ((W.alloc _).alloc _).heap.size = _; simp] at this; exact this
        have q2 := ht1.lt
        have q3 := BE.size
        exact ⟨b1, W.heap.size, W.heap.size + 1, rfl, set2_same zz, ht1.same (set2_other (by omega)), (set2_other (by omega)).trans mm, by omega, by omega, by omega, by omega, by omega, by omega, (BE.setCell (by show W.heap.size ≤ W.heap.size + 1; omega) _).setCell (by show W.heap.size ≤ W.heap.size + 1; omega) _⟩
    · go_wp2_with fail
      go_meet
      case rel =>
        have q1 : W.heap.size + 1 ≤ b1 := by have := hb1; rw [show (W.alloc (.cells #[.slice none 0 0, .slice none 0 0] 161)).drew.heap.size = W.heap.size + 1 by show (W.alloc _).heap.size = _; simp] at this; exact this
        have q2 := ht1.lt
        have q3 := BE.size
        exact ⟨b1, w1.heap.size, W.heap.size, rfl, (Below.heap_alloc _ _ _ (by simp; exact zlt)).trans (set2_same zz), Tb.alloc (ht1.same (set2_other (by omega))) _, heap_top_at _ _ _ (by simp), by omega, by omega, by omega, by omega, by omega, by omega, ((BE.setCell (by show W.heap.size ≤ W.heap.size; omega) _).setCell (by show W.heap.size ≤ W.heap.size; omega) _).alloc (by simp; exact q3) _⟩
    · go_wp2_with fail
      go_meet
      case rel =>
        have q1 : W.heap.size + 2 ≤ b1 := by have := hb1; rw [show ((W.alloc (.cells #[.slice none 0 0, .slice none 0 0] 161)).alloc (.cells ((List.range l.length).map (fun _ => Value.int .i64 0)).toArray 3)).drew.heap.size = W.heap.size + 2 by show ((W.alloc _).alloc _).heap.size = _; simp] at this; exact this
        have q2 := ht1.lt
        have q3 := BE.size
        exact ⟨b1, W.heap.size + 1, W.heap.size, rfl, set2_same zz, ht1.same (set2_other (by omega)), (set2_other (by omega)).trans mm, by omega, by omega, by omega, by omega, by omega, by omega, (BE.setCell (by show W.heap.size ≤ W.heap.size; omega) _).setCell (by show W.heap.size ≤ W.heap.size; omega) _⟩
  case rest =>
    obtain ⟨b1, b2, c, hs3, hc, ht1, ht2, p1, p2, p3, p4, p5, p6, hbc⟩ := hcut
    subst hs3
    have hgc := (hbc.block _ (lt_of_block hg)).trans hg
    have h1c := (hbc.block _ (lt_of_block h1)).trans h1
    have hbw : Below w.heap.size w wc := hb0.trans (hbc.mono hb0.size)
    have s0 := lt_of_block hg
    have s1 := lt_of_block h1
    have HRA := Lib.hid hr
    have HG := Lib.hid g
    obtain ⟨ba, oa, hab⟩ := hr.b.get
    clear hg h1 g0 g1 gf0 gf1 hbc hb0 hmS HM hW hr
    clear hi hz0 hz1 hz2 i0
    obtain ⟨⟨g0, g1⟩, gf0, gf1⟩ := two_cells hgc
    go_wp2_with fail
    go_loopw [17] (fun i wr => ∃ k : Nat, k ≤ l.length ∧ i = .int .i64 k ∧ Tb wr b1 n 3 .i64 (fun v => lastAt l v k) ∧ Tb wr b2 l.length 3 .i64 (fun j => if j < k then lastAt l (src (ar l j)) j else 0) ∧ wr.heap[c]? = some (.cells #[.slice (some ⟨b1, 0, none⟩) n n, .slice (some ⟨b2, 0, none⟩) l.length l.length] 161) ∧ wr.heap[w.heap.size + 1]? = some (.cells #[.slice none 0 0, .slice none 0 0] 161) ∧ Below w.heap.size w wr) (fun i _ => l.length - (intOf i).toNat)
    case atStart => exact ⟨0, Nat.zero_le _, rfl, ht1, ht2.congr (fun v _ => by simp), hc, h1c, hbw⟩
    case round =>
      obtain ⟨k, hk, rfl, t1, t2, hcr, h1r, hbr⟩ := hrel
      clear g0 g1 gf0 gf1 hgc ht1 ht2 hc h1c hbw
      obtain ⟨⟨c0, c1⟩, cf0, cf1⟩ := two_cells hcr
      by_cases hlt : k < l.length
      · obtain ⟨rfl, hbl, hat⟩ := hab (by omega)
        obtain ⟨q0, q1, q2⟩ := (hat k hlt).on hbr
        have hlt' : (k : Int) < l.length := by omega
        have hmem := ar_mem hlt
        have hse := HG.out.f_eq hmem
        have hsl := HG.out.src_lt hmem
        obtain ⟨x, HX⟩ := named (ar l k)
        have q0' : wr.cell? ⟨ba, oa + k * 3, none⟩ = some (.int .i64 (ar l k).f) := q0
        have q1' : wr.cell? ⟨ba, oa + k * 3 + 1, none⟩ = some (.int .i64 (ar l k).t) := q1
        have q2' : wr.cell? ⟨ba, oa + k * 3 + 2, none⟩ = some (.int .u32 (ar l k).w) := q2
        rw [hse] at q0'
        rw [HX.out] at q0' q1' q2' hsl
        clear q0 q1 q2 hmem hse hat
        have hsl' : ((src x : Nat) : Int) < n := by omega
        have d1 := t1.cell hsl
        have d2 := t2.cell hlt
        have f1 := t1.free (src x)
        have f2 := t2.free k
        have z1 := t1.lt
        have z2 := t2.lt
        have z3 := lt_of_block hcr
        have z4 := lt_of_block h1r
        go_wp2_with fail
        have T1 := Lib.hid (t1.alloc (.cells #[.int .i64 (src x), .int .i64 x.t, .int .u32 x.w] 68))
        have T2 := Lib.hid (t2.alloc (.cells #[.int .i64 (src x), .int .i64 x.t, .int .u32 x.w] 68))
        have hca := (Below.heap_alloc wr (.cells #[.int .i64 (src x), .int .i64 x.t, .int .u32 x.w] 68) _ z3).trans hcr
        have HCA := Lib.hid hca
        have H1A := Lib.hid ((Below.heap_alloc wr (.cells #[.int .i64 (src x), .int .i64 x.t, .int .u32 x.w] 68) _ z4).trans h1r)
        have HBA := Lib.hid (hbr.alloc hbr.size (.cells #[.int .i64 (src x), .int .i64 x.t, .int .u32 x.w] 68))
        obtain ⟨x0, x1, x2⟩ := three_cells (heap_top wr (.cells #[.int .i64 (src x), .int .i64 x.t, .int .u32 x.w] 68))
        clear c0 c1 cf0 cf1 d1 d2 f1 f2 q0' q1' q2' t1 t2 hcr h1r hbr
        have zx1 : b1 ≠ wr.heap.size := by omega
        have zx2 : b2 ≠ wr.heap.size := by omega
        have zx3 : c ≠ wr.heap.size := by omega
        generalize wr.heap.size = Z at *
        generalize wr.alloc (.cells #[.int .i64 (src x), .int .i64 x.t, .int .u32 x.w] 68) = W5 at *
        obtain ⟨⟨c0, c1⟩, cf0, cf1⟩ := two_cells hca
        have d1 := T1.out.cell hsl
        have d2 := T2.out.cell hlt
        have f1 := T1.out.free (src x)
        have f2 := T2.out.free k
        have p4' := p4.symm
        have p5' := p5.symm
        have p6' := p6.symm
        clear hca
        obtain ⟨la, HLA⟩ := named (lastAt l (src x) k)
        rw [HLA.out] at d1
        rw [if_neg (Nat.lt_irrefl k)] at d2
        go_region
        go_wp2_with fail
        refine ⟨⟨k + 1, by omega, by go_num, ?_, ?_, ?_, ?_, ?_⟩, by simp [intOf]; omega⟩
        · refine Tb.congr (F := updI (fun v => lastAt l v k) (src x) k) (Tb.set (T1.out.same (Below.heap_setCell _ _ _ _ p4)) (src x) k) (fun v _ => ?_)
          show (if v = src x then (k : Int) else lastAt l v k) = (if src (ar l k) = v then (k : Int) else lastAt l v k)
          rw [HX.out]
          by_cases e : v = src x
          · subst e; simp
          · rw [if_neg e, if_neg (fun h => e h.symm)]
        · refine Tb.congr (F := updI (fun j => if j < k then lastAt l (src (ar l j)) j else 0) k la) (Tb.same (T2.out.set k la) (Below.heap_setCell _ _ _ _ p4')) (fun v _ => ?_)
          unfold updI
          by_cases e : v = k
          · subst e; rw [if_pos rfl, if_pos (by omega), HX.out, HLA.out]
          · rw [if_neg e]
            show (if v < k then lastAt l (src (ar l v)) v else 0) = _
            by_cases e2 : v < k
            · rw [if_pos e2, if_pos (by omega)]
            · rw [if_neg e2, if_neg (by omega)]
        · exact (Below.heap_setCell _ _ _ _ p5').trans ((Below.heap_setCell _ _ _ _ p6').trans HCA.out)
        · exact (Below.heap_setCell _ _ _ _ (by show w.heap.size + 1 ≠ b1; omega)).trans ((Below.heap_setCell _ _ _ _ (by show w.heap.size + 1 ≠ b2; omega)).trans H1A.out)
        · exact ((HBA.out.setCell (by show w.heap.size ≤ b2; omega) _).setCell (by show w.heap.size ≤ b1; omega) _).drew
      · have hkl : k = l.length := by omega
        have hlt' : ¬ (k : Int) < l.length := by omega
        obtain ⟨⟨r0, r1⟩, rf0, rf1⟩ := two_cells h1r
        have T1 := Lib.hid t1
        have T2 := Lib.hid t2
        clear t1 t2 hab
        subst hkl
        go_wp2_with fail
        refine bodyPost_ret (v := .agg #[.slice (some ⟨b1, 0, none⟩) n n, .slice (some ⟨b2, 0, none⟩) l.length l.length]) (by simp [results, Tryz.results124, go_sem, r0, r1]) rfl ⟨b1, b2, rfl, p4, by omega, by omega, ?_, ?_, ?_⟩
        · exact T1.out.same ((Below.heap_setCell _ _ _ _ (by show b1 ≠ w.heap.size + 1; omega)).trans (Below.heap_setCell _ _ _ _ (by show b1 ≠ w.heap.size + 1; omega)))
        · refine (T2.out.same ((Below.heap_setCell _ _ _ _ (by show b2 ≠ w.heap.size + 1; omega)).trans (Below.heap_setCell _ _ _ _ (by show b2 ≠ w.heap.size + 1; omega)))).congr (fun j hj => by rw [if_pos hj])
        · exact (hbr.setCell (by show w.heap.size ≤ w.heap.size + 1; omega) _).setCell (by show w.heap.size ≤ w.heap.size + 1; omega) _
end Go.Proofs.YtpmjbeiclmllmaaGreat.N5
namespace Go.Proofs.YtpmjbeiclmllmaaGreat.N5
open Go.RowKit
open Hp (HR HRto Fr upd upd_self upd_ne TopIs)
set_option maxHeartbeats 1600000 in
set_option maxRecDepth 100000 in
theorem begin_any (n : Nat) (a : Option Addr) (l : List A) (cap : Nat) (s fid : Nat) (cs : Array Value) (w : World) (g : RG n l) (hr : Arcs w a l) (Post : Nat → Nat → Nat → Nat → World → Prop)
    (next : ∀ f b1 b2 h D w1, Sr w1 f a cap l n b1 b2 h (.func (.func fid) #[] cs) (fun _ => none) D → w.heap.size ≤ f → w.heap.size ≤ b1 → w.heap.size ≤ b2 → f ≠ b1 → f ≠ b2 → b1 ≠ b2 → (∀ k, D k → w.heap.size ≤ k) → Below w.heap.size w w1 →
      Calls Tryz.prog 125 #[.pointer (some ⟨f, 0, none⟩), .int .i64 s, .int .u64 0, .int .i64 (-1)] w1 fun e w' => e = .returned (.tuple #[]) ∧ Post f b1 b2 h w') :
    Calls Tryz.prog 104 #[.agg #[.int .i64 n, .slice a l.length cap], .int .i64 s, .func (.func fid) #[] cs] w fun e w' => ∃ f b1 b2 h, e = .returned (.pointer (some ⟨f, 0, none⟩)) ∧ Post f b1 b2 h w' := by
  have hnb := g.nb
  have HNEXT := Lib.hid next
  have hb0 : Below w.heap.size w (w.alloc (.cells #[.int .i64 n, .slice a l.length cap] 24)) := (Below.refl _ _).alloc (Nat.le_refl _) _
  have hg := heap_top w (.cells #[.int .i64 n, .slice a l.length cap] 24)
  have HNEW := Lib.hid (Hp.New_any n (by omega) (w.alloc (.cells #[.int .i64 n, .slice a l.length cap] 24)))
  have HAR := Lib.hid hr
  have HG := Lib.hid g
  clear next hr g
  go_enter Tryz.func104, Tryz.ntmps104
  go_wp2_with fail
  refine HNEW.out.mono ?_
  rintro e w1 ⟨h, D, rfl, hp1, hD1, hb1⟩
  have hg1 := (hb1.block _ (lt_of_block hg)).trans hg
  have b1w : Below w.heap.size w w1 := hb0.trans (hb1.mono hb0.size)
  have s1 := lt_of_block hg1
  have hD : ∀ k, D k → w.heap.size ≤ k := fun k hk => Nat.le_trans hb0.size (hD1 k hk)
  have HD := Lib.hid hD
  have HP1 := Lib.hid hp1
  have HB1 := Lib.hid b1w
  obtain ⟨⟨g0, g1⟩, gf0, gf1⟩ := two_cells hg1
  have G0 := Lib.hid g0
  have G1 := Lib.hid g1
  clear hD hD1 hg hb0 hb1 hp1 HNEW b1w
  go_wp2_with fail
  have HCH := Lib.hid (fun (w' : World) (hb : Below w1.heap.size w1 w') => chained_any n a l cap w' HG.out (HAR.out.on (HB1.out.trans (hb.mono HB1.out.size))))
  go_region_held3 (fun w' => w'.cell? ⟨w.heap.size, 0, none⟩ = some (.int .i64 n) ∧ w'.cell? ⟨w.heap.size, 1, none⟩ = some (.slice a l.length cap)) (go_keep) ((go_at_call 124; refine (HCH.out _ (by first | exact Below.refl _ _ | exact (Below.refl _ _).drew | exact below_drewN _ _ _)).mono ?_; rintro e w2 ⟨b1, b2, rfl, hn, hl1, hl2, ht1, ht2, hb2⟩; have y0 : w2.cell? ⟨w.heap.size, 0, none⟩ = some (.int .i64 n) := (hb2.cell (p := ⟨w.heap.size, 0, none⟩) s1).trans G0.out; have y1 : w2.cell? ⟨w.heap.size, 1, none⟩ = some (.slice a l.length cap) := (hb2.cell (p := ⟨w.heap.size, 1, none⟩) s1).trans G1.out; have BB : Below w1.heap.size w1 w2 := Below.trans (show Below w1.heap.size w1 _ from by first | exact Below.refl _ _ | exact (Below.refl _ _).drew | exact below_drewN _ _ _) hb2; have k1 : w1.heap.size ≤ b1 := hl1; have k2 : w1.heap.size ≤ b2 := hl2))
  have q1 := ht1.lt
  have q2 := ht2.lt
  have hb2w := HB1.out.trans (BB.mono HB1.out.size)
  have sw := HB1.out.size
  have HPA := Lib.hid (HNEXT.out w2.heap.size b1 b2 h D (w2.alloc (.cells #[.slice a l.length cap, .slice (some ⟨b1, 0, none⟩) n n, .slice (some ⟨b2, 0, none⟩) l.length l.length, .pointer (some ⟨h, 0, none⟩), .func (.func fid) #[] cs] 164))
    ⟨heap_top w2 _, ht1.alloc _, ht2.alloc _, (HP1.out.on BB).on ((Below.refl _ _).alloc (Nat.le_refl _) _), fun k hk => by have := HP1.out.lt k hk; omega⟩ (by omega) (by omega) (by omega) (by omega) (by omega) hn HD.out (hb2w.alloc hb2w.size _))
  clear y0 y1 g0 g1 gf0 gf1 hg1 ht1 ht2 hn hl1 hl2 q1 q2 k1 k2
  go_wp2_with fail
  refine HPA.out.mono ?_
  rintro e w3 ⟨rfl, hpost⟩
  go_wp2_with fail
  go_ret
  exact ⟨_, b1, b2, h, rfl, hpost⟩
end Go.Proofs.YtpmjbeiclmllmaaGreat.N5
namespace Go.Proofs.YtpmjbeiclmllmaaGreat.N5
open Go.RowKit
open Hp (HR HRto Fr upd upd_self upd_ne TopIs)
/-- (*search).arrive with the function fid: what it comes to. -/
def AWalk (fid : Nat) (cs : Array Value) : Prop := ∀ (w : World) (f h : Nat) (x0 x1 x2 : Value) (v : Nat) (d y : Int) (P : Bool → World → Prop) (R : World → Prop),
  w.heap[f]? = some (.cells #[x0, x1, x2, .pointer (some ⟨h, 0, none⟩), .func (.func fid) #[] cs] 164 (0, 0)) →
  Calls Tryz.prog fid (#[.int .i64 v, .int .u64 d, .int .i64 y] ++ cs) w (fun e w1 => ∃ b, e = .returned (.bool b) ∧ P b w1) →
  (∀ w1, P true w1 → w1.heap[f]? = some (.cells #[x0, x1, x2, .pointer (some ⟨h, 0, none⟩), .func (.func fid) #[] cs] 164 (0, 0)) ∧ Calls Tryz.prog 136 #[.pointer (some ⟨h, 0, none⟩), .int .i64 v, .int .u64 d] w1 (fun e w2 => (∃ u1 u2, e = .returned (.tuple #[.bool u1, .int .i64 u2])) ∧ R w2)) →
  (∀ w1, P false w1 → R w1) →
  Calls Tryz.prog 125 #[.pointer (some ⟨f, 0, none⟩), .int .i64 v, .int .u64 d, .int .i64 y] w fun e w' => e = .returned (.tuple #[]) ∧ R w'
set_option maxRecDepth 100000 in
set_option maxHeartbeats 400000 in
theorem awalk58 (c0 : Value) : AWalk 126 #[c0] := by
  intro w f h x0 x1 x2 v d y P R hd hcl hlow hno
  have HCL := Lib.hid hcl
  have HLOW := Lib.hid hlow
  have HNO := Lib.hid hno
  obtain ⟨c0, c1, c2, c3, c4⟩ := five_cells hd
  clear hcl hlow hno hd
  go_enter Tryz.func125, Tryz.ntmps125
  go_wp2_with fail
  refine HCL.out.mono ?_
  rintro e w1 ⟨b, rfl, hP⟩
  cases b with
  | true =>
    obtain ⟨hd1, hl⟩ := HLOW.out w1 hP
    have HL := Lib.hid hl
    clear c0 c1 c2 c3 c4 hl
    obtain ⟨c0, c1, c2, c3, c4⟩ := five_cells hd1
    go_wp2_with fail
    refine HL.out.mono ?_
    rintro e w2 ⟨⟨u1, u2, rfl⟩, hR⟩
    go_wp2_with fail
    go_end0
    exact ⟨rfl, hR⟩
  | false =>
    go_wp2_with fail
    go_end0
    exact ⟨rfl, HNO.out w1 hP⟩
/-- What stands in memory: the search, and the tables R of its function in the blocks Q. -/
def SG (w0 : World) (f : Nat) (a : Option Addr) (cap : Nat) (l : List A) (n b1 b2 h : Nat) (fn : Value) {X : Type} (R : World → (Nat → Int) → X → Prop) (Q : Nat → Prop) (w : World) (F : Nat → Int) (T : Nat → Option Int) (x : X) : Prop :=
  ∃ D, Sr w f a cap l n b1 b2 h fn T D ∧ R w F x ∧ (∀ k, D k → ¬ Q k ∧ w0.heap.size ≤ k) ∧ Below w0.heap.size w0 w
/-- What is asked of the function. -/
structure Fun (n fid : Nat) (cs : Array Value) (ok : Nat → Bool) {X : Type} (XR : (Nat → Int) → X → Nat → Int → Int → X → Prop) (R : World → (Nat → Int) → X → Prop) (Q : Nat → Prop) : Prop where
  lt : ∀ {w F x k}, R w F x → Q k → k < w.heap.size
  same : ∀ {w w' F x}, R w F x → (∀ k, Q k → w'.heap[k]? = w.heap[k]?) → R w' F x
  call : ∀ {w F x} {v : Nat} {d y : Int}, R w F x → v < n → 0 ≤ d → d ≤ Inf → Calls Tryz.prog fid (#[.int .i64 v, .int .u64 d, .int .i64 y] ++ cs) w fun e w1 => ∃ b, e = .returned (.bool b) ∧ Fr Q w w1 ∧
    (b = true ∧ ok v = true ∧ d < F v ∧ (∃ x', R w1 (updI F v d) x' ∧ XR F x v d y x') ∨ b = false ∧ ¬ (ok v = true ∧ d < F v) ∧ R w1 F x)
theorem Tb.fr {w w' : World} {b n : Nat} {ty : TypeId} {K : IntKind} {F : Nat → Int} {Q : Nat → Prop} (h : Tb w b n ty K F) (f : Fr Q w w') (hb : ¬ Q b) : Tb w' b n ty K F := h.same (f.block b h.lt hb)
theorem Sr.fr {w w' : World} {f : Nat} {a : Option Addr} {cap : Nat} {l : List A} {n b1 b2 h : Nat} {fn : Value} {T : Nat → Option Int} {D Q : Nat → Prop} (s : Sr w f a cap l n b1 b2 h fn T D) (hf : Fr Q w w') (h1 : ¬ Q f) (h2 : ¬ Q b1) (h3 : ¬ Q b2) (hd : ∀ k, D k → ¬ Q k) : Sr w' f a cap l n b1 b2 h fn T D :=
  ⟨(hf.block f (lt_of_block s.hd) h1).trans s.hd, s.t1.fr hf h2, s.t2.fr hf h3, s.hp.fr hf hd, s.sep⟩
theorem Sr.on {w w' : World} {f : Nat} {a : Option Addr} {cap : Nat} {l : List A} {n b1 b2 h : Nat} {fn : Value} {T : Nat → Option Int} {D : Nat → Prop} (s : Sr w f a cap l n b1 b2 h fn T D) (hb : Below w.heap.size w w') : Sr w' f a cap l n b1 b2 h fn T D :=
  ⟨(hb.block f (lt_of_block s.hd)).trans s.hd, s.t1.same (hb.block _ s.t1.lt), s.t2.same (hb.block _ s.t2.lt), s.hp.on hb, s.sep⟩
/-- A heap that has been worked on. -/
theorem Sr.heap {w w' : World} {f : Nat} {a : Option Addr} {cap : Nat} {l : List A} {n b1 b2 h : Nat} {fn : Value} {T T' : Nat → Option Int} {D D' : Nat → Prop} (s : Sr w f a cap l n b1 b2 h fn T D) (hp : HR w' h n T' D') (hd : ∀ k, D' k → D k ∨ w.heap.size ≤ k) (hf : Fr D w w') : Sr w' f a cap l n b1 b2 h fn T' D' := by
  have e1 := lt_of_block s.hd
  have e2 := s.t1.lt
  have e3 := s.t2.lt
  refine ⟨(hf.block f e1 (fun e => (s.sep f e).1 rfl)).trans s.hd, s.t1.fr hf (fun e => (s.sep b1 e).2.1 rfl), s.t2.fr hf (fun e => (s.sep b2 e).2.2 rfl), hp, fun k hk => ?_⟩
  rcases hd k hk with h' | h'
  · exact s.sep k h'
  · exact ⟨by omega, by omega, by omega⟩
theorem low_upd {n : Nat} {T : Nat → Option Int} {v : Nat} {d fv : Int} (hv : v < n) (hk : ∀ k, T v = some k → k = fv) (hd : d < fv) : Hp.lowTT n T v d = upd T v (some d) := by
  have h1 : Hp.okI n (v : Int) = true := by simp [Hp.okI]; omega
  unfold Hp.lowTT Hp.lowT
  rw [if_pos h1, Int.toNat_natCast, if_pos]
  unfold Hp.low
  cases e : T v with
  | none => rfl
  | some k => have := hk k e; simp; omega
theorem sys_of {w0 : World} {f n : Nat} {a : Option Addr} {cap : Nat} {l : List A} {b1 b2 h fid : Nat} {cs : Array Value} {ok : Nat → Bool} {X : Type} {XR : (Nat → Int) → X → Nat → Int → Int → X → Prop} {R : World → (Nat → Int) → X → Prop} {Q : Nat → Prop}
    (aw : AWalk fid cs) (fu : Fun n fid cs ok XR R Q) (hr : Arcs w0 a l) (q1 : ¬ Q f) (q2 : ¬ Q b1) (q3 : ¬ Q b2) (hQ : ∀ k, Q k → w0.heap.size ≤ k) : Sys f n a cap l b1 b2 h (.func (.func fid) #[] cs) ok XR (SG w0 f a cap l n b1 b2 h (.func (.func fid) #[] cs) R Q) := by
  have hon : ∀ {w w' F T x}, SG w0 f a cap l n b1 b2 h (.func (.func fid) #[] cs) R Q w F T x → Below w.heap.size w w' → SG w0 f a cap l n b1 b2 h (.func (.func fid) #[] cs) R Q w' F T x := by
    rintro w w' F T x ⟨D, s, r, hd, hb⟩ hb'
    exact ⟨D, s.on hb', fu.same r (fun k hk => hb'.block k (fu.lt r hk)), hd, hb.trans (hb'.mono hb.size)⟩
  refine ⟨fun ⟨D, s, _⟩ => s.hd, fun ⟨D, s, _⟩ => s.t1, fun ⟨D, s, _⟩ => s.t2, fun ⟨D, _, _, _, hb⟩ => hr.on hb, ?_, hon, ?_⟩
  · rintro w F T x ⟨D, s, r, hd, hb⟩
    refine ⟨D, s.hp, fun w' T' ⟨D', hp, hd', hf⟩ => ⟨D', s.heap hp hd' hf, fu.same r (fun k hk => hf.block k (fu.lt r hk) (fun e => (hd k e).1 hk)), fun k hk => ?_, ?_⟩⟩
    · rcases hd' k hk with e | e
      · exact hd k e
      · exact ⟨fun e' => by have := fu.lt r e'; omega, by have := hb.size; omega⟩
    · exact hb.trans (hf.below hb.size (fun k hk => (hd k hk).2))
  · intro w w1 F T x v d y hs hb1 hv hd0 hd1 hk
    obtain ⟨D, s1, r1, hd, hb⟩ := hs
    have hQlt : ∀ k, Q k → k < w1.heap.size := fun k hk => fu.lt r1 hk
    have hDlt : ∀ k, D k → k < w1.heap.size := s1.hp.lt
    have s := s1.on hb1
    have r := fu.same r1 (fun k hk => hb1.block k (hQlt k hk))
    have hbw := hb.trans (hb1.mono hb.size)
    refine aw w f h _ _ _ v d y (fun b wx => Fr Q w wx ∧ (b = true ∧ ok v = true ∧ d < F v ∧ (∃ x', R wx (updI F v d) x' ∧ XR F x v d y x') ∨ b = false ∧ ¬ (ok v = true ∧ d < F v) ∧ R wx F x)) _ s.hd (fu.call r hv hd0 hd1) ?_ ?_
    · rintro w2 ⟨hf, hor⟩
      have s2 := s.fr hf q1 q2 q3 (fun k hk => (hd k hk).1)
      refine ⟨s2.hd, (Hp.Lower_any s2.hp v d).mono ?_⟩
      rintro e w3 ⟨rfl, D', hp, hd', hf3⟩
      rcases hor with ⟨_, ho, hlt, x', r2, xr⟩ | ⟨h', _⟩
      · rw [low_upd hv hk hlt] at hp
        have hb2 := hbw.trans (hf.below hbw.size hQ)
        refine ⟨⟨_, _, rfl⟩, Or.inl ⟨ho, hlt, x', ⟨D', s2.heap hp hd' hf3, fu.same r2 (fun k hk => hf3.block k (fu.lt r2 hk) (fun e => (hd k e).1 hk)), fun k hk => ?_, hb2.trans (hf3.below hb2.size (fun k hk => (hd k hk).2))⟩, xr⟩, fun k h1 h2 => ?_⟩
        · rcases hd' k hk with e | e
          · exact hd k e
          · exact ⟨fun e' => by have := fu.lt r2 e'; omega, by have := hb2.size; omega⟩
        · have := hf.size
          exact (hf3.block k (by omega) (fun e => by have := hDlt k e; omega)).trans (hf.block k h2 (fun e => by have := hQlt k e; omega))
      · cases h'
    · rintro w2 ⟨hf, hor⟩
      rcases hor with ⟨h', _⟩ | ⟨_, hno, r2⟩
      · cases h'
      · exact ⟨Or.inr ⟨hno, D, s.fr hf q1 q2 q3 (fun k hk => (hd k hk).1), r2, hd, hbw.trans (hf.below hbw.size hQ)⟩, fun k h1 h2 => hf.block k h2 (fun e => by have := hQlt k e; omega)⟩
end Go.Proofs.YtpmjbeiclmllmaaGreat.N5
namespace Go.Proofs.YtpmjbeiclmllmaaGreat.N5
open Go.RowKit
open Hp (HR HRto Fr upd upd_self upd_ne TopIs)
/-- What is wrong with a graph and vertices. -/
def nearE (N : Int) (l : List A) (xs : List Int) : Int := if chkE N l = 0 then (if xs.all (okV N) then 0 else 5) else chkE N l
theorem all_take_succ {xs : List Int} {q : Int → Bool} {k : Nat} (h : k < xs.length) (h1 : (xs.take k).all q = true) (h2 : q (xs.getD k 0) = true) : (xs.take (k + 1)).all q = true := by
  rw [List.take_add_one, List.all_append, h1]
  simp [List.getElem?_eq_getElem h]
  simpa [List.getD, List.getElem?_eq_getElem h] using h2
theorem all_bad {xs : List Int} {q : Int → Bool} {k : Nat} (h : k < xs.length) (h2 : q (xs.getD k 0) = false) : xs.all q = false := by
  rw [List.all_eq_false]
  refine ⟨xs[k], List.getElem_mem h, ?_⟩
  simp [List.getD, List.getElem?_eq_getElem h] at h2
  simpa using h2
set_option maxRecDepth 100000 in
set_option maxHeartbeats 800000 in
theorem ncheck_any (N : Int) (a : Option Addr) (l : List A) (cap : Nat) (xa : Option Addr) (xs : List Int) (xc : Nat) (w : World) (hl : l.length ≤ 9223372036854775807) (hx : xs.length ≤ 178) (hr : Arcs w a l) (hxs : Ints w xa xs) :
    Calls Tryz.prog 100 #[.agg #[.int .i64 N, .slice a l.length cap], .slice xa xs.length xc] w fun e w' => e = .returned (.int .i64 (nearE N l xs)) ∧ Below w.heap.size w w' := by
  have hb0 : Below w.heap.size w (w.alloc (.cells #[.int .i64 N, .slice a l.length cap] 24)) := (Below.refl _ _).alloc (Nat.le_refl _) _
  have hg := heap_top w (.cells #[.int .i64 N, .slice a l.length cap] 24)
  have HCK := Lib.hid (check_any N a l cap _ hl (hr.on hb0))
  obtain ⟨T, HT⟩ := named (chkAt N l)
  rw [HT.out] at HCK
  by_cases hE : chkE N l = 0
  · rw [hE] at HCK
    obtain ⟨E, HE⟩ := named (nearE N l xs)
    have HEQ : Hid (E = if xs.all (okV N) then 0 else 5) := by show _ = _; rw [← HE.out]; unfold nearE; rw [if_pos hE]
    rw [HE.out]
    clear hE
    obtain ⟨bx, ox, hxx⟩ := hxs.get
    go_enter Tryz.func100, Tryz.ntmps100
    go_wp2_with fail
    refine HCK.out.mono ?_
    rintro e w1 ⟨rfl, hb1⟩
    have hg1 := (hb1.block _ (lt_of_block hg)).trans hg
    have b1 : Below w.heap.size w w1 := hb0.trans (hb1.mono hb0.size)
    clear hb1 hb0 hg HCK
    obtain ⟨⟨g0, g1⟩, -⟩ := two_cells hg1
    go_wp2_with fail
    go_loopw [19] (fun i wr => ∃ k : Nat, k ≤ xs.length ∧ i = .int .i64 k ∧ Hid ((xs.take k).all (okV N) = true) ∧ wr = w1) (fun i _ => xs.length - (intOf i).toNat)
    case atStart => exact ⟨0, Nat.zero_le _, rfl, by show _ = _; simp, rfl⟩
    case round =>
      obtain ⟨k, hk, rfl, hall, rfl⟩ := hrel
      by_cases hlt : k < xs.length
      · obtain ⟨rfl, hbl, hat⟩ := hxx (by omega)
        have c0 := (b1.cell (p := ⟨bx, ox + k, none⟩) hbl).trans (hat k hlt)
        have hlt' : (k : Int) < xs.length := by omega
        have HA := Lib.hid (fun h => all_take_succ (q := okV N) hlt hall.out h)
        have HB := Lib.hid (fun h => all_bad (q := okV N) hlt h)
        generalize xs.getD k 0 = v at *
        by_cases h1 : v < 0
        · obtain rfl : E = 5 := by rw [HEQ.out, HB.out (by simp [okV]; omega)]; rfl
          go_wp2_with fail
          go_ret
          exact ⟨rfl, b1⟩
        · by_cases h2 : N ≤ v
          · obtain rfl : E = 5 := by rw [HEQ.out, HB.out (by simp [okV]; omega)]; rfl
            go_wp2_with fail
            go_ret
            exact ⟨rfl, b1⟩
          · have HA2 := Lib.hid (HA.out (by simp [okV]; omega))
            go_wp2_with fail
            exact ⟨⟨k + 1, by omega, by go_num, HA2, trivial⟩, by simp [intOf]; omega⟩
      · have hlt' : ¬ (k : Int) < xs.length := by omega
        obtain rfl : E = 0 := by
          have := hall.out
          rw [List.take_of_length_le (by omega)] at this
          rw [HEQ.out, this]; rfl
        go_wp2_with fail
        go_ret
        exact ⟨rfl, b1⟩
  · have hN : nearE N l xs = chkE N l := by unfold nearE; rw [if_neg hE]
    rw [hN]
    obtain ⟨E, HE⟩ := named (chkE N l)
    rw [HE.out] at hE HCK ⊢
    have hE' : (E == 0) = false := beq_eq_false_iff_ne.2 hE
    clear hN hE
    go_enter Tryz.func100, Tryz.ntmps100
    go_wp2_with fail
    refine HCK.out.mono ?_
    rintro e w1 ⟨rfl, hb1⟩
    have b1 : Below w.heap.size w w1 := hb0.trans (hb1.mono hb0.size)
    go_wp2_with fail
    go_ret
    exact ⟨rfl, b1⟩
set_option maxRecDepth 100000 in
set_option maxHeartbeats 400000 in
theorem shorter_any (x : Addr) (n m : Nat) (w : World) :
    Calls Tryz.prog 105 #[.slice (some x) n m] w fun e w' => e = .returned (.func (.func 126) #[] #[.pointer (some ⟨w.heap.size, 0, none⟩)]) ∧ w' = w.alloc (.cells #[.slice (some x) n m] 37) := by
  go_enter Tryz.func105, Tryz.ntmps105
  go_wp2_with fail
  go_ret
  exact ⟨rfl, rfl⟩
/-- The least lengths told, in block bf; the variable of the slice, in block c. -/
def R1 (n c bf : Nat) (w : World) (F : Nat → Int) (_ : Unit) : Prop := w.heap[c]? = some (.cells #[.slice (some ⟨bf, 0, none⟩) n n] 37) ∧ Tb w bf n 47 .u64 F
def Q1 (c bf : Nat) (k : Nat) : Prop := k = c ∨ k = bf
theorem Fr.set1 {Q : Nat → Prop} {w : World} {p : Addr} {u : Value} (h : Q p.block) : Fr Q w (w.setCell p u) := (Hp.Fr.refl Q w).setCell p u (Or.inl h)
theorem fun1 (n c bf : Nat) (hne : c ≠ bf) : Fun n 126 #[.pointer (some ⟨c, 0, none⟩)] (fun _ => true) (X := Unit) (fun _ _ _ _ _ _ => True) (R1 n c bf) (Q1 c bf) := by
  refine ⟨?_, ?_, ?_⟩
  · rintro w F x k ⟨h1, h2⟩ (rfl | rfl)
    · exact lt_of_block h1
    · exact h2.lt
  · rintro w w' F x ⟨h1, h2⟩ hs
    exact ⟨(hs c (Or.inl rfl)).trans h1, h2.same (hs bf (Or.inr rfl))⟩
  · rintro w F x v d y ⟨h1, h2⟩ hv hd0 hd1
    refine (short_any w c bf n v d y F hv h1 h2).mono ?_
    rintro e w1 ⟨rfl, rfl⟩
    refine ⟨_, rfl, ?_, ?_⟩
    · split
      · exact Fr.set1 (Or.inr rfl)
      · exact Hp.Fr.refl _ _
    · by_cases h : d < F v
      · rw [if_pos h]
        exact Or.inl ⟨by simpa using h, rfl, h, (), ⟨(Below.heap_setCell _ _ _ _ hne).trans h1, h2.set v d⟩, trivial⟩
      · rw [if_neg h]
        exact Or.inr ⟨by simpa using h, fun e => h e.2, h1, h2⟩
/-- The search begins. -/
theorem start_any {w0 w : World} {n : Nat} {a : Option Addr} {cap : Nat} {l : List A} {s fid : Nat} {cs : Array Value} {ok : Nat → Bool} {X : Type} {XR : (Nat → Int) → X → Nat → Int → Int → X → Prop} {R : World → (Nat → Int) → X → Prop} {Q : Nat → Prop} {x0 : X}
    (aw : AWalk fid cs) (fu : Fun n fid cs ok XR R Q) (g : RG n l) (hr : Arcs w0 a l) (hb : Below w0.heap.size w0 w) (hs : s < n) (hR : R w (fun _ => Inf) x0) (hQ : ∀ k, Q k → w0.heap.size ≤ k) :
    Calls Tryz.prog 104 #[.agg #[.int .i64 n, .slice a l.length cap], .int .i64 s, .func (.func fid) #[] cs] w fun e w' => ∃ f b1 b2 h, e = .returned (.pointer (some ⟨f, 0, none⟩)) ∧ Sys f n a cap l b1 b2 h (.func (.func fid) #[] cs) ok XR (SG w0 f a cap l n b1 b2 h (.func (.func fid) #[] cs) R Q) ∧
      ∃ F T x, SG w0 f a cap l n b1 b2 h (.func (.func fid) #[] cs) R Q w' F T x ∧ Inv l ok s F T 0 (fun _ => False) ∧ (ok s = true ∧ F = updI (fun _ => Inf) s 0 ∧ T = upd (fun _ => none) s (some 0) ∧ XR (fun _ => Inf) x0 s 0 (-1) x ∨ ok s = false ∧ F = (fun _ => Inf) ∧ T = (fun _ => none) ∧ x = x0) := by
  refine begin_any n a l cap s fid cs w g (hr.on hb) (fun f b1 b2 h w' => Sys f n a cap l b1 b2 h (.func (.func fid) #[] cs) ok XR (SG w0 f a cap l n b1 b2 h (.func (.func fid) #[] cs) R Q) ∧
      ∃ F T x, SG w0 f a cap l n b1 b2 h (.func (.func fid) #[] cs) R Q w' F T x ∧ Inv l ok s F T 0 (fun _ => False) ∧ (ok s = true ∧ F = updI (fun _ => Inf) s 0 ∧ T = upd (fun _ => none) s (some 0) ∧ XR (fun _ => Inf) x0 s 0 (-1) x ∨ ok s = false ∧ F = (fun _ => Inf) ∧ T = (fun _ => none) ∧ x = x0)) ?_
  intro f b1 b2 h D w1 sr l1 l2 l3 _ _ _ hD hb1
  have hQlt : ∀ k, Q k → k < w.heap.size := fun k hk => fu.lt hR hk
  have nq : ∀ k, w.heap.size ≤ k → ¬ Q k := fun k hk e => by have := hQlt k e; omega
  have sy := sys_of (h := h) (cap := cap) aw fu hr (nq f l1) (nq b1 l2) (nq b2 l3) hQ
  have hbw := hb.trans (hb1.mono hb.size)
  have sg : SG w0 f a cap l n b1 b2 h (.func (.func fid) #[] cs) R Q w1 (fun _ => Inf) (fun _ => none) x0 :=
    ⟨D, sr, fu.same hR (fun k hk => hb1.block k (hQlt k hk)), fun k hk => ⟨nq k (hD k hk), Nat.le_trans hb.size (hD k hk)⟩, hbw⟩
  refine (sy.arr (v := s) (d := 0) (y := -1) sg (Below.refl _ _) hs (Int.le_refl _) (by unfold Inf; omega) (fun k e => by cases e)).mono ?_
  rintro e w2 ⟨rfl, hor, _⟩
  refine ⟨rfl, sy, ?_⟩
  rcases hor with ⟨ho, _, x', sg', xr⟩ | ⟨hno, sg'⟩
  · exact ⟨_, _, x', sg', Inv.init0 l ok s _ ho, Or.inl ⟨ho, rfl, rfl, xr⟩⟩
  · have ho : ok s = false := by
      cases e : ok s with
      | false => rfl
      | true => exact absurd ⟨e, by unfold Inf; omega⟩ hno
    exact ⟨_, _, x0, sg', Inv.init l ok s _ ho, Or.inr ⟨ho, rfl, rfl, rfl⟩⟩
end Go.Proofs.YtpmjbeiclmllmaaGreat.N5
namespace Go.Proofs.YtpmjbeiclmllmaaGreat.N5
open Go.RowKit
open Hp (HR HRto Fr upd upd_self upd_ne TopIs)
theorem rg_of {N : Int} {l : List A} (h : chkE N l = 0) (hw : ∀ x ∈ l, 0 ≤ x.w ∧ x.w < 4294967296) : ∃ n : Nat, N = n ∧ RG n l := by
  obtain ⟨h1, h2, h3, h4⟩ := chk_zero h
  refine ⟨N.toNat, by omega, by omega, by omega, h3, fun x hx => ?_, hw⟩
  have := h4 x hx
  omega
theorem SG.below {w0 : World} {f : Nat} {a : Option Addr} {cap : Nat} {l : List A} {n b1 b2 h : Nat} {fn : Value} {X : Type} {R : World → (Nat → Int) → X → Prop} {Q : Nat → Prop} {w : World} {F : Nat → Int} {T : Nat → Option Int} {x : X} (h : SG w0 f a cap l n b1 b2 h fn R Q w F T x) : Below w0.heap.size w0 w := by
  obtain ⟨_, _, _, _, hb⟩ := h
  exact hb
theorem SG.tab {w0 : World} {f : Nat} {a : Option Addr} {cap : Nat} {l : List A} {n b1 b2 h : Nat} {fn : Value} {X : Type} {R : World → (Nat → Int) → X → Prop} {Q : Nat → Prop} {w : World} {F : Nat → Int} {T : Nat → Option Int} {x : X} (h : SG w0 f a cap l n b1 b2 h fn R Q w F T x) : R w F x := by
  obtain ⟨_, _, hr, _, _⟩ := h
  exact hr
theorem far_of {n K : Nat} {l : List A} {ok : Nat → Bool} {s : Nat} {F : Nat → Int} {T : Nat → Option Int} (g : RG n l) (hi : Inv l ok s F T K (fun _ => False)) (hK : K ≤ dn F T n) (ht : ∀ u, T u = none) : IsD l ok s F ∧ ∀ v, F v < Inf → F v ≤ n * 4294967296 := by
  refine ⟨hi.isD (fun x hx => (g.wt x hx).1) ht, fun v hv => ?_⟩
  have h1 := hi.bnd v hv
  have h2 := dn_le F T n
  have h3 : (K : Int) * 4294967296 ≤ n * 4294967296 := Int.mul_le_mul_of_nonneg_right (by omega) (by omega)
  omega
/-- Distances in a list of their own. -/
def FarIs (w w' : World) (bf n : Nat) (l : List A) (ok : Nat → Bool) (s : Nat) : Prop :=
  ∃ F, Tb w' bf n 47 .u64 F ∧ IsD l ok s F ∧ (∀ v, F v < Inf → F v ≤ n * 4294967296) ∧ w.heap.size ≤ bf ∧ Below w.heap.size w w'
theorem one_int (w : World) (x : Int) : Ints (w.alloc (.cells #[.int .i64 x] 3)) (some ⟨w.heap.size, 0, none⟩) [x] := by
  refine Or.inr ⟨w.heap.size, 0, rfl, by simp, fun j hj => ?_⟩
  match j, hj with
  | 0, _ => exact (one_cell (heap_top w _)).1
theorem two_int (w : World) (x y : Int) : Ints (w.alloc (.cells #[.int .i64 x, .int .i64 y] 3)) (some ⟨w.heap.size, 0, none⟩) [x, y] := by
  refine Or.inr ⟨w.heap.size, 0, rfl, by simp, fun j hj => ?_⟩
  match j, hj with
  | 0, _ => exact (two_cells (heap_top w _)).1.1
  | 1, _ => exact (two_cells (heap_top w _)).1.2
set_option maxHeartbeats 1600000 in
set_option maxRecDepth 100000 in
theorem from_ok (n : Nat) (a : Option Addr) (l : List A) (cap : Nat) (s : Nat) (w : World) (g : RG n l) (hs : s < n) (hE : nearE n l [(s : Int)] = 0) (hr : Arcs w a l) :
    Calls Tryz.prog 67 #[.agg #[.int .i64 n, .slice a l.length cap], .int .i64 s] w fun e w' => ∃ bf, e = .returned (.tuple #[.slice (some ⟨bf, 0, none⟩) n n, .int .i64 0]) ∧ FarIs w w' bf n l (fun _ => true) s := by
  have hnb := g.nb
  have hlb := g.lb
  have hb0 : Below w.heap.size w ((w.alloc (.cells #[.int .i64 n, .slice a l.length cap] 24)).alloc (.cells #[.int .i64 s] 3)) := ((Below.refl _ _).alloc (Nat.le_refl _) _).alloc (by simp) _
  have hg : ((w.alloc (.cells #[.int .i64 n, .slice a l.length cap] 24)).alloc (.cells #[.int .i64 s] 3)).heap[w.heap.size]? = some (.cells #[.int .i64 n, .slice a l.length cap] 24) := (Below.heap_alloc _ _ _ (by simp)).trans (heap_top w _)
  have hi := one_int (w.alloc (.cells #[.int .i64 n, .slice a l.length cap] 24)) s
  rw [World.size_alloc] at hi
  have HCK := Lib.hid (ncheck_any n a l cap _ [(s : Int)] 1 _ (by omega) (by simp) (hr.on hb0) hi)
  rw [hE] at HCK
  have HG := Lib.hid g
  have HR := Lib.hid hr
  clear g hr hE hi
  go_enter Tryz.func67, Tryz.ntmps67
  go_wp2_with fail
  refine HCK.out.mono ?_
  rintro e w1 ⟨rfl, hb1⟩
  have hg1 := (hb1.block _ (lt_of_block hg)).trans hg
  have b1 : Below w.heap.size w w1 := hb0.trans (hb1.mono hb0.size)
  have s1 := lt_of_block hg1
  clear hg hb0 hb1 HCK
  obtain ⟨⟨g0, g1⟩, -⟩ := two_cells hg1
  go_wp2_with fail
  refine (unreached_any n (by omega) w1).mono ?_
  rintro e w2 ⟨bf, rfl, htf, hbf, hb2⟩
  have G0 := Lib.hid g0
  have G1 := Lib.hid g1
  have g0' := (hb2.cell (p := ⟨w.heap.size, 0, none⟩) s1).trans g0
  have g1' := (hb2.cell (p := ⟨w.heap.size, 1, none⟩) s1).trans g1
  clear g0 g1
  have B1 := Lib.hid b1
  have HT := Lib.hid htf
  have HB2 := Lib.hid hb2
  have HSH := Lib.hid (fun w' => shorter_any ⟨bf, 0, none⟩ n n w')
  have hAR := HR.out.on b1
  have hb3 : Below w1.heap.size w1 (w2.alloc (.cells #[.slice (some ⟨bf, 0, none⟩) n n] 37)) := hb2.alloc hb2.size _
  have HST := Lib.hid (fun (w' : World) (hb : Below (w2.alloc (.cells #[.slice (some ⟨bf, 0, none⟩) n n] 37)).heap.size (w2.alloc (.cells #[.slice (some ⟨bf, 0, none⟩) n n] 37)) w') => start_any (w0 := w1) (w := w') (a := a) (cap := cap) (s := s) (x0 := ()) (awalk58 _) (fun1 n w2.heap.size bf (by have := htf.lt; omega)) HG.out hAR (hb3.trans (hb.mono hb3.size)) hs
    ⟨(hb.block _ (by simp)).trans (heap_top w2 _), (htf.alloc _).same (hb.block _ (htf.alloc _).lt)⟩ (by rintro k (rfl | rfl); exact hb2.size; exact hbf))
  clear htf hb2 hAR hb3
  go_wp2_with fail
  go_region_held3 (fun w' => w'.cell? ⟨w.heap.size, 0, none⟩ = some (.int .i64 n) ∧ w'.cell? ⟨w.heap.size, 1, none⟩ = some (.slice a l.length cap)) (go_keep) (first
    | (go_at_call 105; refine (HSH.out _).mono ?_; rintro e w3 ⟨rfl, rfl⟩)
    | (go_at_call 104; refine (HST.out _ (by first | exact Below.refl _ _ | exact (Below.refl _ _).drew | exact below_drewN _ _ _)).mono ?_; rintro e w4 ⟨f, b1, b2, h, rfl, sy, F, T, x, sg, hiv, hor⟩; have y0 := (sg.below.cell (p := ⟨w.heap.size, 0, none⟩) s1).trans G0.out; have y1 := (sg.below.cell (p := ⟨w.heap.size, 1, none⟩) s1).trans G1.out)
    | (go_at_call 106; refine (goAll_any sy HG.out s (fun _ _ _ => True) (fun _ _ _ _ _ _ _ _ => trivial) (fun _ _ _ _ _ _ _ _ _ _ _ _ _ _ _ _ => trivial) sg ⟨0, Nat.zero_le _, hiv⟩ trivial).mono ?_; rintro e w5 ⟨rfl, F', T', x', sg', ⟨K, hK, hiv'⟩, _, hT⟩; have y2 := (sg'.below.cell (p := ⟨w.heap.size, 0, none⟩) s1).trans G0.out; have y3 := (sg'.below.cell (p := ⟨w.heap.size, 1, none⟩) s1).trans G1.out))
  have HFA := Lib.hid (far_of HG.out hiv' hK hT)
  have HTA := Lib.hid sg'.tab.2
  have HBB := Lib.hid (B1.out.trans (sg'.below.mono B1.out.size))
  have HBF := Lib.hid (Nat.le_trans B1.out.size hbf)
  clear sg sg' hiv hiv' hor hT hK sy y0 y1 y2 y3
  go_wp2_with fail
  go_ret2
  exact ⟨bf, rfl, F', HTA.out, HFA.out.1, HFA.out.2, HBF.out, HBB.out⟩
set_option maxHeartbeats 800000 in
theorem from_no (N : Int) (a : Option Addr) (l : List A) (cap : Nat) (s : Int) (w : World) (hl : l.length ≤ 9223372036854775807) (hE : nearE N l [s] ≠ 0) (hr : Arcs w a l) :
    Calls Tryz.prog 67 #[.agg #[.int .i64 N, .slice a l.length cap], .int .i64 s] w fun e w' => e = .returned (.tuple #[.slice none 0 0, .int .i64 (nearE N l [s])]) ∧ Below w.heap.size w w' := by
  have hb0 : Below w.heap.size w ((w.alloc (.cells #[.int .i64 N, .slice a l.length cap] 24)).alloc (.cells #[.int .i64 s] 3)) := ((Below.refl _ _).alloc (Nat.le_refl _) _).alloc (by simp) _
  have hi := one_int (w.alloc (.cells #[.int .i64 N, .slice a l.length cap] 24)) s
  rw [World.size_alloc] at hi
  have HCK := Lib.hid (ncheck_any N a l cap _ [s] 1 _ hl (by simp) (hr.on hb0) hi)
  have hE' : (nearE N l [s] == 0) = false := beq_eq_false_iff_ne.2 hE
  generalize nearE N l [s] = E at *
  clear hi hE hr
  go_enter Tryz.func67, Tryz.ntmps67
  go_wp2_with fail
  refine HCK.out.mono ?_
  rintro e w1 ⟨rfl, hb1⟩
  have b1 : Below w.heap.size w w1 := hb0.trans (hb1.mono hb0.size)
  go_wp2_with fail
  go_ret2
  exact ⟨rfl, b1⟩
end Go.Proofs.YtpmjbeiclmllmaaGreat.N5
