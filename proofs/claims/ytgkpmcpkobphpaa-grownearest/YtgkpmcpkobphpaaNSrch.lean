/-
  A search as it lies in memory.
-/
import Derived.Test.YtgkpmcpkobphpaaNTabs
import Derived.Test.YtgkpmcpkobphpaaNHNew
namespace Go.Proofs.Ytgkpmcpkobphpaa.N5
open Go.RowKit
open Hp (HR HRto Fr upd upd_self upd_ne TopIs)
/-- The blocks of a search: f itself, the chains b1 and b2, the queue h. -/
structure Sr (w : World) (f : Nat) (a : Option Addr) (cap : Nat) (l : List A) (n b1 b2 h : Nat) (fn : Value) (T : Nat → Option Int) (D : Nat → Prop) : Prop where
  hd : w.heap[f]? = some (.cells #[.slice a l.length cap, .slice (some ⟨b1, 0, none⟩) n n, .slice (some ⟨b2, 0, none⟩) l.length l.length, .pointer (some ⟨h, 0, none⟩), fn] 96 (0, 0))
  t1 : Tb w b1 n 3 .i64 (fun v => lastAt l v l.length)
  t2 : Tb w b2 l.length 3 .i64 (fun j => lastAt l (src (ar l j)) j)
  hp : HR w h n T D
  sep : ∀ k, D k → k ≠ f ∧ k ≠ b1 ∧ k ≠ b2
theorem five_cells {w : World} {g : Nat} {a b c d e : Value} {t : TypeId} (h : w.heap[g]? = some (.cells #[a, b, c, d, e] t)) : (w.cell? ⟨g, 0, none⟩ = some a ∧ w.cell? ⟨g, 1, none⟩ = some b ∧ w.cell? ⟨g, 2, none⟩ = some c ∧ w.cell? ⟨g, 3, none⟩ = some d ∧ w.cell? ⟨g, 4, none⟩ = some e) := by
  simp [World.cell?, h]
theorem wrap_u64 {x : Int} (h : 0 ≤ x) (h2 : x < 18446744073709551616) : IntKind.u64.wrap x = x := by
  have h3 : x % 18446744073709551616 = x := Int.emod_eq_of_lt h h2
  simp [IntKind.wrap, IntKind.bits, IntKind.signed, h3]
theorem one_cell {w : World} {g : Nat} {a : Value} {t : TypeId} (h : w.heap[g]? = some (.cells #[a] t)) : w.cell? ⟨g, 0, none⟩ = some a ∧ w.frozen? ⟨g, 0, none⟩ = false := by
  simp [World.cell?, World.frozen?, h]
/-- shorter's function: the least length told. -/
theorem short_any (w : World) (c bf n v : Nat) (d y : Int) (F : Nat → Int) (hv : v < n) (hc : w.heap[c]? = some (.cells #[.slice (some ⟨bf, 0, none⟩) n n] 43)) (ht : Tb w bf n 47 .u64 F) :
    Calls Try.prog 62 #[.int .i64 v, .int .u64 d, .int .i64 y, .pointer (some ⟨c, 0, none⟩)] w fun e w' => e = .returned (.bool (decide (d < F v))) ∧ w' = if d < F v then w.setCell ⟨bf, v, none⟩ (.int .u64 d) else w := by
  obtain ⟨c0, c1⟩ := one_cell hc
  have d0 := ht.cell hv
  have d1 := ht.free v
  have hv' : (v : Int) < n := by omega
  obtain ⟨q, HQ⟩ := named (F v)
  rw [HQ.out] at d0 ⊢
  by_cases h : d < q
  · have h' : ¬ q ≤ d := by omega
    have HD : Hid (decide (d < q) = true) := by show _ = _; simpa using h
    rw [if_pos h, HD.out]
    go_enter Try.func62, Try.ntmps62
    go_wp2_with fail
    go_ret
    exact ⟨rfl, rfl⟩
  · have h' : q ≤ d := by omega
    have HD : Hid (decide (d < q) = false) := by show _ = _; simpa using h
    rw [if_neg h, HD.out]
    go_enter Try.func62, Try.ntmps62
    go_wp2_with fail
    go_ret
    exact ⟨rfl, rfl⟩
theorem _root_.Go.Proofs.Ytgkpmcpkobphpaa.N5.Hp.HR.lt_n {w : World} {h n : Nat} {T : Nat → Option Int} {D : Nat → Prop} (r : HR w h n T D) {u : Nat} {k : Int} (e : T u = some k) : u < n := by
  obtain ⟨p, v, ms, pl, r, f, rfl⟩ := r
  by_cases hu : u < n
  · exact hu
  · rw [f.out u (by omega)] at e; cases e
/-- The least key. -/
def NearIs (T : Nat → Option Int) (q : Int) : Prop := (∃ u, T u = some q ∧ ∀ y k, T y = some k → q ≤ k) ∨ (q = Inf ∧ ∀ y, T y = none)
set_option maxRecDepth 100000 in
set_option maxHeartbeats 400000 in
theorem nearest_any {w : World} {f h n : Nat} {x0 x1 x2 x4 : Value} {T : Nat → Option Int} {D : Nat → Prop} (hd : w.heap[f]? = some (.cells #[x0, x1, x2, .pointer (some ⟨h, 0, none⟩), x4] 96 (0, 0))) (r : HR w h n T D) :
    Calls Try.prog 63 #[.pointer (some ⟨f, 0, none⟩)] w fun e w' => ∃ q, e = .returned (.int .u64 q) ∧ NearIs T q ∧ Below w.heap.size w w' := by
  have HT := Lib.hid (Hp.Top_any r)
  obtain ⟨c0, c1, c2, c3, c4⟩ := five_cells hd
  go_enter Try.func63, Try.ntmps63
  go_wp2_with fail
  refine HT.out.mono ?_
  rintro e w1 ⟨x, k, er, rfl, ht, hb⟩
  rcases ht with ⟨rfl, h1, h2, h3⟩ | ⟨rfl, rfl, rfl, h1⟩
  · have H3 := Lib.hid h3
    have H1 := Lib.hid h1
    clear h1 h3
    go_wp2_with fail
    go_ret
    exact ⟨k, rfl, Or.inl ⟨x, H1.out, fun y k' e => by rcases H3.out y k' e with e' | e' <;> omega⟩, hb⟩
  · have H1 := Lib.hid h1
    clear h1
    go_wp2_with fail
    go_ret
    exact ⟨Inf, rfl, Or.inr ⟨rfl, H1.out⟩, hb⟩
/-- A search with what is done at the vertices that it reaches: what stands in memory (SS), and what one arrival changes. -/
structure Sys (f n : Nat) (a : Option Addr) (cap : Nat) (l : List A) (b1 b2 h : Nat) (fn : Value) (ok : Nat → Bool) {X : Type} (XR : (Nat → Int) → X → Nat → Int → Int → X → Prop) (SS : World → (Nat → Int) → (Nat → Option Int) → X → Prop) : Prop where
  hd : ∀ {w F T x}, SS w F T x → w.heap[f]? = some (.cells #[.slice a l.length cap, .slice (some ⟨b1, 0, none⟩) n n, .slice (some ⟨b2, 0, none⟩) l.length l.length, .pointer (some ⟨h, 0, none⟩), fn] 96 (0, 0))
  t1 : ∀ {w F T x}, SS w F T x → Tb w b1 n 3 .i64 (fun v => lastAt l v l.length)
  t2 : ∀ {w F T x}, SS w F T x → Tb w b2 l.length 3 .i64 (fun j => lastAt l (src (ar l j)) j)
  arcs : ∀ {w F T x}, SS w F T x → Arcs w a l
  heap : ∀ {w F T x}, SS w F T x → ∃ D, HR w h n T D ∧ ∀ w' T', HRto w w' h n T' D → SS w' F T' x
  on : ∀ {w w' F T x}, SS w F T x → Below w.heap.size w w' → SS w' F T x
  arr : ∀ {w w0 F T x} {v : Nat} {d y : Int}, SS w0 F T x → Below w0.heap.size w0 w → v < n → 0 ≤ d → d ≤ Inf → (∀ k, T v = some k → k = F v) →
    Calls Try.prog 61 #[.pointer (some ⟨f, 0, none⟩), .int .i64 v, .int .u64 d, .int .i64 y] w fun e w' => e = .returned (.tuple #[]) ∧
      (ok v = true ∧ d < F v ∧ (∃ x', SS w' (updI F v d) (upd T v (some d)) x' ∧ XR F x v d y x') ∨ ¬ (ok v = true ∧ d < F v) ∧ SS w' F T x) ∧ ∀ k, w0.heap.size ≤ k → k < w.heap.size → w'.heap[k]? = w.heap[k]?
set_option maxRecDepth 100000 in
set_option maxHeartbeats 1600000 in
theorem step_any {f n : Nat} {a : Option Addr} {cap : Nat} {l : List A} {b1 b2 h : Nat} {fn : Value} {ok : Nat → Bool} {X : Type} {XR : (Nat → Int) → X → Nat → Int → Int → X → Prop} {SS : World → (Nat → Int) → (Nat → Option Int) → X → Prop} (sy : Sys f n a cap l b1 b2 h fn ok XR SS) (g : RG n l) (s : Nat)
    (J : (Nat → Int) → (Nat → Option Int) → X → Prop) (jp : ∀ F T x v d, J F T x → T v = some d → F v < Inf → J F (upd T v none) x)
    (jt : ∀ F T x x' K v d k j, Mid l ok s F T K v d k → j < l.length → src (ar l j) = v → ok (dst (ar l j)) = true → sat d (ar l j).w < F (dst (ar l j)) → J F T x → XR F x (dst (ar l j)) (sat d (ar l j).w) j x' → J (updI F (dst (ar l j)) (sat d (ar l j).w)) (upd T (dst (ar l j)) (some (sat d (ar l j).w))) x')
    {w : World} {F : Nat → Int} {T : Nat → Option Int} {x : X} {K : Nat} (hs : SS w F T x) (hi : Inv l ok s F T K (fun _ => False)) (hj : J F T x) (hne : ∃ u k, T u = some k) :
    Calls Try.prog 64 #[.pointer (some ⟨f, 0, none⟩)] w fun e w' => e = .returned (.tuple #[]) ∧ ∃ F' T' x', SS w' F' T' x' ∧ Inv l ok s F' T' (K + 1) (fun _ => False) ∧ J F' T' x' ∧ dn F' T' n = dn F T n + 1 := by
  obtain ⟨D, hp, hh⟩ := sy.heap hs
  have HP := Lib.hid (Hp.Pop_any hp)
  obtain ⟨c0, c1, c2, c3, c4⟩ := five_cells (sy.hd hs)
  have hnb := g.nb
  have hlb := g.lb
  obtain ⟨m0, HM0⟩ := named (dn F T n + 1)
  rw [HM0.out]
  have HJP := Lib.hid jp
  have HJT := Lib.hid jt
  clear jp jt
  go_enter Try.func64, Try.ntmps64
  go_wp2_with fail
  refine HP.out.mono ?_
  rintro e w1 ⟨v, d, er, rfl, ht, hto⟩
  rcases ht with ⟨rfl, h1, h2, h3⟩ | ⟨rfl, rfl, rfl, h1⟩
  · rw [if_pos rfl] at hto
    have hs1 := hh w1 _ hto
    have hmid := hi.pop h1 (fun y k e => by rcases h3 y k e with e' | e' <;> omega) l.length (Nat.le_refl _)
    have hj1 := HJP.out F T x v d hj h1 (by rw [hmid.fv]; exact hmid.di)
    have hdn := dn_pop (F := F) n h2 h1 (by rw [hmid.fv]; exact hmid.di)
    have hd0 : 0 ≤ d ∧ d ≤ Inf := ⟨by rw [← hmid.fv]; exact hi.lo v, by have := hmid.di; omega⟩
    rw [HM0.out] at hdn
    have HD := Lib.hid hd0
    clear hto hh HP hp hs hi hj hne h1 h3 c0 c1 c2 c3 c4 hd0
    obtain ⟨c0, c1, c2, c3, c4⟩ := five_cells (sy.hd hs1)
    have e1 := (sy.t1 hs1).cell h2
    have h2' : (v : Int) < n := by omega
    go_wp2_with fail
    go_loopg [5] l.length (fun k i wr => ∃ (F1 : Nat → Int) (T1 : Nat → Option Int) (x1 : X), k ≤ l.length ∧ i = .int .i64 (lastAt l v k) ∧ SS wr F1 T1 x1 ∧ Hid (Mid l ok s F1 T1 K v d k) ∧ Hid (J F1 T1 x1) ∧ Hid (dn F1 T1 n = m0))
    case atStart => exact ⟨F, _, x, Nat.le_refl _, rfl, hs1, hmid, hj1, hdn⟩
    case round =>
      obtain ⟨F1, T1, x1, hk, rfl, hs2, hm2, hj2, hd2⟩ := hrel
      clear c0 c1 c2 c3 c4 e1 hs1 hmid hj1 hdn
      obtain ⟨c0, c1, c2, c3, c4⟩ := five_cells (sy.hd hs2)
      by_cases hl : lastAt l v gk = -1
      · have hl' : (lastAt l v gk == -1) = true := by simp [hl]
        have HN := Lib.hid (lastAt_none hl)
        rw [hl] at *
        clear hl
        go_wp2_with fail
        go_end0
        exact ⟨rfl, F1, T1, x1, hs2, hm2.out.done HN.out, hj2.out, hd2.out⟩
      · obtain ⟨j, hj1, hj3, hj4, hj5⟩ := lastAt_some hl
        have HL5 := Lib.hid hj5
        have HL4 := Lib.hid hj4
        rw [hj1] at *
        have hjl : j < l.length := by omega
        have hjl' : (j : Int) < l.length := by omega
        have hjn : ((j : Int) == -1) = false := by simp
        have e2 := (sy.t2 hs2).cell hjl
        rw [hj4] at e2
        obtain ⟨b, o, hab⟩ := (sy.arcs hs2).b.get
        obtain ⟨rfl, hbl, hat⟩ := hab (by omega)
        obtain ⟨q0, q1, q2⟩ := hat j hjl
        have hmem := ar_mem hjl
        have hx := g.ends _ hmem
        have hw := g.wt _ hmem
        have hte := g.t_eq hmem
        have htl := g.dst_lt hmem
        clear hj4 hj5 hj1 hl hat hab
        have HME := Lib.hid hmem
        obtain ⟨xa, HXA⟩ := named (ar l j)
        have q0' : wr.cell? ⟨b, o + j * 3, none⟩ = some (.int .i64 (ar l j).f) := q0
        have q1' : wr.cell? ⟨b, o + j * 3 + 1, none⟩ = some (.int .i64 (ar l j).t) := q1
        have q2' : wr.cell? ⟨b, o + j * 3 + 2, none⟩ = some (.int .u32 (ar l j).w) := q2
        rw [hte] at q1'
        clear q0 q1 q2
        rw [HXA.out] at q0' q1' q2' hx hw hte htl
        go_wp2_with fail
        have hsa := (Below.refl wr.heap.size wr).alloc (Nat.le_refl _) (.cells #[.int .i64 xa.f, .int .i64 (dst xa), .int .u32 xa.w] 42)
        have HSZ : Hid (wr.heap.size < (wr.alloc (.cells #[.int .i64 xa.f, .int .i64 (dst xa), .int .u32 xa.w] 42)).heap.size) := by show _ < _; simp
        have hb57 := heap_top wr (.cells #[.int .i64 xa.f, .int .i64 (dst xa), .int .u32 xa.w] 42)
        obtain ⟨z0, z1, z2⟩ := three_cells hb57
        clear hb57 q0' q1' q2' c0 c1 c2 c3 c4 e2
        generalize wr.alloc (.cells #[.int .i64 xa.f, .int .i64 (dst xa), .int .u32 xa.w] 42) = W at *
        have hwi : 0 ≤ xa.w ∧ xa.w ≤ Inf := ⟨hw.1, by unfold Inf; omega⟩
        have HADD := Lib.hid (fun w' : World => add_any d xa.w HD.out hwi w')
        have hsl : 0 ≤ sat d xa.w := sat_ge (by have := HD.out.1; omega) (by unfold Inf; omega)
        have HARR := Lib.hid (fun (w' : World) (hb : Below W.heap.size W w') => sy.arr (y := j) hs2 (hsa.trans (hb.mono hsa.size)) htl hsl (sat_inf _ _) (fun k e => (hm2.out.inv.key _ k e).1))
        clear hwi hsl hsa hte hx
        have Z1 := Lib.hid z1
        have Z2 := Lib.hid z2
        have HTL := Lib.hid htl
        obtain ⟨hw0, hw1⟩ := hw
        have HW : IntKind.u64.wrap xa.w = xa.w := wrap_u64 hw0 (by omega)
        clear htl
        obtain ⟨sd, HSD⟩ := named (sat d xa.w)
        rw [HSD.out] at HADD HARR
        go_region_held3 (fun w' => w'.cell? ⟨wr.heap.size, 1, none⟩ = some (.int .i64 (dst xa)) ∧ w'.cell? ⟨wr.heap.size, 2, none⟩ = some (.int .u32 xa.w)) (go_keep) (first | (go_at_call 74; refine (HADD.out _).mono ?_; rintro e w' ⟨rfl, rfl⟩) | (go_at_call 61; refine (HARR.out _ (by first | exact Below.refl _ _ | exact (Below.refl _ _).drew | exact below_drewN _ _ _)).mono ?_; rintro e w3 ⟨rfl, hor, hfr⟩; have y1 : w3.cell? ⟨wr.heap.size, 1, none⟩ = some (.int .i64 (dst xa)) := (World.cell?_of_block (hfr _ (Nat.le_refl _) HSZ.out)).trans Z1.out; have y2 : w3.cell? ⟨wr.heap.size, 2, none⟩ = some (.int .u32 xa.w) := (World.cell?_of_block (hfr _ (Nat.le_refl _) HSZ.out)).trans Z2.out))
        have e9 : lastAt l (src (ar l j)) j = lastAt l v j := by rw [HL4.out]
        have hdst : dst (ar l j) = dst xa := by rw [HXA.out]
        have hsat : sat d (ar l j).w = sd := by rw [HXA.out, HSD.out]
        rcases hor with ⟨ho, hlt, x2, hs3, hxr⟩ | ⟨hno, hs3⟩
        · have HMID := Lib.hid (hm2.out.take g.wt hjl HL4.out HL5.out (by rw [hdst]; exact ho) (by rw [hdst, hsat]; exact hlt))
          have HJ3 := Lib.hid (HJT.out F1 T1 x1 x2 K v d gk j hm2.out hjl HL4.out (by rw [hdst]; exact ho) (by rw [hdst, hsat]; exact hlt) hj2.out (by rw [hdst, hsat]; exact hxr))
          rw [hdst, hsat] at HMID HJ3
          have HDN : Hid (dn (updI F1 (dst xa) sd) (upd T1 (dst xa) (some sd)) n = m0) := by
            show _ = _
            rw [← hd2.out]
            refine dn_congr n (fun u hu => ?_)
            by_cases e : u = dst xa
            · subst e
              rw [upd_self]
              refine ⟨fun h => (by cases h.2), fun h => ?_⟩
              have := hm2.out.top _ h.1 h.2
              have h8 := hm2.out.inv.lo (dst xa)
              have h9 : d ≤ sd := by rw [← HSD.out]; exact sat_ge (by omega) HD.out.2
              omega
            · rw [updI_ne _ _ e, upd_ne _ _ e]
          obtain ⟨c0, c1, c2, c3, c4⟩ := five_cells (sy.hd hs3)
          have e2 := (sy.t2 hs3).cell hjl
          rw [e9] at e2
          have HRE := Lib.hid hxr
          clear hxr hlt ho hdst hsat e9 y1 y2 hfr z0 z1 z2
          go_wp2_with fail
          go_roundg j
          case measure => omega
          case rel => exact ⟨_, _, x2, by omega, rfl, hs3, HMID, HJ3, HDN⟩
        · have HMID := Lib.hid (hm2.out.skip hjl HL4.out HL5.out (by rw [hdst, hsat]; exact hno))
          obtain ⟨c0, c1, c2, c3, c4⟩ := five_cells (sy.hd hs3)
          have e2 := (sy.t2 hs3).cell hjl
          rw [e9] at e2
          clear hno hdst hsat e9 y1 y2 hfr z0 z1 z2
          go_wp2_with fail
          go_roundg j
          case measure => omega
          case rel => exact ⟨F1, T1, x1, by omega, rfl, hs3, HMID, hj2, hd2⟩
  · exact absurd hne (by rintro ⟨u, k, e⟩; rw [h1 u] at e; cases e)
set_option maxRecDepth 100000 in
set_option maxHeartbeats 800000 in
theorem goAll_any {f n : Nat} {a : Option Addr} {cap : Nat} {l : List A} {b1 b2 h : Nat} {fn : Value} {ok : Nat → Bool} {X : Type} {XR : (Nat → Int) → X → Nat → Int → Int → X → Prop} {SS : World → (Nat → Int) → (Nat → Option Int) → X → Prop} (sy : Sys f n a cap l b1 b2 h fn ok XR SS) (g : RG n l) (s : Nat)
    (J : (Nat → Int) → (Nat → Option Int) → X → Prop) (jp : ∀ F T x v d, J F T x → T v = some d → F v < Inf → J F (upd T v none) x)
    (jt : ∀ F T x x' K v d k j, Mid l ok s F T K v d k → j < l.length → src (ar l j) = v → ok (dst (ar l j)) = true → sat d (ar l j).w < F (dst (ar l j)) → J F T x → XR F x (dst (ar l j)) (sat d (ar l j).w) j x' → J (updI F (dst (ar l j)) (sat d (ar l j).w)) (upd T (dst (ar l j)) (some (sat d (ar l j).w))) x')
    {w : World} {F : Nat → Int} {T : Nat → Option Int} {x : X} (hs : SS w F T x) (hi : ∃ K, K ≤ dn F T n ∧ Inv l ok s F T K (fun _ => False)) (hj : J F T x) :
    Calls Try.prog 42 #[.pointer (some ⟨f, 0, none⟩)] w fun e w' => e = .returned (.tuple #[]) ∧ ∃ F' T' x', SS w' F' T' x' ∧ (∃ K, K ≤ dn F' T' n ∧ Inv l ok s F' T' K (fun _ => False)) ∧ J F' T' x' ∧ ∀ u, T' u = none := by
  have HST := Lib.hid (fun w F T x K hs hi hj hne => step_any sy g s J jp jt (w := w) (F := F) (T := T) (x := x) (K := K) hs hi hj hne)
  clear jp jt
  go_enter Try.func42, Try.ntmps42
  go_wp2_with fail
  go_loopg [3] (n - dn F T n) (fun k i wr => ∃ (F1 : Nat → Int) (T1 : Nat → Option Int) (x1 : X), SS wr F1 T1 x1 ∧ Hid (k = n - dn F1 T1 n) ∧ Hid (∃ K, K ≤ dn F1 T1 n ∧ Inv l ok s F1 T1 K (fun _ => False)) ∧ Hid (J F1 T1 x1))
  case atStart => exact ⟨F, T, x, hs, rfl, hi, hj⟩
  case round =>
    obtain ⟨F1, T1, x1, hs1, hk1, hi1, hj1⟩ := hrel
    obtain ⟨D, hp, hh⟩ := sy.heap hs1
    go_wp2_with fail
    refine (nearest_any (sy.hd hs1) hp).mono ?_
    rintro e w1 ⟨q, rfl, hq, hb⟩
    have hs2 := sy.on hs1 hb
    rcases hq with ⟨u, h1, h2⟩ | ⟨rfl, h1⟩
    · obtain ⟨K, hK, hiv⟩ := hi1.out
      obtain ⟨hq1, hq2⟩ := hiv.key u q h1
      have hq : q < 18446744073709551615 := by unfold Inf at hq2; omega
      have HSP := Lib.hid (HST.out w1 F1 T1 x1 K hs2 hiv hj1.out ⟨u, q, h1⟩)
      have HN : Hid (dn F1 T1 n + 1 ≤ n) := by
        have h5 := Hp.HR.lt_n hp h1
        have h6 := dn_pop (F := F1) n h5 h1 hq2
        have := dn_le F1 (upd T1 u none) n
        show _ ≤ _
        omega
      have HK := Lib.hid hK
      clear hh hp hs1 hb hq1 hq2 h1 h2 hiv hK
      go_wp2_with fail
      refine HSP.out.mono ?_
      rintro e w2 ⟨rfl, F2, T2, x2, hs3, hi3, hj3, hd3⟩
      have HD3 := Lib.hid hd3
      have HI3 := Lib.hid hi3
      have HJ3 := Lib.hid hj3
      clear hd3 hi3 hj3
      go_wp2_with fail
      go_roundg (n - dn F2 T2 n)
      case measure => have := HD3.out; have := HN.out; have := hk1.out; omega
      case rel => exact ⟨F2, T2, x2, hs3, rfl, ⟨K + 1, by have := HD3.out; have := HK.out; omega, HI3.out⟩, HJ3⟩
    · have H1 := Lib.hid h1
      clear h1 hh hp hs1 hb
      unfold Inf
      go_wp2_with fail
      go_end0
      exact ⟨rfl, F1, T1, x1, hs2, hi1.out, hj1.out, H1.out⟩
end Go.Proofs.Ytgkpmcpkobphpaa.N5
