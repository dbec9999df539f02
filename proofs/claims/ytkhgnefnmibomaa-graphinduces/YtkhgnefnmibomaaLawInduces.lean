/-
  The law GraphInduces: the graph of some vertices, and what these and its arcs are, is as the reference has it.
-/
import Derived.Test.YtkhgnefnmibomaaRInduced
import Derived.Test.YtkhgnefnmibomaaSpoil2
import Derived.Test.YtkhgnefnmibomaaLend
import Derived.Test.YtkhgnefnmibomaaWorks
import Derived.Test.YtkhgnefnmibomaaSame
namespace Go.Proofs.Ytkhgnefnmibomaa
open Go.RowKit
theorem Rd.of {g : Nat} {w w' : World} (h : Below w.heap.size w w') : Rd g w w' := ⟨h.os, h.tape, h.output, h.size, fun k hk _ => h.block k hk⟩
set_option maxHeartbeats 800000 in
theorem spoilGraph_rd (N : Int) (g n m B : Nat) (xs : List Value) (w : World) (hn : n ≤ 9223372036854775807) (hown : w.ownsRow B 53 3 (.slice (some ⟨g, 0, none⟩) n n) n xs) :
    Calls Try.prog 31 #[.agg #[.int .i64 N, .slice (some ⟨g, 0, none⟩) m n]] w fun e w' => e = .returned (.tuple #[]) ∧ Rd g w w' := by
  have hgs : g < w.heap.size := (hown.lt g rfl).2
  have hb0 : Rd g w (w.alloc (.cells #[.int .i64 N, .slice (some ⟨g, 0, none⟩) m n] 24)) := Rd.of ((Below.refl _ _).alloc (Nat.le_refl _) _)
  have hown0 := hown.alloc (.cells #[.int .i64 N, .slice (some ⟨g, 0, none⟩) m n] 24)
  go_enter Try.func31, Try.ntmps31
  go_wp2_with fail
  go_loopw [3] (fun i wr => ∃ (k : Nat) (xs : List Value), k ≤ n ∧ i = .int .i64 k ∧ wr.ownsRow B 53 3 (.slice (some ⟨g, 0, none⟩) n n) n xs ∧ Rd g w wr) (fun i _ => n - (intOf i).toNat)
  case atStart => exact ⟨0, xs, Nat.zero_le _, rfl, hown0, hb0⟩
  case round =>
    obtain ⟨k, ys, hk, rfl, ho, hbel⟩ := hrel
    by_cases hlt : k < n
    · have hyl : k * 3 + 2 < ys.length := by have := ho.1; omega
      have c0 : wr.cell? ⟨g, k * 3, none⟩ = some (ys[k * 3]'(by omega)) := (ho.cellAt (k * 3) (by omega)).trans (List.getElem?_eq_getElem (by omega))
      have c1 : wr.cell? ⟨g, k * 3 + 1, none⟩ = some (ys[k * 3 + 1]'(by omega)) := (ho.cellAt (k * 3 + 1) (by omega)).trans (List.getElem?_eq_getElem (by omega))
      have c2 : wr.cell? ⟨g, k * 3 + 2, none⟩ = some (ys[k * 3 + 2]'(by omega)) := (ho.cellAt (k * 3 + 2) (by omega)).trans (List.getElem?_eq_getElem (by omega))
      have f0 : wr.frozen? ⟨g, k * 3, none⟩ = false := ho.frozenAt _
      have f1 : wr.frozen? ⟨g, k * 3 + 1, none⟩ = false := ho.frozenAt _
      have f2 : wr.frozen? ⟨g, k * 3 + 2, none⟩ = false := ho.frozenAt _
      have HS := Lib.hid (((ho.stored (k * 3) (.int .i64 (-3))).1.stored (k * 3 + 1) (.int .i64 (-4))).1.stored (k * 3 + 2) (.int .u32 5))
      generalize ys[k * 3]'(by omega) = y0 at c0
      generalize ys[k * 3 + 1]'(by omega) = y1 at c1
      generalize ys[k * 3 + 2]'(by omega) = y2 at c2
      go_wp2_with fail
      exact ⟨⟨k + 1, _, by omega, by go_num, HS.out.1, hbel.trans ((Rd.set _ _ _).trans ((Rd.set _ _ _).trans (Rd.set _ _ _)))⟩, by simp [intOf]; omega⟩
    · go_wp2_with fail
      go_end0
      exact ⟨rfl, hbel⟩
/-- What spoiling leaves: all below B, what is of another type, and what lies from U on. -/
def Spoilt (e' : TypeId) (B U : Nat) (w w' : World) : Prop := Below B w w' ∧ (∀ (k : Nat) (o : Obj), w.heap[k]? = some o → (∀ cur, o ≠ Obj.cells cur e' (0, 0)) → w'.heap[k]? = some o) ∧ ∀ k, U ≤ k → k < w.heap.size → w'.heap[k]? = w.heap[k]?
theorem spoilGraph_fin (N : Int) (a : Option Addr) (c B U : Nat) (l : List A) (w : World) (hown : OwnA w B a c l) (hB : B ≤ w.heap.size) (hU : ∀ g, a = some ⟨g, 0, none⟩ → g < U) :
    Calls Try.prog 31 #[.agg #[.int .i64 N, .slice a l.length c]] w fun e w' => e = .returned (.tuple #[]) ∧ Spoilt 53 B U w w' := by
  rcases hown.2 with ⟨h', h0⟩ | ⟨g, c', cur, h', hb, hg, hnc, hm, _⟩
  · injection h' with e1 e2 e3
    subst e1 e3
    rw [h0]
    refine (spoilGraph_none N w).mono ?_
    rintro e w' ⟨rfl, hb⟩
    exact ⟨rfl, hb.mono hB, fun k o ho _ => (hb.block k (lt_of_block ho)).trans ho, fun k _ hk => hb.block k hk⟩
  · injection h' with e1 e2 e3
    subst e1 e3
    obtain ⟨ys, hy⟩ := own_wide hown
    refine (spoilGraph_rd N g c l.length B ys w (by unfold maxLen at hm; omega) hy).mono ?_
    rintro e w' ⟨rfl, hr⟩
    have hgU := hU g rfl
    refine ⟨rfl, hr.below (Below.refl _ _) hb hB, fun k o ho ht => ?_, fun k h1 h2 => hr.block k h2 (by omega)⟩
    refine (hr.block k (lt_of_block ho) ?_).trans ho
    intro e
    subst e
    rw [hg] at ho
    exact ht cur (Option.some.inj ho).symm
theorem not53 {c : Array Value} : ∀ cur, Obj.cells c 24 (0, 0) ≠ .cells cur 53 (0, 0) := by
  intro cur e
  injection e with e1 e2 e3
  cases e2
theorem OwnA.lt {w : World} {B : Nat} {a : Option Addr} {c : Nat} {l : List A} (h : OwnA w B a c l) : ∀ g, a = .some ⟨g, 0, none⟩ → g < w.heap.size := by
  intro g e
  subst e
  exact (World.ownsRow.lt h g rfl).2
theorem OwnA.spoilt {w w' : World} {B B' U : Nat} {a : Option Addr} {c : Nat} {l : List A} (h : OwnA w B a c l) (hs : Spoilt 53 B' U w w') (hU : U ≤ B) : OwnA w' B a c l := own_keep h (fun k h1 h2 _ => hs.2.2 k (by omega) h2)

def inN (N : Int) (l : List A) (q : List Bool) : Int := if indE N l q = 0 then ((hits (mk q) q.length).length : Nat) else 0
def inZ (N : Int) (l : List A) (q : List Bool) : List A := if indE N l q = 0 then indA (mk q) l else []
def inV (N : Int) (l : List A) (q : List Bool) : List Int := if indE N l q = 0 then hits (mk q) q.length else []
def inI (N : Int) (l : List A) (q : List Bool) : List Int := if indE N l q = 0 then indI (mk q) l else []
theorem indE_zero {N : Int} {l : List A} {q : List Bool} (h : indE N l q = 0) : chkE N l = 0 ∧ (q.length : Int) = N ∧ hits (mk q) q.length ≠ [] := by
  unfold indE at h
  split at h
  · rename_i hc
    split at h
    · rename_i hq
      split at h
      · cases h
      · rename_i hh
        exact ⟨hc, hq, hh⟩
    · cases h
  · rename_i hc
    exact absurd h hc
theorem induced_all (N : Int) (a : Option Addr) (l : List A) (cap : Nat) (a' : Option Addr) (q : List Bool) (cap' : Nat) (w : World) (hl : l.length ≤ 9223372036854775807) (hr : Arcs w a l) (hr' : Bools (· < w.heap.size) w a' q) :
    Calls Try.prog 32 #[.agg #[.int .i64 N, .slice a l.length cap], .slice a' q.length cap'] w fun e w' => ∃ ah ch av cv ai ci, e = .returned (.tuple #[.agg #[.int .i64 (inN N l q), .slice ah (inZ N l q).length ch], .slice av (inV N l q).length cv, .slice ai (inI N l q).length ci, .int .i64 (indE N l q)]) ∧
      OwnA w' w.heap.size ah ch (inZ N l q) ∧ OwnI w' w.heap.size av cv (inV N l q) ∧ OwnI w' w.heap.size ai ci (inI N l q) ∧ Below w.heap.size w w' := by
  by_cases hE : indE N l q = 0
  · obtain ⟨hc, hq, hh⟩ := indE_zero hE
    subst hq
    rw [show inN q.length l q = ((hits (mk q) q.length).length : Nat) by simp [inN, hE], show inZ q.length l q = indA (mk q) l by simp [inZ, hE], show inV q.length l q = hits (mk q) q.length by simp [inV, hE], show inI q.length l q = indI (mk q) l by simp [inI, hE], hE]
    refine (induced_ok q.length a l cap a' q cap' w hc rfl hh hr hr').mono ?_
    rintro e w' ⟨ah, ch, av, cv, ai, ci, rfl, h1, _, h2, h3, h4⟩
    exact ⟨ah, ch, av, cv, ai, ci, rfl, h1, h2, h3, h4⟩
  · rw [show inN N l q = 0 by simp [inN, hE], show inZ N l q = [] by simp [inZ, hE], show inV N l q = [] by simp [inV, hE], show inI N l q = [] by simp [inI, hE]]
    refine (induced_no N a l cap a' q cap' w hl hr hr' hE).mono ?_
    rintro e w' ⟨rfl, h4⟩
    exact ⟨none, 0, none, 0, none, 0, rfl, World.ownsRow_nil _ _ _ _, World.ownsRow_nil _ _ _ _, World.ownsRow_nil _ _ _ _, h4⟩
theorem rinduced_all (N : Int) (a : Option Addr) (l : List A) (cap : Nat) (a' : Option Addr) (q : List Bool) (cap' : Nat) (w : World) (hl : l.length ≤ 9223372036854775807) (hql : q.length ≤ 9223372036854775807) (hr : Arcs w a l) (hr' : Bools (· < w.heap.size) w a' q) :
    Calls Try.prog 33 #[.agg #[.int .i64 N, .slice a l.length cap], .slice a' q.length cap'] w fun e w' => RInd w w' e (inN N l q) (inZ N l q) (inV N l q) (inI N l q) (indE N l q) := by
  by_cases hE : indE N l q = 0
  · obtain ⟨hc, hq, hh⟩ := indE_zero hE
    subst hq
    rw [show inN q.length l q = ((hits (mk q) q.length).length : Nat) by simp [inN, hE], show inZ q.length l q = indA (mk q) l by simp [inZ, hE], show inV q.length l q = hits (mk q) q.length by simp [inV, hE], show inI q.length l q = indI (mk q) l by simp [inI, hE], hE]
    exact rinduced_ok q.length a l cap a' q cap' w hc rfl hh hr hr'
  · rw [show inN N l q = 0 by simp [inN, hE], show inZ N l q = [] by simp [inZ, hE], show inV N l q = [] by simp [inV, hE], show inI N l q = [] by simp [inI, hE]]
    exact rinduced_no N a l cap a' q cap' w hl hql hr hr' hE
theorem inZ_len (N : Int) (l : List A) (q : List Bool) : (inZ N l q).length ≤ l.length := by
  unfold inZ
  split
  · rw [indA_len]; exact hits_len _ _
  · simp
theorem inV_len (N : Int) (l : List A) (q : List Bool) : (inV N l q).length ≤ q.length := by
  unfold inV
  split
  · exact hits_len _ _
  · simp
theorem inI_len (N : Int) (l : List A) (q : List Bool) : (inI N l q).length ≤ l.length := by
  unfold inI
  split
  · exact hits_len _ _
  · simp
theorem OwnI.on {w w' : World} {B : Nat} {a : Option Addr} {c : Nat} {xs : List Int} (h : OwnI w B a c xs) (hb : Below w.heap.size w w') : OwnI w' B a c xs := own_keep h (fun k _ h2 _ => hb.block k h2)
theorem not53i {c : Array Value} : ∀ cur, Obj.cells c 3 (0, 0) ≠ .cells cur 53 (0, 0) := by
  intro cur e
  injection e with e1 e2 e3
  cases e2
theorem OwnI.spoilt {w w' : World} {B B' U : Nat} {a : Option Addr} {c : Nat} {xs : List Int} (h : OwnI w B a c xs) (hs : Spoilt 53 B' U w w') : OwnI w' B a c xs := by
  refine ⟨h.1, ?_⟩
  rcases h.2 with h' | ⟨g, c', cur, h1, h2, h3, h4⟩
  · exact Or.inl h'
  · exact Or.inr ⟨g, c', cur, h1, h2, hs.2.1 g _ h3 not53i, h4⟩
set_option maxHeartbeats 3200000 in
set_option maxRecDepth 100000 in
theorem law_induces (N : Int) (a : Option Addr) (l : List A) (cap : Nat) (a1 : Option Addr) (q : List Bool) (cap1 : Nat) (w : World) (hlen : l.length * 24 ≤ 140737488351232) (hn : a = none → l = [] ∧ cap = 0) (hr : Arcs w a l) (hql : q.length ≤ 140737488351232) (hn1 : a1 = none → q = [] ∧ cap1 = 0) (hk : Bools (· < w.heap.size) w a1 q) :
    Calls Try.prog 5 #[.agg #[.int .i64 N, .slice a l.length cap], .slice a1 q.length cap1] w fun e w' => e = .returned (.bool true) ∧ Below w.heap.size w w' := by
  have hl : l.length ≤ 9223372036854775807 := by omega
  have hq' : q.length ≤ 9223372036854775807 := by omega
  have hb0 : Below w.heap.size w (w.alloc (.cells #[.int .i64 N, .slice a l.length cap] 24)) := (Below.refl _ _).alloc (Nat.le_refl _) _
  have HN := Lib.hid hn
  have HN1 := Lib.hid hn1
  clear hn hn1
  have hG := heap_top w (.cells #[.int .i64 N, .slice a l.length cap] 24)
  have hr0 := hr.on hb0
  have hlZ := inZ_len N l q
  have hlV := inV_len N l q
  have hlI := inI_len N l q
  go_enter Try.func5, Try.ntmps5
  go_wp2_with fail
  refine (lend_any N a l cap _ hlen HN.out hr0).mono ?_
  rintro e w1 ⟨g0, c0, rfl, hc0, hcm0, hown0, hb1⟩
  have hS := still_own hown0
  have hG1 := (hb1.block _ (by simp)).trans hG
  have b1 := bthen hb0 hb1 (by simp)
  have sG := lt_of_block hG1
  clear hown0 hb1 hb0 hr0 hG
  have hbI := (Below.refl w1.heap.size w1).alloc (Nat.le_refl _) (.cells #[.int .i64 N, .slice (some ⟨g0, 0, none⟩) l.length c0] 24)
  have hI := heap_top w1 (.cells #[.int .i64 N, .slice (some ⟨g0, 0, none⟩) l.length c0] 24)
  have hGW := (hbI.block _ sG).trans hG1
  have hSW := hS.on hbI
  have bW := bthen b1 hbI b1.size
  have sw1 : w.heap.size ≤ w1.heap.size := b1.size
  have sw2 : w1.heap.size < (w1.alloc (.cells #[.int .i64 N, .slice (some ⟨g0, 0, none⟩) l.length c0] 24)).heap.size := by simp
  clear hbI hS b1 hG1
  have hbE := (Below.refl (w1.alloc (.cells #[.int .i64 N, .slice (some ⟨g0, 0, none⟩) l.length c0] 24)).heap.size (w1.alloc (.cells #[.int .i64 N, .slice (some ⟨g0, 0, none⟩) l.length c0] 24))).alloc (Nat.le_refl _) (.cells #[] 4)
  have HK1 := Lib.hid (hk.imp (Q := (· < ((w1.alloc (.cells #[.int .i64 N, .slice (some ⟨g0, 0, none⟩) l.length c0] 24)).alloc (.cells #[] 4)).heap.size)) (w' := (w1.alloc (.cells #[.int .i64 N, .slice (some ⟨g0, 0, none⟩) l.length c0] 24)).alloc (.cells #[] 4)) (fun b h => by have := bW.size; simp; omega) (fun b h => (hbE.block b (by have := bW.size; omega)).trans (bW.block b h)))
  have HOE := Lib.hid (World.ownsRow_lit (base := (w1.alloc (.cells #[.int .i64 N, .slice (some ⟨g0, 0, none⟩) l.length c0] 24)).heap.size) (e := 4) (size := 1) (w1.alloc (.cells #[.int .i64 N, .slice (some ⟨g0, 0, none⟩) l.length c0] 24)) #[] 0 (Nat.le_refl _) (by decide) rfl)
  have hsE : (w1.alloc (.cells #[.int .i64 N, .slice (some ⟨g0, 0, none⟩) l.length c0] 24)).heap.size = w1.heap.size + 1 := by simp
  rw [hsE] at HOE
  go_wp2_with (at_builtin; refine wpList_bools rfl (.tmp 17) (.tmp 18) rfl (w1.heap.size + 1) (w1.heap.size + 1) rfl HOE.out a1 q cap1 rfl HN1.out HK1.out (by omega) (by simp) ?_; intro g1 c1 w2 hown1 hb2; have hbE2 : Below (w1.alloc (.cells #[.int .i64 N, .slice (some ⟨g0, 0, none⟩) l.length c0] 24)).heap.size (w1.alloc (.cells #[.int .i64 N, .slice (some ⟨g0, 0, none⟩) l.length c0] 24)) w2 := hbE.trans (by rw [hsE]; exact hb2); have hI2 := (hbE2.block _ (lt_of_block hI)).trans hI; obtain ⟨⟨x0, x1⟩, _, _⟩ := two_cells hI2)
  have hG2 := (hbE2.block _ (lt_of_block hGW)).trans hGW
  have hS2 := hSW.on hbE2
  have b2 := bthen bW hbE2 bW.size
  have hO2 := bools_own hown1
  have sO := (hown1.lt g1 rfl).2
  have s2 : w1.heap.size + 1 ≤ w2.heap.size := by have := hbE2.size; omega
  clear hbE HK1 HOE hb2 hown1 hbE2 hI hGW hSW bW hsE sw2
  obtain ⟨⟨x2, x3⟩, _, _⟩ := two_cells hG2
  have HCA := Lib.hid (induced_all N (some ⟨g0, 0, none⟩) l c0 (some ⟨g1, 0, none⟩) q c1 w2 hl hS2.arcs hO2)
  have HCB := Lib.hid (fun w3 (b3 : Below w.heap.size w w3) => rinduced_all N a l cap a1 q cap1 w3 hl hq' (hr.on b3) (hk.imp (fun b h => Nat.lt_of_lt_of_le h b3.size) (fun b h => b3.block b h)))
  obtain ⟨NN, HNN⟩ := named (inN N l q)
  obtain ⟨Z, HZ⟩ := named (inZ N l q)
  obtain ⟨vs, HV⟩ := named (inV N l q)
  obtain ⟨is, HIS⟩ := named (inI N l q)
  obtain ⟨E, HE⟩ := named (indE N l q)
  rw [HNN.out, HZ.out, HV.out, HIS.out, HE.out] at HCA
  simp only [HNN.out, HZ.out, HV.out, HIS.out, HE.out] at HCB
  rw [HZ.out] at hlZ
  rw [HV.out] at hlV
  rw [HIS.out] at hlI
  refine HCA.out.mono ?_
  rintro e w3 ⟨ah, ch, av, cv, ai, ci, rfl, oA, oV, oI, hb3⟩
  have HU := Lib.hid (OwnA.lt oA)
  have hbx := (Below.refl w3.heap.size w3).alloc (Nat.le_refl _) (.cells #[.int .i64 NN, .slice ah Z.length ch] 24)
  have hb3' := bthen hb3 hbx hb3.size
  have hA3 := heap_top w3 (.cells #[.int .i64 NN, .slice ah Z.length ch] 24)
  have oA3 := OwnA.on oA hbx
  have oV3 := oV.on hbx
  have oI3 := oI.on hbx
  have hI3 := (hb3'.block _ (lt_of_block hI2)).trans hI2
  have hG3 := (hb3'.block _ (lt_of_block hG2)).trans hG2
  have b3 := bthen b2 hb3' b2.size
  have s3 := hb3.size
  have HKB := Lib.hid hb3'
  clear oA oV oI hbx hb3 HCA x0 x1 x2 x3
  obtain ⟨⟨y0, y1⟩, _, _⟩ := two_cells ((HKB.out.block _ (lt_of_block hG2)).trans hG2)
  go_wp2_with fail
  refine (HCB.out _ b3).mono ?_
  rintro e w4 ⟨bh, dh, bv, dv, bi, di, rfl, rA, rV, rI, hb4⟩
  have hbx4 := (Below.refl w4.heap.size w4).alloc (Nat.le_refl _) (.cells #[.int .i64 NN, .slice bh Z.length dh] 24)
  have hb4' := bthen hb4 hbx4 hb4.size
  have hB5 := heap_top w4 (.cells #[.int .i64 NN, .slice bh Z.length dh] 24)
  have rA5 := rA.on hbx4
  have rV5 := rV.on hbx4
  have rI5 := rI.on hbx4
  have hA5 := (hb4'.block _ (lt_of_block hA3)).trans hA3
  have oA5 := OwnA.on oA3 hb4'
  have oV5 := oV3.on hb4'
  have oI5 := oI3.on hb4'
  have hI5 := (hb4'.block _ (lt_of_block hI3)).trans hI3
  have hG5 := (hb4'.block _ (lt_of_block hG3)).trans hG3
  have b5 := bthen b3 hb4' b3.size
  have k5 : Below w2.heap.size w2 (w4.alloc (.cells #[.int .i64 NN, .slice bh Z.length dh] 24)) := bthen HKB.out hb4' HKB.out.size
  have s4 := hb4.size
  have s5 := hb4'.size
  clear rA rV rI hbx4 hb4 hb4' hA3 oA3 oV3 oI3 hI3 hG3 b3 HCB HKB y0 y1
  obtain ⟨⟨y0, y1⟩, _, _⟩ := two_cells hA5
  obtain ⟨⟨y2, y3⟩, _, _⟩ := two_cells hB5
  go_wp2_with fail
  generalize w4.alloc (.cells #[.int .i64 NN, .slice bh Z.length dh] 24) = W5 at *
  refine (sameGraph_any NN ah bh ch dh Z _ (by omega) oA5.arcs rA5).mono ?_
  rintro e w6 ⟨rfl, hb6⟩
  have hA6 := (hb6.block _ (lt_of_block hA5)).trans hA5
  have oA6 := OwnA.on oA5 hb6
  have oV6 := oV5.on hb6
  have oI6 := oI5.on hb6
  have hI6 := (hb6.block _ (lt_of_block hI5)).trans hI5
  have hG6 := (hb6.block _ (lt_of_block hG5)).trans hG5
  have rV6 := rV5.on hb6
  have rI6 := rI5.on hb6
  have b6 := bthen b5 hb6 b5.size
  have k6 : Below w2.heap.size w2 w6 := bthen k5 hb6 k5.size
  have t6 := hb6.size
  clear hA5 oA5 oV5 oI5 hI5 hG5 rV5 rI5 b5 k5 hb6 rA5 hB5 y0 y1 y2 y3
  go_wp2_with fail
  refine (sameInts_any av bv cv dv vs _ (by omega) oV6.ints rV6).mono ?_
  rintro e w7 ⟨rfl, hb7⟩
  have hA7 := (hb7.block _ (lt_of_block hA6)).trans hA6
  have oA7 := OwnA.on oA6 hb7
  have oV7 := oV6.on hb7
  have oI7 := oI6.on hb7
  have hI7 := (hb7.block _ (lt_of_block hI6)).trans hI6
  have hG7 := (hb7.block _ (lt_of_block hG6)).trans hG6
  have rV7 := rV6.on hb7
  have rI7 := rI6.on hb7
  have b7 := bthen b6 hb7 b6.size
  have k7 : Below w2.heap.size w2 w7 := bthen k6 hb7 k6.size
  have t7 := hb7.size
  clear hA6 oA6 oV6 oI6 hI6 hG6 rV6 rI6 b6 k6 hb7
  go_wp2_with fail
  refine (sameInts_any ai bi ci di is _ (by omega) oI7.ints rI7).mono ?_
  rintro e w8 ⟨rfl, hb8⟩
  have hA8 := (hb8.block _ (lt_of_block hA7)).trans hA7
  have oA8 := OwnA.on oA7 hb8
  have oV8 := oV7.on hb8
  have oI8 := oI7.on hb8
  have hI8 := (hb8.block _ (lt_of_block hI7)).trans hI7
  have hG8 := (hb8.block _ (lt_of_block hG7)).trans hG7
  have rV8 := rV7.on hb8
  have rI8 := rI7.on hb8
  have b8 := bthen b7 hb8 b7.size
  have k8 : Below w2.heap.size w2 w8 := bthen k7 hb8 k7.size
  have t8 := hb8.size
  clear hA7 oA7 oV7 oI7 hI7 hG7 rV7 rI7 b7 k7 hb8
  obtain ⟨⟨y0, y1⟩, _, _⟩ := two_cells hA8
  go_wp2_with fail
  refine (spoilGraph_fin NN ah ch w2.heap.size w3.heap.size Z _ oA8 k8.size (fun g e => HU.out g e)).mono ?_
  rintro e w9 ⟨rfl, hsp⟩
  have oV9 := oV8.spoilt hsp
  have oI9 := oI8.spoilt hsp
  have k9 := k8.trans hsp.1
  clear oA8 oV8 oI8 hA8 y0 y1 hI8 hG8
  go_wp2_with fail
  refine (spoilInts_gen av vs.length cv w2.heap.size (-7) (cellsI vs) _ oV9).mono ?_
  rintro e w10 ⟨rfl, hb10, hrow⟩
  obtain ⟨ys, oI10⟩ := hrow _ _ _ _ _ _ oI9
  have k10 := k9.trans hb10
  clear oV9 oI9 hrow hb10 k9 hsp
  go_wp2_with fail
  refine (spoilInts_gen ai is.length ci w2.heap.size (-8) ys _ oI10).mono ?_
  rintro e w11 ⟨rfl, hb11, _⟩
  have k11 := k10.trans hb11
  have b11 := bthen b2 k11 b2.size
  have hI11 := (k11.block _ (lt_of_block hI2)).trans hI2
  have hG11 := (k11.block _ (lt_of_block hG2)).trans hG2
  have hS11 := hS2.on k11
  have hO11 : Bools (· < w11.heap.size) w11 (some ⟨g1, 0, none⟩) q := hO2.imp (fun b h => Nat.lt_of_lt_of_le h k11.size) (fun b h => k11.block b h)
  clear oI10 hb11 k10 k8
  obtain ⟨⟨y0, y1⟩, _, _⟩ := two_cells hI11
  obtain ⟨⟨y2, y3⟩, _, _⟩ := two_cells hG11
  go_wp2_with fail
  refine (kept_any N g0 c0 a l cap _ hlen hc0 hcm0 hS11 (hr.on b11)).mono ?_
  rintro e w12 ⟨rfl, hb12⟩
  have b12 := bthen b11 hb12 b11.size
  have hO12 : Bools (· < w12.heap.size) w12 (some ⟨g1, 0, none⟩) q := hO11.imp (fun b h => Nat.lt_of_lt_of_le h hb12.size) (fun b h => hb12.block b h)
  have hK12 : Bools (· < w12.heap.size) w12 a1 q := hk.imp (fun b h => Nat.lt_of_lt_of_le h b12.size) (fun b h => b12.block b h)
  clear hb12 b11 hO11 y0 y1 y2 y3
  go_wp2_with fail
  refine (sameBools_any (some ⟨g1, 0, none⟩) a1 c1 cap1 q _ hq' hO12 hK12).mono ?_
  rintro e w13 ⟨rfl, hb13⟩
  have b13 := bthen b12 hb13 b12.size
  go_wp2_with fail
  refine (works_any _).mono ?_
  rintro e w14 ⟨rfl, hb14⟩
  have b14 := bthen b13 hb14 b13.size
  go_wp2_with fail
  go_ret
  exact ⟨rfl, b14⟩
end Go.Proofs.Ytkhgnefnmibomaa
