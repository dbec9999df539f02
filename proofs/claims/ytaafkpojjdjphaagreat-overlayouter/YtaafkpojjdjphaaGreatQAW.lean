import Derived.Test.YtaafkpojjdjphaaGreatQAV
import Derived.Test.YtaafkpojjdjphaaGreatQGA
open Go.Lib (hid)
set_option maxRecDepth 100000
namespace Go.Proofs.YtaafkpojjdjphaaGreat
open Go.RowKit
def prE (x : A) : Int × Int := (x.f, x.t)
def SmE (l l' : List A) : Prop := l'.map prE = l.map prE
theorem SmE.refl (l : List A) : SmE l l := rfl
theorem SmE.trans {a b c : List A} (h : SmE a b) (k : SmE b c) : SmE a c := Eq.trans k h
theorem getD_prE (l : List A) (i : Nat) : prE (l.getD i A.zero) = (l.map prE).getD i (prE A.zero) := by
 simp only [List.getD_eq_getElem?_getD, List.getElem?_map]
 cases l[i]? <;> rfl
theorem SmE.len {l l' : List A} (h : SmE l l') : l'.length = l.length := by
 have := congrArg List.length h
 simpa using this
theorem SmE.at {l l' : List A} (h : SmE l l') (i : Nat) : prE (l'.getD i A.zero) = prE (l.getD i A.zero) := by
 rw [getD_prE, getD_prE, h]
theorem SmE.f {l l' : List A} (h : SmE l l') (i : Nat) : (l'.getD i A.zero).f = (l.getD i A.zero).f := congrArg Prod.fst (h.at i)
theorem SmE.t {l l' : List A} (h : SmE l l') (i : Nat) : (l'.getD i A.zero).t = (l.getD i A.zero).t := congrArg Prod.snd (h.at i)
theorem SmE.all {l l' : List A} (h : SmE l l') (q : Int × Int → Bool) : l'.all (fun x => q (prE x)) = l.all (fun x => q (prE x)) := by
 have e : ∀ m : List A, m.all (fun x => q (prE x)) = (m.map prE).all q := fun m => by rw [List.all_map]; rfl
 rw [e, e, h]
theorem SmE.chk {l l' : List A} (h : SmE l l') (N : Int) : chkE N l' = chkE N l := by
 unfold chkE
 rw [h.len]
 have e : l'.all (okA N) = l.all (okA N) := h.all (fun y => okV N y.1 && okV N y.2)
 rw [e]
theorem SmE.ns {l l' : List A} (h : SmE l l') (N : Int) (bs : List Int) (cs : List (List Int)) : nsE N l' bs cs = nsE N l bs cs := by
 unfold nsE
 rw [h.chk]
theorem SmE.nr {l l' : List A} (h : SmE l l') {N : Int} {bs : List Int} {cs : List (List Int)} (k : NR N l bs cs) : NR N l' bs cs := by
 unfold NR at k ⊢
 rw [h.chk]
 exact k
theorem SmE.at' {l l' : List A} (h : SmE l l') (N : Int) (bs : List Int) (cs : List (List Int)) (k : Int) : atE N l' bs cs k = atE N l bs cs k := by
 unfold atE
 rw [h.ns]
theorem SmE.inE {l l' : List A} (h : SmE l l') (N : Int) (bs : List Int) (cs : List (List Int)) (k x : Int) : inE N l' bs cs k x = inE N l bs cs k x := by
 unfold Go.Proofs.YtaafkpojjdjphaaGreat.inE
 rw [h.at']
theorem SmE.prt {l l' : List A} (h : SmE l l') (L : List Int) (i : Nat) : prt L (l'.getD i A.zero) = prt L (l.getD i A.zero) := by
 unfold Go.Proofs.YtaafkpojjdjphaaGreat.prt
 rw [h.f, h.t]
theorem SmE.crs {l l' : List A} (h : SmE l l') (L : List Int) (k v : Nat) : crs L l' k v = crs L l k v := by
 have e : ∀ m : List A, Go.Proofs.YtaafkpojjdjphaaGreat.crs L m k v = ((m.map prE).take k).any (fun y => decide (lb L y.1 ≠ lb L y.2) && (decide (y.1.toNat = v) || decide (y.2.toNat = v))) := fun m => by
  rw [← List.map_take, List.any_map]
  rfl
 rw [e, e, h]
theorem SmE.bdV {l l' : List A} (h : SmE l l') (N : Int) (bs : List Int) (cs : List (List Int)) (k x : Int) : bdV N l' bs cs k x = bdV N l bs cs k x := by
 unfold Go.Proofs.YtaafkpojjdjphaaGreat.bdV
 rw [h.inE]
 have e : ∀ L q, bdL N.toNat L l' q = bdL N.toNat L l q := fun L q => by
  unfold bdL
  refine congrArg (fun p => cho p N.toNat) (funext fun v => ?_)
  unfold bdP
  rw [h.len, h.crs]
 rw [e]
theorem SmE.arh {l l' : List A} (h : SmE l l') (L : List Int) (q : Int) : arL l' (hld L q) = arL l (hld L q) := by
 unfold arL
 rw [h.len]
 refine congrArg (fun p => cho p l.length) (funext fun v => ?_)
 unfold arP hld
 rw [h.f, h.t]
theorem SmE.inV {l l' : List A} (h : SmE l l') (N : Int) (bs : List Int) (cs : List (List Int)) (k x : Int) : inV N l' bs cs k x = inV N l bs cs k x := by
 unfold Go.Proofs.YtaafkpojjdjphaaGreat.inV
 rw [h.inE, h.arh]
theorem SmE.tcL {l l' : List A} (h : SmE l l') (n : Nat) (L ids : List Int) : tcL n L l' ids = tcL n L l ids := by
 unfold Go.Proofs.YtaafkpojjdjphaaGreat.tcL
 refine congrArg (fun p => cho p n) (funext fun v => ?_)
 unfold tcP
 refine congrArg (fun p => (ids.take ids.length).any p) (funext fun i => ?_)
 rw [h.prt, h.f]
theorem wi_same {l l' : List A} {ids : List Nat} (hk : ∀ i, i ∈ ids → l'.getD i A.zero = l.getD i A.zero) : wiL l' ids = wiL l ids := by
 unfold wiL wgL
 refine List.map_congr_left (fun i hi => ?_)
 rw [List.mem_range] at hi
 have hm : ids.getD i 0 ∈ ids := by
  rw [List.getD_eq_getElem?_getD, List.getElem?_eq_getElem hi]
  exact List.getElem_mem hi
 have e := hk _ hm
 unfold wgA
 rw [wtL_at (by rw [ints_len]; exact hi), wtL_at (by rw [ints_len]; exact hi), ints_getD hi, Int.toNat_natCast, e]
theorem SmE.keep {l l' : List A} (h : SmE l l') {n : Nat} {bs : List Int} {cs : List (List Int)} {j i : Nat} {ids : List Int} (hNR : NR n l bs cs) (hj : j < bs.length) (hi : i < (szL (lvl cs j)).length) (hn : i ∉ Go.Proofs.YtaafkpojjdjphaaGreat.tcL n (lvl cs j) l ids)
  (hk : ∀ k : Nat, (k : Int) ∉ ids → l'.getD k A.zero = l.getD k A.zero) : rD n l' bs cs j i = rD n l bs cs j i := by
 obtain ⟨b1, b2, _⟩ := hNR.lv (k := j) hj
 unfold rD
 rw [h.inV, h.bdV, wi_same (fun k hm => hk k (fun hin => hn ?_))]
 unfold Go.Proofs.YtaafkpojjdjphaaGreat.inV at hm
 rw [if_pos (inE_ok hNR hj hi)] at hm
 unfold arL cho at hm
 rw [List.mem_filter] at hm
 have h2 := hm.2
 unfold arP hld at h2
 have h2 := of_decide_eq_true h2
 have t1 : ((j : Int) + 1).toNat - 1 = j := by omega
 rw [t1] at h2
 unfold Go.Proofs.YtaafkpojjdjphaaGreat.tcL cho
 have := szL_length (lvl cs j)
 rw [List.mem_filter, List.mem_range]
 refine ⟨by omega, ?_⟩
 unfold tcP
 rw [List.any_eq_true]
 refine ⟨(k : Int), by rw [List.take_length]; exact hin, ?_⟩
 rw [Int.toNat_natCast, h2.1, Int.toNat_natCast]
 unfold Go.Proofs.YtaafkpojjdjphaaGreat.prt
 rw [h2.1, h2.2]
 simp
theorem SmE.rlen {l l' : List A} (h : SmE l l') (n : Nat) (bs : List Int) (cs : List (List Int)) (ep : Int) (j i : Nat) (x : Mt) : MF n l' bs cs ep j i x ↔ MF n l bs cs ep j i x := by
 unfold MF
 rw [h.bdV]
theorem smX_zero {c j i : Nat} {ids : List Nat} (hi : i < c) (h : (smX c (mdF j) (ints ids)).getD i 0 = 0) : i ∉ ids := by
 intro hm
 unfold smX at h
 rw [List.getD_eq_getElem?_getD, List.getElem?_map, List.getElem?_range hi] at h
 have : ((i : Nat) : Int) ∈ ints ids := by
  unfold ints
  exact List.mem_map.2 ⟨i, hm, rfl⟩
 simp only [Option.map_some, Option.getD_some] at h
 rw [if_pos this] at h
 exact mdF_ne j h
theorem renew_right {n : Nat} {l l' : List A} {bs : List Int} {cs : List (List Int)} {ep : Int} {ids : List Int} {O R : Nat → List Mt} (h : SmE l l') (hNR : NR n l bs cs) (hw : ∀ x ∈ l', 0 ≤ x.w ∧ x.w < 4294967296) (hk : ∀ k : Nat, (k : Int) ∉ ids → l'.getD k A.zero = l.getD k A.zero)
  (hM : ∀ j, j < bs.length → Mk n l' bs cs ep (smX (szL (lvl cs j)).length (mdF j) (ints (tcL n (lvl cs j) l' ids))) (O j) (R (j - 1)) j (R j) (szL (lvl cs j)).length)
  (hO : ∀ j, j < bs.length → ∀ i, i < (szL (lvl cs j)).length → (mt (O j) i).D = rD n l bs cs j i) : ∀ j, j < bs.length → ∀ i, i < (szL (lvl cs j)).length → (mt (R j) i).D = rD n l' bs cs j i :=
 mk_right (xs := fun j => smX (szL (lvl cs j)).length (mdF j) (ints (tcL n (lvl cs j) l' ids))) (h.nr hNR) (Nat.le_refl _) hw hM (fun j hj i hi e => by
  rw [hO j hj i hi]
  refine (h.keep hNR hj hi ?_ hk).symm
  have := smX_zero hi e
  rwa [h.tcL] at this)
def cgI (m : List G3.Cg) : List Int := m.map G3.Cg.a
theorem cgI_len (m : List G3.Cg) : (cgI m).length = m.length := by unfold cgI; simp
theorem cgI_snoc {m : List G3.Cg} {k : Nat} (h : k < m.length) : cgI (m.take (k + 1)) = cgI (m.take k) ++ [(m.getD k G3.Cg.zero).a] := by
 unfold cgI
 rw [List.take_add_one, List.map_append]
 simp [List.getD, List.getElem?_eq_getElem h]
set_option maxHeartbeats 1600000 in
theorem arcsOf_any (a : Option Addr) (m : List G3.Cg) (cap : Nat) (w : World) (hm : m.length * 16 ≤ 140737488351232) (hr : G3.Cgs w a m) :
  Calls Tryz.prog 55 #[.slice a m.length cap] w fun e w' => ∃ v c, e = .returned (.slice v m.length c) ∧ w'.ownsRow w.heap.size 3 1 (.slice v m.length c) m.length (cellsI (cgI m)) ∧ Below w.heap.size w w' := by
 obtain ⟨i3, hi3, hz3, hs3, hby3⟩ := info_parts info3
 obtain ⟨b, o, hab⟩ := hr.get
 have HST := hid (fun k (hk : k < m.length) => cgI_snoc hk)
 have HFU : Hid (m.take m.length = m) := List.take_length
 have H0 : Hid (w.ownsRow w.heap.size 3 1 (.slice none 0 0) 0 (cellsI (cgI (m.take 0)))) := World.ownsRow_nil _ _ _ _
 have HAB := hid hab
 obtain ⟨N, HN⟩ := named m.length
 rw [HN.out] at hm HFU HST HAB ⊢
 clear hr hab
 generalize hp : w.heap.size = p at *
 go_enter Tryz.func55, Tryz.ntmps55
 go_wp2_with fail
 go_loopw [3, 8] (fun ov i wr => ∃ (k : Nat) (v : Option Addr) (c : Nat), k ≤ N ∧ ov = .slice v k c ∧ i = .int .i64 k ∧ Hid (wr.ownsRow p 3 1 (.slice v k c) k (cellsI (cgI (m.take k)))) ∧ Hid (Below p w wr)) (fun _ i _ => N - (intOf i).toNat)
 case atStart => exact ⟨0, none, 0, Nat.zero_le _, rfl, rfl, H0, Below.refl _ _⟩
 case round =>
  obtain ⟨k, v, c, hk, rfl, rfl, HO, HBR⟩ := hrel
  by_cases hlk : k < N
  ·have hlk' : (k : Int) < N := by omega
   obtain ⟨rfl, hbl, hat⟩ := HAB.out (by omega)
   obtain ⟨c0, c1⟩ := hat k hlk
   have u0 := (HBR.out.cell (p := ⟨b, o + k * 2, none⟩) (by show b < p; omega)).trans c0
   have u1 := (HBR.out.cell (p := ⟨b, o + k * 2 + 1, none⟩) (by show b < p; omega)).trans c1
   have HS1 := hid (HST.out k hlk)
   have hsz := HBR.out.size
   clear hat c0 c1
   generalize m.getD k G3.Cg.zero = x at *
   obtain ⟨xa, xw⟩ := x
   obtain ⟨X, HX⟩ := named (cgI (m.take k))
   rw [HX.out] at HO HS1
   have HOA := hid (HO.out.alloc (.cells #[.int .i64 xa, .int .u32 xw] 84))
   have hbA : Below p w (wr.alloc (.cells #[.int .i64 xa, .int .u32 xw] 84)) := HBR.out.alloc (by omega) _
   have HBA := hid hbA
   have HZA : Hid ((wr.alloc (.cells #[.int .i64 xa, .int .u32 xw] 84)).heap.size = wr.heap.size + 1) := by show _ = _; simp
   have HTOP := hid (heap_top wr (.cells #[.int .i64 xa, .int .u32 xw] 84))
   obtain ⟨⟨t0, t1⟩, _⟩ := two_cells HTOP.out
   have HNW := hid (one_new (wr.alloc (.cells #[.int .i64 xa, .int .u32 xw] 84)) xa)
   have HO3 := hid (HOA.out.alloc (.cells #[.int .i64 xa] 3))
   rw [HZA.out] at HNW
   have hl2 : (wr.alloc (.cells #[.int .i64 xa, .int .u32 xw] 84)).heap.size = wr.heap.size + 1 := HZA.out
   clear hbA HX hl2
   go_wp2_with (at_builtin; refine wpList_append_own _ rfl (.tmp 12) (.tmp 15) 25 rfl p 3 i3 (.int .i64 0) 1 8 Tryz.underlying25 hi3 hz3 hs3 hby3 rfl (by decide) (.slice v k c) k (cellsI X) rfl HO3.out ⟨wr.heap.size + 1, 0, none⟩ 1 1 [.int .i64 xa] rfl rfl HNW.out (one_i64 _) (by unfold maxLen; omega) (by omega) (by simp; omega) ?_; intro v6 w6 hown6 hgrow6 hnil6; rw [cellsI_snoc, ← HS1.out] at hown6; obtain ⟨a6, c6, rfl⟩ := own_slice hown6; have HO6 := hid hown6; have HG6 := hid hgrow6; clear hown6 hgrow6 hnil6)
   go_wp2_with fail
   refine ⟨⟨k + 1, a6, c6, by omega, rfl, by go_num, HO6.out, ?_⟩, by simp [intOf]; omega⟩
   exact (HBA.out.alloc (by rw [HZA.out]; omega) _).grown HG6.out (by simp; omega) (fun g hg => (HO.out.lt g hg).1)
  ·have hlk' : ¬ (k : Int) < N := by omega
   have hkN : k = N := by omega
   subst hkN
   rw [HFU.out] at HO
   go_wp2_with fail
   go_ret
   exact ⟨v, c, rfl, HO.out, HBR.out⟩
theorem chg1_at (l : List A) (c : G3.Cg) (k : Nat) : (G3.chg1 l c).getD k A.zero = if k = c.a.toNat ∧ k < l.length then ⟨(l.getD k A.zero).f, (l.getD k A.zero).t, c.w⟩ else l.getD k A.zero := by
 unfold G3.chg1
 simp only [List.getD_eq_getElem?_getD]
 rw [List.getElem?_set]
 by_cases h : c.a.toNat = k
 ·subst h
  by_cases h2 : c.a.toNat < l.length
  ·rw [if_pos rfl, if_pos h2, if_pos ⟨rfl, h2⟩]
   rfl
  ·rw [if_pos rfl, if_neg h2, if_neg (fun h => h2 h.2), List.getElem?_eq_none (by omega)]
 ·rw [if_neg h, if_neg (fun h2 => h h2.1.symm)]
theorem sm_of {l l' : List A} (hl : l'.length = l.length) (h : ∀ k, k < l.length → prE (l'.getD k A.zero) = prE (l.getD k A.zero)) : SmE l l' := by
 unfold SmE
 refine List.ext_getElem? (fun k => ?_)
 rw [List.getElem?_map, List.getElem?_map]
 by_cases hk : k < l.length
 ·have := h k hk
  simp only [List.getD_eq_getElem?_getD] at this
  rw [List.getElem?_eq_getElem hk, List.getElem?_eq_getElem (by omega)] at this ⊢
  simpa using this
 ·rw [List.getElem?_eq_none (by omega), List.getElem?_eq_none (by omega)]
theorem chg1_sm (l : List A) (c : G3.Cg) : SmE l (G3.chg1 l c) := sm_of (G3.chg1_len l c) (fun k hk => by
 rw [chg1_at]
 split
 ·rfl
 ·rfl)
theorem chg_sm : ∀ (m : List G3.Cg) (l : List A), SmE l (G3.chg l m)
 | [], l => SmE.refl l
 | c :: r, l => (chg1_sm l c).trans (chg_sm r (G3.chg1 l c))
theorem chg_keep : ∀ (m : List G3.Cg) (l : List A) (k : Nat), (∀ c ∈ m, 0 ≤ c.a) → (k : Int) ∉ cgI m → (G3.chg l m).getD k A.zero = l.getD k A.zero
 | [], _, _, _, _ => rfl
 | c :: r, l, k, h0, hk => by
   have h1 : (k : Int) ≠ c.a := fun e => hk (by unfold cgI; rw [e]; exact List.mem_cons_self)
   have h2 : (k : Int) ∉ cgI r := fun e => hk (List.mem_cons_of_mem _ e)
   have h3 := h0 c List.mem_cons_self
   show (G3.chg (G3.chg1 l c) r).getD k A.zero = _
   rw [chg_keep r _ k (fun x hx => h0 x (List.mem_cons_of_mem _ hx)) h2, chg1_at, if_neg (fun h => by omega)]
theorem chg_wt : ∀ (m : List G3.Cg) (l : List A), (∀ x ∈ l, 0 ≤ x.w ∧ x.w < 4294967296) → (∀ x ∈ m, 0 ≤ x.w ∧ x.w < 4294967296) → ∀ x ∈ G3.chg l m, 0 ≤ x.w ∧ x.w < 4294967296
 | [], _, h, _ => h
 | c :: r, l, h, hm => chg_wt r (G3.chg1 l c) (fun x hx => by
   unfold G3.chg1 at hx
   rcases List.mem_or_eq_of_mem_set hx with h2 | rfl
   ·exact h x h2
   ·exact hm c List.mem_cons_self) (fun x hx => hm x (List.mem_cons_of_mem _ hx))
theorem cg_zero {N : Int} {l : List A} {m : List G3.Cg} (h : G3.cgE N l m = 0) : chkE N l = 0 ∧ m.length ≤ 16384 ∧ ∀ c ∈ m, 0 ≤ c.a ∧ c.a < (l.length : Int) := by
 unfold G3.cgE at h
 split at h
 ·rename_i h1
  split at h
  ·cases h
  ·split at h
   ·rename_i h2 h3
    refine ⟨h1, by omega, fun c hc => ?_⟩
    have := List.all_eq_true.1 h3 c hc
    exact of_decide_eq_true this
   ·cases h
 ·rename_i h1
  exact absurd h h1
theorem cgI_in {N : Int} {l l' : List A} {m : List G3.Cg} (h : G3.cgE N l m = 0) (hs : l'.length = l.length) : ∀ x ∈ cgI m, 0 ≤ x ∧ x < (l'.length : Int) := fun x hx => by
 unfold cgI at hx
 obtain ⟨c, hc, rfl⟩ := List.mem_map.1 hx
 rw [hs]
 exact (cg_zero h).2.2 c hc
def wx9 : List A := [⟨0, 1, 9⟩, ⟨1, 2, 0⟩, ⟨0, 2, 0⟩]
def wx4 : List A := [⟨0, 1, 4⟩, ⟨1, 2, 0⟩, ⟨0, 2, 0⟩]
theorem wx9_arcs {w : World} {b : Nat} (h : w.heap[b]? = some (.cells #[.int .i64 0, .int .i64 1, .int .u32 9, .int .i64 1, .int .i64 2, .int .u32 0, .int .i64 0, .int .i64 2, .int .u32 0] 109)) : Arcs w (some ⟨b, 0, none⟩) wx9 := by
 refine .inr ⟨b, 0, rfl, lt_of_block h, fun j hj => ?_⟩
 have hj : j = 0 ∨ j = 1 ∨ j = 2 := by have : wx9.length = 3 := rfl; omega
 rcases hj with rfl | rfl | rfl <;> exact ⟨by simp [World.cell?, h]; rfl, by simp [World.cell?, h]; rfl, by simp [World.cell?, h]; rfl⟩
theorem wx4_arcs {w : World} {b : Nat} (h : w.heap[b]? = some (.cells #[.int .i64 0, .int .i64 1, .int .u32 4, .int .i64 1, .int .i64 2, .int .u32 0, .int .i64 0, .int .i64 2, .int .u32 0] 109)) : Arcs w (some ⟨b, 0, none⟩) wx4 := by
 refine .inr ⟨b, 0, rfl, lt_of_block h, fun j hj => ?_⟩
 have hj : j = 0 ∨ j = 1 ∨ j = 2 := by have : wx4.length = 3 := rfl; omega
 rcases hj with rfl | rfl | rfl <;> exact ⟨by simp [World.cell?, h]; rfl, by simp [World.cell?, h]; rfl, by simp [World.cell?, h]; rfl⟩
def exG (x : Int) (s : Nat) (v : Nat) : Int := if v = s then 0 else if s = 0 ∧ v = 1 then x else N5.Inf
theorem exG_is {x : Int} (hx : 0 ≤ x ∧ x ≤ 9) (s : Nat) (hs : s = 0 ∨ s = 1) : N5.IsD ([⟨0, 1, x⟩] : List N5.A) (fun _ => true) s (exG x s) := by
 have le : ∀ v d, N5.Wk ([⟨0, 1, x⟩] : List N5.A) (fun _ => true) s v d → exG x s v ≤ d := fun v d h => by
  induction h with
  | nil _ => simp [exG]
  | snoc hx2 _ _ ih =>
    obtain rfl := List.mem_singleton.1 hx2
    unfold exG N5.Inf N5.src N5.dst at *
    simp at *
    rcases hs with rfl | rfl
    ·simp at *; omega
    ·simp at *; omega
 refine ⟨fun v => ?_, fun v => ?_, fun v h => ?_, le⟩
 ·unfold exG N5.Inf; split <;> (try split) <;> omega
 ·unfold exG N5.Inf; split <;> (try split) <;> omega
 ·by_cases h1 : v = s
  ·subst h1
   have e : exG x v v = 0 := by simp [exG]
   rw [e]
   exact N5.Wk.nil rfl
  ·by_cases h2 : s = 0 ∧ v = 1
   ·obtain ⟨rfl, rfl⟩ := h2
    have e : exG x 0 1 = 0 + x := by simp [exG]
    rw [e]
    exact N5.Wk.snoc (x := ⟨0, 1, x⟩) (d := 0) (by simp) (N5.Wk.nil rfl) rfl
   ·exfalso
    unfold exG at h
    rw [if_neg h1, if_neg h2] at h
    omega
theorem exG_mx {x : Int} (hx : 0 ≤ x ∧ x ≤ 9) : mxL [⟨0, 1, x⟩] [0, 1] = [0, x, 18446744073709551615, 0] := by
 have h0 : dF [⟨0, 1, x⟩] 0 = exG x 0 := dF_is (exG_is hx 0 (Or.inl rfl))
 have h1 : dF [⟨0, 1, x⟩] 1 = exG x 1 := dF_is (exG_is hx 1 (Or.inr rfl))
 unfold mxL mxK
 show ([0, 1] : List Nat).flatMap (fun s => ([0, 1] : List Nat).map (dF [⟨0, 1, x⟩] s)) = _
 simp only [List.flatMap_cons, List.flatMap_nil, List.map_cons, List.map_nil, h0, h1]
 simp [exG, N5.Inf]
theorem wx9_rD : rD 3 wx9 [2] [[0, 0, 1]] 0 0 = [0, 9, 18446744073709551615, 0] := by
 unfold rD
 have h1 : inV ((3 : Nat) : Int) wx9 [2] [[0, 0, 1]] (((0 : Nat) : Int) + 1) ((0 : Nat) : Int) = [0] := by decide
 have h2 : bdV ((3 : Nat) : Int) wx9 [2] [[0, 0, 1]] (((0 : Nat) : Int) + 1) ((0 : Nat) : Int) = [0, 1] := by decide
 have h3 : wiL wx9 [0] = [⟨0, 1, 9⟩] := by decide
 rw [h1, h2, h3]
 exact exG_mx (by decide)
theorem wx4_rD : rD 3 wx4 [2] [[0, 0, 1]] 0 0 = [0, 4, 18446744073709551615, 0] := by
 unfold rD
 have h1 : inV ((3 : Nat) : Int) wx4 [2] [[0, 0, 1]] (((0 : Nat) : Int) + 1) ((0 : Nat) : Int) = [0] := by decide
 have h2 : bdV ((3 : Nat) : Int) wx4 [2] [[0, 0, 1]] (((0 : Nat) : Int) + 1) ((0 : Nat) : Int) = [0, 1] := by decide
 have h3 : wiL wx4 [0] = [⟨0, 1, 4⟩] := by decide
 rw [h1, h2, h3]
 exact exG_mx (by decide)
theorem OS.ovs {w : World} {B g m : Nat} {rv : Nat → Value} {R : Nat → List Mt} (h : OS w B g m rv R) (hl : ∀ j, j < m → (R j).length ≤ 1024) : ∃ O : List Lw, Ovs w (some ⟨g, 0, none⟩) O ∧ O.length = m ∧ ∀ j, j < m → (lw O j).M = R j ∧ rv j = .slice (lw O j).a (R j).length (lw O j).c := by
 have hk : ∀ j, ∃ x : Lw, j < m → x.M = R j ∧ rv j = .slice x.a (R j).length x.c ∧ Mts w x.a (R j) := fun j => by
  by_cases hj : j < m
  ·obtain ⟨a, c, h1, h2⟩ := h.mts hj
   exact ⟨⟨a, c, R j⟩, fun _ => ⟨rfl, h1, h2⟩⟩
  ·exact ⟨Lw.zero, fun h => absurd h hj⟩
 obtain ⟨f, hf⟩ : ∃ f : Nat → Lw, ∀ j, j < m → (f j).M = R j ∧ rv j = .slice (f j).a (R j).length (f j).c ∧ Mts w (f j).a (R j) := ⟨fun j => (hk j).choose, fun j => (hk j).choose_spec⟩
 clear hk
 have hat : ∀ j, j < m → lw ((List.range m).map f) j = f j := fun j hj => by
  unfold lw
  rw [List.getD_eq_getElem?_getD, List.getElem?_map, List.getElem?_range hj]
  rfl
 refine ⟨(List.range m).map f, ⟨?_, fun j hj => ?_⟩, by simp, fun j hj => ?_⟩
 ·by_cases h0 : m = 0
  ·exact Or.inl (by rw [h0]; rfl)
  ·refine Or.inr ⟨g, 0, rfl, h.tr.tb.lt, fun j hj => ?_⟩
   have hj : j < m := by simpa using hj
   obtain ⟨q1, q2, q3⟩ := hf j hj
   rw [hat j hj, Nat.zero_add, h.tr.tb.cell hj, q2, q1]
 ·have hj : j < m := by simpa using hj
  obtain ⟨q1, q2, q3⟩ := hf j hj
  rw [hat j hj, q1]
  exact ⟨q3, by have := hl j hj; omega⟩
 ·obtain ⟨q1, q2, q3⟩ := hf j hj
  rw [hat j hj]
  exact ⟨q1, q2⟩
theorem OS.far {w : World} {B g m : Nat} {rv : Nat → Value} {R : Nat → List Mt} (h : OS w B g m rv R) {b : Nat} (hb : b < B) (i : Nat) (u : Value) : OS (w.setCell ⟨b, i, none⟩ u) B g m rv R := by
 have hgb := h.tr.gb
 exact ⟨⟨h.tr.ne, h.tr.tb.same (Below.heap_setCell _ _ _ _ (by show g ≠ b; omega)), hgb, fun v hv => own_set (h.tr.ro v hv) ⟨b, i, none⟩ u hb, h.tr.ap⟩, fun j hj t ht => own_set (h.me j hj t ht) ⟨b, i, none⟩ u hb, h.bn⟩
theorem w9_nr : NR ((3 : Nat) : Int) wx9 [2] [[0, 0, 1]] := nsE_zero.1 (by decide)
theorem w4_nr : NR ((3 : Nat) : Int) wx4 [2] [[0, 0, 1]] := nsE_zero.1 (by decide)
theorem wC_csl (p : Nat) : csl (wC p) = [[0, 0, 1]] := rfl
theorem wsz : (szL (lvl [[0, 0, 1]] 0)).length = 2 := by decide
theorem wbd (i : Nat) (hi : i < 2) : bdV ((3 : Nat) : Int) wx4 [2] [[0, 0, 1]] (((0 : Nat) : Int) + 1) (i : Nat) = bdV ((3 : Nat) : Int) wx9 [2] [[0, 0, 1]] (((0 : Nat) : Int) + 1) (i : Nat) := by
 have : i = 0 ∨ i = 1 := by omega
 rcases this with rfl | rfl <;> decide
set_option maxHeartbeats 12800000 in
theorem works14_any (w : World) : Calls Tryz.prog 37 #[] w fun e w' => e = .returned (.bool true) ∧ Below w.heap.size w w' := by
 have h6 := al6 w (.cells #[.int .i64 0, .int .i64 1, .int .u32 9, .int .i64 1, .int .i64 2, .int .u32 0, .int .i64 0, .int .i64 2, .int .u32 0] 109) (.cells #[.int .i64 3, .slice (some ⟨w.heap.size, 0, none⟩) 3 3] 24) (.cells #[.int .i64 2] 3) (.cells #[.int .i64 0, .int .i64 0, .int .i64 1] 3) (.cells #[.slice (some ⟨w.heap.size + 1 + 1 + 1, 0, none⟩) 3 3] 25) (.cells #[.slice (some ⟨w.heap.size + 1 + 1, 0, none⟩) 1 1, .slice (some ⟨w.heap.size + 1 + 1 + 1 + 1, 0, none⟩) 1 1] 28) _ rfl
 generalize hp : w.heap.size = p at *
 obtain ⟨hA, hG, hBs, hC, hR, hN, hB, hz⟩ := h6
 obtain ⟨⟨g0, g1⟩, _⟩ := two_cells hG
 obtain ⟨⟨n0, n1⟩, _⟩ := two_cells hN
 have HALL := hid (all_any ((3 : Nat) : Int) (some ⟨p, 0, none⟩) wx9 3 (some ⟨p + 1 + 1, 0, none⟩) [2] 1 (some ⟨p + 1 + 1 + 1 + 1, 0, none⟩) (wC (p + 3)) 1 0 _ (by decide) (by decide) (wx9_arcs hA) (ints_block (xs := [2]) hBs) (wC_rws hR hC) (by decide))
 have HAA := hid hA
 have HGG := hid hG
 have HBS := hid hBs
 have HCC := hid hC
 have HRR := hid hR
 have HNN := hid hN
 have HB0 := hid hB
 clear hA hG hBs hC hR hN hB
 go_enter Tryz.func37, Tryz.ntmps37
 go_wp2_with fail
 generalize hW : ((((((w.alloc (.cells #[.int .i64 0, .int .i64 1, .int .u32 9, .int .i64 1, .int .i64 2, .int .u32 0, .int .i64 0, .int .i64 2, .int .u32 0] 109)).alloc (.cells #[.int .i64 3, .slice (some ⟨p, 0, none⟩) 3 3] 24)).alloc (.cells #[.int .i64 2] 3)).alloc (.cells #[.int .i64 0, .int .i64 0, .int .i64 1] 3)).alloc (.cells #[.slice (some ⟨p + 1 + 1 + 1, 0, none⟩) 3 3] 25)).alloc (.cells #[.slice (some ⟨p + 1 + 1, 0, none⟩) 1 1, .slice (some ⟨p + 1 + 1 + 1 + 1, 0, none⟩) 1 1] 28)) = W at *
 clear hW g0 g1 n0 n1
 have HAL2 : Hid (Calls Tryz.prog 38 #[.agg #[.int .i64 3, .slice (some ⟨p, 0, none⟩) 3 3], .agg #[.slice (some ⟨p + 1 + 1, 0, none⟩) 1 1, .slice (some ⟨p + 1 + 1 + 1 + 1, 0, none⟩) 1 1], .int .i64 0] W fun e w' => ∃ g rv R, e = .returned (.tuple #[.slice (some ⟨g, 0, none⟩) 1 1, .int .i64 0]) ∧ OS w' (p + 6) g 1 rv R ∧ RA 3 wx9 [2] [[0, 0, 1]] 0 0 (R 0) ∧ Below W.heap.size W w') := by
  refine HALL.out.mono (fun e w' h => ?_)
  obtain ⟨h1, _, h3⟩ := h
  obtain ⟨g, rv, R, e1, e2, e3⟩ := h1 ⟨nsE_zero.2 w9_nr, by decide⟩
  exact ⟨g, rv, R, e1, e2.base (by omega), e3 0 (by show 0 < 1; decide), h3⟩
 clear HALL
 refine HAL2.out.mono ?_
 rintro e w1 ⟨g, rv, R, rfl, hos, hra, hb1⟩
 have hz1 := hb1.size
 have HOS := hid hos
 have HRA := hid hra
 have hA1 := (hb1.block p (by omega)).trans HAA.out
 have hG1 := (hb1.block (p + 1) (by omega)).trans HGG.out
 have hN1 := (hb1.block (p + 5) (by omega)).trans HNN.out
 have HB1 := hid hb1
 obtain ⟨⟨g0, g1⟩, _⟩ := two_cells hG1
 obtain ⟨⟨n0, n1⟩, _⟩ := two_cells hN1
 have c0 : w1.cell? ⟨p, 2, none⟩ = some (.int .u32 9) := by simp [World.cell?, hA1]
 have c1 : w1.frozen? ⟨p, 2, none⟩ = false := by simp [World.frozen?, hA1]
 have hgb := HOS.out.tr.gb
 have hW2 : (w1.setCell ⟨p, 2, none⟩ (.int .u32 4)).heap[p]? = some (.cells #[.int .i64 0, .int .i64 1, .int .u32 4, .int .i64 1, .int .i64 2, .int .u32 0, .int .i64 0, .int .i64 2, .int .u32 0] 109) := by
  rw [heap_setCell_same w1 p 2 _ _ (.int .u32 4) hA1]
  rfl
 have hoth : ∀ k, k ≠ p → (w1.setCell ⟨p, 2, none⟩ (.int .u32 4)).heap[k]? = w1.heap[k]? := fun k hk => Below.heap_setCell _ _ _ _ hk
 have hbA : Below (w1.setCell ⟨p, 2, none⟩ (.int .u32 4)).heap.size (w1.setCell ⟨p, 2, none⟩ (.int .u32 4)) ((w1.setCell ⟨p, 2, none⟩ (.int .u32 4)).alloc (.cells #[.int .i64 0] 3)) := (Below.refl _ _).alloc (Nat.le_refl _) _
 have hzz : (w1.setCell ⟨p, 2, none⟩ (.int .u32 4)).heap.size = w1.heap.size := by simp
 have hT := heap_top (w1.setCell ⟨p, 2, none⟩ (.int .u32 4)) (.cells #[.int .i64 0] 3)
 have hOS3 := (HOS.out.far (show p < p + 6 by omega) 2 (.int .u32 4)).on hbA
 obtain ⟨m1, m2⟩ := HRA.out
 rw [wsz] at m1 m2
 obtain ⟨O, hOv, hOl, hOM⟩ := hOS3.ovs (fun j hj => by
  obtain rfl : j = 0 := by omega
  omega)
 have hlw := (hOM 0 (by decide)).1
 have hF : OvF 3 wx4 [2] [[0, 0, 1]] 1 O := by
  refine ⟨hOl, fun j hj => ?_⟩
  obtain rfl : j = 0 := by simpa using hj
  rw [hlw, wsz]
  refine ⟨m1, fun i hi => ?_⟩
  obtain ⟨q1, q2, q3, q4⟩ := m2 i hi
  refine ⟨q1, q2, by rw [q3]; decide, ?_⟩
  rw [q4, rD_len, wbd i hi]
 have hbW : ∀ k, k ≠ p → k < W.heap.size → ((w1.setCell ⟨p, 2, none⟩ (.int .u32 4)).alloc (.cells #[.int .i64 0] 3)).heap[k]? = W.heap[k]? := fun k hk hk2 => (hbA.block k (by rw [hzz]; omega)).trans ((hoth k hk).trans (hb1.block k hk2))
 have hA4 := (hbA.block p (by rw [hzz]; omega)).trans hW2
 have HREN := hid (renew_ok 3 (some ⟨p, 0, none⟩) wx4 3 (some ⟨p + 1 + 1, 0, none⟩) [2] 1 (some ⟨p + 1 + 1 + 1 + 1, 0, none⟩) (wC (p + 3)) 1 (some ⟨g, 0, none⟩) O 1 (some ⟨w1.heap.size, 0, none⟩) [0] 1 1 ((w1.setCell ⟨p, 2, none⟩ (.int .u32 4)).alloc (.cells #[.int .i64 0] 3)) w4_nr (by decide) hOv hF (by decide) (ints_block (xs := [0]) (by rw [hzz] at hT; exact hT)) (by decide) (by decide) (by decide) (wx4_arcs hA4) (ints_block (xs := [2]) ((hbW (p + 2) (by omega) (by omega)).trans HBS.out)) (wC_rws ((hbW (p + 4) (by omega) (by omega)).trans HRR.out) ((hbW (p + 3) (by omega) (by omega)).trans HCC.out)))
 have HRN2 : Hid (Calls Tryz.prog 44 #[.agg #[.int .i64 3, .slice (some ⟨p, 0, none⟩) 3 3], .agg #[.slice (some ⟨p + 1 + 1, 0, none⟩) 1 1, .slice (some ⟨p + 1 + 1 + 1 + 1, 0, none⟩) 1 1], .slice (some ⟨g, 0, none⟩) 1 1, .slice (some ⟨w1.heap.size, 0, none⟩) 1 1, .int .i64 1] ((w1.setCell ⟨p, 2, none⟩ (.int .u32 4)).alloc (.cells #[.int .i64 0] 3)) fun e w' => ∃ g5 rv5 R5, e = .returned (.tuple #[.slice (some ⟨g5, 0, none⟩) 1 1, .int .i64 1, .int .i64 0]) ∧ OS w' (p + 6) g5 1 rv5 R5 ∧ (R5 0).length = 2 ∧ (mt (R5 0) 0).ep = 1 ∧ (mt (R5 0) 0).D = [0, 4, 18446744073709551615, 0] ∧ OS w' (p + 6) g 1 rv R ∧ Below p w w') := by
  refine HREN.out.mono (fun e w' h => ?_)
  obtain ⟨h1, _, h3⟩ := h
  obtain ⟨g5, rv5, R5, e1, e2, e3⟩ := h1 (by rw [wC_csl]; decide)
  have e4 := e3 0 (by show 0 < 1; decide)
  have hx : (smX (szL (lvl (csl (wC (p + 3))) 0)).length (mdF 0) (ints (tcL 3 (lvl (csl (wC (p + 3))) 0) wx4 [0]))).getD 0 0 ≠ 0 := by
   rw [wC_csl]
   decide
  have e5 := e4.nw 0 (by rw [wC_csl, wsz]; decide) hx
  have hzb : p + 6 ≤ ((w1.setCell ⟨p, 2, none⟩ (.int .u32 4)).alloc (.cells #[.int .i64 0] 3)).heap.size := by
   have := hbA.size
   omega
  refine ⟨g5, rv5, R5, e1, e2.base hzb, ?_, e5.1, ?_, hOS3.on h3, ?_⟩
  ·have := e4.len
   rw [wC_csl, wsz] at this
   exact this
  ·rw [e5.2]
   exact wx4_rD
  ·have hb2 : Below p w (w1.setCell ⟨p, 2, none⟩ (.int .u32 4)) := (HB0.out.trans (HB1.out.mono (by omega))).setCell (p := ⟨p, 2, none⟩) (Nat.le_refl p) _
   exact (hb2.trans (hbA.mono (by rw [hzz]; omega))).trans (h3.mono (by omega))
 have HR0 : Hid ((R 0).length = 2) := m1
 have HD0 : Hid ((mt (R 0) 0).D = [0, 9, 18446744073709551615, 0]) := by
  have := (m2 0 (by decide)).2.2.2
  rw [wx9_rD] at this
  exact this
 clear HREN hOv hF hOM hOS3 hbW hA4 hT hbA hoth hW2 hA1 hG1 hN1 hb1 hos hra HAL2 m1 m2 hlw hOl HAA HGG HBS HCC HRR HNN
 go_wp2_with fail
 refine HRN2.out.mono ?_
 rintro e w5 ⟨g5, rv5, R5, rfl, hos5, hl5, he5, hD5, hosO, hbF⟩
 obtain ⟨oa, oc, hrv, hmts⟩ := hosO.mts (j := 0) (by decide)
 rw [HR0.out] at hrv
 have o0 := hosO.tr.tb.cell (v := 0) (by decide)
 rw [hrv] at o0
 obtain ⟨mx, mo, hmx⟩ := hmts.get
 obtain ⟨rfl, hmbl, hmat⟩ := hmx (by rw [HR0.out]; decide)
 obtain ⟨k0, k1, k2, k3⟩ := hmat 0 (by rw [HR0.out]; decide)
 have hdts := (hmts.2 0 (by rw [HR0.out]; decide)).1
 rw [HD0.out] at k3 hdts
 obtain ⟨pa, pc, hrv5, hmts5⟩ := hos5.mts (j := 0) (by decide)
 rw [hl5] at hrv5
 have r0 := hos5.tr.tb.cell (v := 0) (by decide)
 rw [hrv5] at r0
 obtain ⟨nx, no, hnx⟩ := hmts5.get
 obtain ⟨rfl, hnbl, hnat⟩ := hnx (by rw [hl5]; decide)
 obtain ⟨l0, l1, l2, l3⟩ := hnat 0 (by rw [hl5]; decide)
 have hdts5 := (hmts5.2 0 (by rw [hl5]; decide)).1
 rw [hD5] at l3 hdts5
 rw [he5] at l2
 obtain ⟨dx, dd, hdx⟩ := hdts5.get
 obtain ⟨hda, hdbl, hdat⟩ := hdx (by decide)
 have d1 := hdat 1 (by decide)
 rw [hda] at l3
 rw [Nat.zero_mul, Nat.add_zero] at k0 k1 k2 k3 l0 l1 l2 l3
 have hbU : Below w5.heap.size w5 (w5.alloc (.cells #[.int .u64 0, .int .u64 9, .int .u64 18446744073709551615, .int .u64 0] 48)) := (Below.refl _ _).alloc (Nat.le_refl _) _
 have HSD := hid (sameD_any (mt (R 0) 0).a (some ⟨w5.heap.size, 0, none⟩) (mt (R 0) 0).c 4 [0, 9, 18446744073709551615, 0] (w5.alloc (.cells #[.int .u64 0, .int .u64 9, .int .u64 18446744073709551615, .int .u64 0] 48)) (by decide) (hdts.on hbU) (dts_block (xs := [0, 9, 18446744073709551615, 0]) (heap_top w5 _)))
 have hg5 := hos5.tr.tb.lt
 have hsz5 := hbF.size
 have HBU := hid hbU
 have HBF := hid hbF
 have HR5 := hid r0
 have HL2 := hid l2
 have HL3 := hid l3
 have HD1 := hid d1
 have hpw : p ≤ w5.heap.size := by omega
 clear hos5 hosO hmts hmts5 hmx hnx hmat hnat hdts hdts5 hdx hdat hrv hrv5 hbU hbF HOS HRA HRN2 HB0 HB1 k0 k1 k2 l0 l1
 generalize (mt (R 0) 0).a = za at *
 generalize (mt (R 0) 0).c = zc at *
 generalize (mt (R5 0) 0).c = yc at *
 go_wp2_with fail
 refine HSD.out.mono ?_
 rintro e w7 ⟨rfl, hb7⟩
 have hbX : Below w5.heap.size w5 w7 := HBU.out.trans (hb7.mono (by have := HBU.out.size; omega))
 have r1 := (hbX.cell (p := ⟨g5, 0, none⟩) hg5).trans HR5.out
 have r2 := (hbX.cell (p := ⟨nx, no + 2, none⟩) hnbl).trans HL2.out
 have r3 := (hbX.cell (p := ⟨nx, no + 3, none⟩) hnbl).trans HL3.out
 have r4 := (hbX.cell (p := ⟨dx, dd + 1, none⟩) hdbl).trans HD1.out
 have HB7 : Hid (Below p w w7) := HBF.out.trans (hbX.mono hpw)
 clear hb7 hbX HSD HBU
 go_wp2_with fail
 go_ret
 exact ⟨rfl, HB7.out⟩
def RgO (n : Nat) (l : List A) (bs : List Int) (cs : List (List Int)) (ep : Int) (O : List Lw) : Prop :=
 O.length = bs.length ∧ ∀ j, j < bs.length → (lw O j).M.length = (szL (lvl cs j)).length ∧ ∀ i, i < (szL (lvl cs j)).length → MF n l bs cs ep j i (mt (lw O j).M i) ∧ (mt (lw O j).M i).D = rD n l bs cs j i
theorem RgO.fit {n : Nat} {l l' : List A} {bs : List Int} {cs : List (List Int)} {ep ep' : Int} {O : List Lw} (h : RgO n l bs cs ep O) (hs : SmE l l') (he : ep ≤ ep') : OvF n l' bs cs ep' O := by
 refine ⟨h.1, fun j hj => ⟨(h.2 j hj).1, fun i hi => ?_⟩⟩
 rw [hs.rlen]
 obtain ⟨q1, q2, q3, q4⟩ := ((h.2 j hj).2 i hi).1
 exact ⟨q1, q2, ⟨q3.1, by omega⟩, q4⟩
def Rnw (w w' : World) (e : Ending) (n : Nat) (l : List A) (bs : List Int) (cs : List (List Int)) (ep : Int) (many m : Nat) : Prop :=
 ∃ g OA, e = .returned (.tuple #[.slice (some ⟨g, 0, none⟩) m m, .int .i64 many, .int .i64 0]) ∧ Ovs w' (some ⟨g, 0, none⟩) OA ∧ RgO n l bs cs ep OA ∧ Below w.heap.size w w'
theorem renewed_any (n : Nat) (l : List A) (a : Option Addr) (l' : List A) (cap : Nat) (ba : Option Addr) (bs : List Int) (bc : Nat) (ca : Option Addr) (C : List Cl) (cc : Nat) (oa : Option Addr) (O : List Lw) (oc : Nat) (d : Option Addr) (ids : List Int) (dc : Nat) (ep ep' : Int) (w : World) (hNR : NR n l bs (csl C)) (hs : SmE l l') (hk : ∀ k : Nat, (k : Int) ∉ ids → l'.getD k A.zero = l.getD k A.zero) (he : epB ep' = true) (hee : ep ≤ ep') (hO : Ovs w oa O) (hF : RgO n l bs (csl C) ep O) (hdl : ids.length ≤ 16384) (hin : ∀ x ∈ ids, 0 ≤ x ∧ x < (l'.length : Int)) (hd : Ints w d ids) (hwt : ∀ x ∈ l', 0 ≤ x.w ∧ x.w < 4294967296) (hl : l'.length ≤ 9223372036854775807) (hbl : bs.length ≤ 9223372036854775807) (hr : Arcs w a l') (hi : Ints w ba bs) (hR : Rws w ca C) :
  Calls Tryz.prog 44 #[.agg #[.int .i64 n, .slice a l'.length cap], .agg #[.slice ba bs.length bc, .slice ca C.length cc], .slice oa C.length oc, .slice d ids.length dc, .int .i64 ep'] w fun e w' => Rnw w w' e n l' bs (csl C) ep' (stN n (csl C) l' ids C.length) C.length := by
 have hNR' := hs.nr hNR
 have hmb : C.length = bs.length := by have := hNR.2.2.2.1; rw [csl_len] at this; exact this
 have hst : stE n l' bs (csl C) ids = 0 := by
  unfold stE
  rw [nsE_zero.2 hNR', if_neg (fun h => h rfl), if_neg (by omega), if_pos]
  rw [List.all_eq_true]
  intro x hx
  exact decide_eq_true (hin x hx)
 refine (renew_ok n a l' cap ba bs bc ca C cc oa O oc d ids dc ep' w hNR' he hO (hF.fit hs hee) (by omega) hd hwt hl hbl hr hi hR).mono ?_
 rintro e w' ⟨h1, _, h3⟩
 obtain ⟨g, rv, R, rfl, hos, hM⟩ := h1 hst
 have hcnt : ∀ j, j < C.length → (szL (lvl (csl C) j)).length ≤ 1024 := fun j hj => by
  obtain ⟨b1, b2, _⟩ := hNR.lv (k := j) (by omega)
  have h1 := szL_length (lvl (csl C) j)
  have := (chk_zero hNR.1).2.1
  omega
 obtain ⟨OA, f1, f2, f3⟩ := hos.ovs (fun j hj => by rw [(hM j hj).len]; exact hcnt j hj)
 have hri := renew_right (O := fun j => (lw O j).M) (R := R) hs hNR hwt hk (fun j hj => hM j (by omega)) (fun j hj i hi => ((hF.2 j hj).2 i hi).2)
 refine ⟨g, OA, rfl, f1, ⟨by omega, fun j hj => ?_⟩, h3⟩
 rw [(f3 j (by omega)).1]
 exact ⟨(hM j (by omega)).len, fun i hi => ⟨(hM j (by omega)).mf i hi, hri j hj i hi⟩⟩
theorem all_right {n : Nat} {l : List A} {bs : List Int} {C : List Cl} {ep : Int} {w' : World} {B g : Nat} {rv : Nat → Value} {R : Nat → List Mt} (hNR : NR n l bs (csl C)) (he : epB ep = true) (hos : OS w' B g C.length rv R) (hra : ∀ j, j < C.length → RA n l bs (csl C) ep j (R j)) :
  ∃ O, Ovs w' (some ⟨g, 0, none⟩) O ∧ RgO n l bs (csl C) ep O ∧ ∀ j, j < C.length → ∀ i, i < (szL (lvl (csl C) j)).length → (mt (lw O j).M i).ep = ep := by
 have hmb : C.length = bs.length := by have := hNR.2.2.2.1; rw [csl_len] at this; exact this
 have he2 : 0 ≤ ep ∧ ep ≤ 1073741824 := by simpa [epB] using he
 have hcnt : ∀ j, j < C.length → (szL (lvl (csl C) j)).length ≤ 1024 := fun j hj => by
  obtain ⟨b1, b2, _⟩ := hNR.lv (k := j) (by omega)
  have h1 := szL_length (lvl (csl C) j)
  have := (chk_zero hNR.1).2.1
  omega
 obtain ⟨O, f1, f2, f3⟩ := hos.ovs (fun j hj => by rw [(hra j hj).len]; exact hcnt j hj)
 refine ⟨O, f1, ⟨by omega, fun j hj => ?_⟩, fun j hj i hi => ?_⟩
 ·rw [(f3 j (by omega)).1]
  refine ⟨(hra j (by omega)).len, fun i hi => ?_⟩
  obtain ⟨q1, q2, q3, q4⟩ := (hra j (by omega)).rt i hi
  exact ⟨⟨q1, q2, by rw [q3]; omega, by rw [q4, rD_len]⟩, q4⟩
 ·rw [(f3 j hj).1]
  exact ((hra j hj).rt i hi).2.2.1
set_option maxHeartbeats 6400000 in
theorem alike14_any (a b : Option Addr) (m ca cb : Nat) (OA OB : List Lw) (w : World) (hA : Ovs w a OA) (hB : Ovs w b OB) (hlA : OA.length = m) (hlB : OB.length = m) (hm : m ≤ 5)
  (he : ∀ j, j < m → (lw OA j).M.length ≤ 1024 ∧ (lw OB j).M.length = (lw OA j).M.length ∧ ∀ i, i < (lw OA j).M.length → (mt (lw OA j).M i).D = (mt (lw OB j).M i).D) :
  Calls Tryz.prog 53 #[.slice a m ca, .slice b m cb] w fun e w' => e = .returned (.bool true) ∧ Below w.heap.size w w' := by
 obtain ⟨ax, ao, hax⟩ := hA.get
 obtain ⟨bx, bo, hbx⟩ := hB.get
 rw [hlA] at hax
 rw [hlB] at hbx
 have HAX := hid hax
 have HBX := hid hbx
 have HEE := hid he
 have HMA : Hid (∀ j, j < m → Mts w (lw OA j).a (lw OA j).M) := fun j hj => (hA.2 j (by omega)).1
 have HMB : Hid (∀ j, j < m → Mts w (lw OB j).a (lw OB j).M) := fun j hj => (hB.2 j (by omega)).1
 have hne : ((m : Int) != (m : Int)) = false := by simp
 clear hA hB hax hbx he hlA hlB
 generalize hp : w.heap.size = p at *
 go_enter Tryz.func53, Tryz.ntmps53
 go_wp2_with fail
 go_loopw [14] (fun q wr => ∃ (k : Nat), k ≤ m ∧ q = .int .i64 k ∧ Hid (Below p w wr)) (fun q _ => m - (intOf q).toNat)
 case atStart => exact ⟨0, Nat.zero_le _, rfl, Below.refl _ _⟩
 case round =>
  obtain ⟨k, hk, rfl, HBR⟩ := hrel
  by_cases hlk : k < m
  ·have hlk' : (k : Int) < m := by omega
   obtain ⟨rfl, hal, hat⟩ := HAX.out (by omega)
   obtain ⟨rfl, hbl, hbt⟩ := HBX.out (by omega)
   have c0 := hat k hlk
   have d0 := hbt k hlk
   obtain ⟨h1, h2, h3⟩ := HEE.out k hlk
   have hMA := HMA.out k hlk
   have hMB := HMB.out k hlk
   rw [h2] at d0
   have x0 := (HBR.out.cell (p := ⟨ax, ao + k, none⟩) (by show ax < p; omega)).trans c0
   have x1 := (HBR.out.cell (p := ⟨bx, bo + k, none⟩) (by show bx < p; omega)).trans d0
   obtain ⟨mx, mo, hmx⟩ := hMA.get
   obtain ⟨nx, no, hnx⟩ := hMB.get
   rw [h2] at hnx
   have HD : Hid (∀ i, i < (lw OA k).M.length → ∀ W2, Below p w W2 → Dts W2 (mt (lw OA k).M i).a (mt (lw OA k).M i).D ∧ Dts W2 (mt (lw OB k).M i).a (mt (lw OA k).M i).D ∧ (mt (lw OA k).M i).D.length ≤ 9223372036854775807) := fun i hi W2 hb => by
    refine ⟨(hMA.2 i hi).1.on (hp ▸ hb), ?_, (hMA.2 i hi).2.1⟩
    rw [h3 i hi]
    exact (hMB.2 i (by omega)).1.on (hp ▸ hb)
   have HMX := hid hmx
   have HNX := hid hnx
   have HE := hid h3
   obtain ⟨cn, HCN⟩ := named (lw OA k).M.length
   rw [HCN.out] at HD HMX HNX HE x0 x1 h1 c0 d0
   have hcne : ((cn : Int) != (cn : Int)) = false := by simp
   generalize (lw OA k).M = M at *
   generalize (lw OB k).M = M' at *
   generalize (lw OA k).a = va at *
   generalize (lw OA k).c = vc at *
   generalize (lw OB k).a = ua at *
   generalize (lw OB k).c = uc at *
   have HX0 := hid x0
   have HX1 := hid x1
   have HC0 := hid c0
   have HC1 := hid d0
   clear c0 d0 h2 h3 hMA hMB hmx hnx hat hbt HMA HMB HEE HAX HBX HCN
   go_wp2_with fail
   go_quiet (fail)
   go_wp2_with fail
   go_loopw [33] (fun q wr2 => ∃ (i : Nat), i ≤ cn ∧ q = .int .i64 i ∧ Hid (Below p w wr2)) (fun q _ => cn - (intOf q).toNat)
   case atStart => exact ⟨0, Nat.zero_le _, rfl, by first | exact HBR.out | exact HBR.out.trans (below_drewN _ _ _)⟩
   case round =>
    clear x0 x1 HX0 HX1
    obtain ⟨i, hi, rfl, HBI⟩ := hrel
    have y0 := (HBI.out.cell (p := ⟨ax, ao + k, none⟩) (by show ax < p; omega)).trans HC0.out
    have y1 := (HBI.out.cell (p := ⟨bx, bo + k, none⟩) (by show bx < p; omega)).trans HC1.out
    by_cases hli : i < cn
    ·have hli' : (i : Int) < cn := by omega
     obtain ⟨rfl, hmbl, hmat⟩ := HMX.out (by omega)
     obtain ⟨rfl, hnbl, hnat⟩ := HNX.out (by omega)
     obtain ⟨_, _, _, q3⟩ := hmat i hli
     obtain ⟨_, _, _, r3⟩ := hnat i hli
     rw [← HE.out i hli] at r3
     have u3 := (HBI.out.cell (p := ⟨mx, mo + i * 4 + 3, none⟩) (by show mx < p; omega)).trans q3
     have v3 := (HBI.out.cell (p := ⟨nx, no + i * 4 + 3, none⟩) (by show nx < p; omega)).trans r3
     have HSC : Hid (∀ W2, Below wr.heap.size wr W2 → Calls Tryz.prog 68 #[.slice (mt M i).a (mt M i).D.length (mt M i).c, .slice (mt M' i).a (mt M i).D.length (mt M' i).c] W2 fun e w' => e = .returned (.bool true) ∧ Below wr.heap.size wr w') := fun W2 hb => by
      obtain ⟨g1, g2, g3⟩ := HD.out i hli W2 (HBI.out.trans (hb.mono (by have := HBI.out.size; omega)))
      refine (sameD_any _ _ _ _ _ W2 g3 g1 g2).mono ?_
      rintro e w' ⟨h1, h2⟩
      exact ⟨h1, hb.trans (h2.mono hb.size)⟩
     have hsz := HBI.out.size
     generalize (mt M i).a = za at *
     generalize (mt M i).c = zc at *
     generalize (mt M' i).a = ya at *
     generalize (mt M' i).c = yc at *
     generalize (mt M i).D.length = dl at *
     have HU3 := hid u3
     have HV3 := hid v3
     have HY0 := hid y0
     have HY1 := hid y1
     clear q3 r3 hmat hnat
     go_wp2_with fail
     go_region_law (rw [if_pos (by rfl)]; go_simp; go_at_call 68; refine (HSC.out _ (by first | exact Below.refl _ _ | exact ⟨rfl, rfl, rfl, Nat.le_refl _, fun _ _ => rfl⟩)).mono ?_; rintro e w3 ⟨rfl, hb3⟩; have HB3 : Hid (Below p w w3) := HBI.out.trans (hb3.mono (by omega)); clear hb3)
     all_goals
      go_wp2_with fail
      first | exact ⟨⟨i + 1, by omega, by simp, HB3⟩, by simp [intOf]; omega⟩ | exact ⟨⟨i + 1, by omega, by simp, HB3.out.drew⟩, by simp [intOf]; omega⟩
    ·have hli' : ¬ (i : Int) < cn := by omega
     go_wp2_with fail
     exact ⟨⟨k + 1, by omega, by simp, HBI⟩, by simp [intOf]; omega⟩
  ·have hlk' : ¬ (k : Int) < m := by omega
   go_wp2_with fail
   go_ret
   exact ⟨rfl, HBR.out⟩
theorem large14_any (N : Int) (a : Option Addr) (l : List A) (cap : Nat) (w : World) (hl : l.length ≤ 9223372036854775807) (hr : Arcs w a l) :
  Calls Tryz.prog 36 #[.agg #[.int .i64 N, .slice a l.length cap]] w fun e w' => e = .returned (.bool (lgB N l)) ∧ Below w.heap.size w w' := by
 have hb0 : Below w.heap.size w (w.alloc (.cells #[.int .i64 N, .slice a l.length cap] 24)) := (Below.refl _ _).alloc (Nat.le_refl _) _
 have hg := heap_top w (.cells #[.int .i64 N, .slice a l.length cap] 24)
 have HCH := hid (rcheck_any N a l cap (w.alloc (.cells #[.int .i64 N, .slice a l.length cap] 24)) hl (hr.on hb0))
 have HB0 := hid hb0
 have HG := hid hg
 obtain ⟨⟨c0, c1⟩, _⟩ := two_cells hg
 obtain ⟨V, HV⟩ := named (lgB N l)
 rw [HV.out]
 have HVV : Hid (V = (decide (chkE N l = 0) && (decide (40 < N) || decide (200 < l.length)))) := HV.out.symm
 obtain ⟨E, HE⟩ := named (chkE N l)
 obtain ⟨AT, HAT⟩ := named (chkAt N l)
 rw [HE.out] at HVV HCH
 rw [HAT.out] at HCH
 have hwz : w.heap.size ≤ (w.alloc (.cells #[.int .i64 N, .slice a l.length cap] 24)).heap.size := hb0.size
 have hpW : w.heap.size < (w.alloc (.cells #[.int .i64 N, .slice a l.length cap] 24)).heap.size := by simp
 clear hg hr hb0
 generalize hp : w.heap.size = p at *
 go_enter Tryz.func36, Tryz.ntmps36
 go_wp2_with fail
 generalize hW : w.alloc (.cells #[.int .i64 N, .slice a l.length cap] 24) = W at *
 clear hW
 refine HCH.out.mono ?_
 rintro e w1 ⟨rfl, hb1⟩
 have HB1 : Hid (Below p w w1) := HB0.out.trans (hb1.mono hwz)
 obtain ⟨⟨d0, d1⟩, _⟩ := two_cells ((hb1.block p hpW).trans HG.out)
 clear hb1 HCH c0 c1 HG HB0
 by_cases hE : E = 0
 ·subst hE
  by_cases h1 : 40 < N
  ·obtain rfl : V = true := by rw [HVV.out]; simp [h1]
   go_wp2_with fail
   go_ret
   exact ⟨rfl, HB1.out⟩
  ·by_cases h2 : 200 < l.length
   ·obtain rfl : V = true := by rw [HVV.out]; simp [h2]
    have h2' : (200 : Int) < l.length := by omega
    go_wp2_with fail
    go_ret
    exact ⟨rfl, HB1.out⟩
   ·obtain rfl : V = false := by rw [HVV.out]; simp [h1]; omega
    have h2' : ¬ (200 : Int) < l.length := by omega
    go_wp2_with fail
    go_ret
    refine ⟨?_, HB1.out⟩
    show Ending.returned (Value.bool (decide (40 < N) || decide (200 < (l.length : Int)))) = _
    rw [decide_eq_false (show ¬ 40 < N by omega), decide_eq_false (show ¬ (200 : Int) < (l.length : Int) by omega)]
    rfl
 ·obtain rfl : V = false := by rw [HVV.out]; simp [hE]
  have hE' : (E == 0) = false := by simpa using hE
  clear hE
  go_wp2_with fail
  go_ret
  exact ⟨rfl, HB1.out⟩
end Go.Proofs.YtaafkpojjdjphaaGreat
