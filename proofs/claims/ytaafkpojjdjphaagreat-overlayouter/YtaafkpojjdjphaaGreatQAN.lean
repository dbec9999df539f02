import Derived.Test.YtaafkpojjdjphaaGreatQAM
open Go.Lib (hid)
set_option maxRecDepth 100000
namespace Go.Proofs.YtaafkpojjdjphaaGreat
open Go.RowKit
def wtL (l : List A) (ids : List Int) : List Int := ids.map (fun i => (l.getD i.toNat A.zero).w)
theorem wtL_len (l : List A) (ids : List Int) : (wtL l ids).length = ids.length := by simp [wtL]
theorem wtL_at {l : List A} {ids : List Int} {k : Nat} (h : k < ids.length) : (wtL l ids).getD k 0 = (l.getD (ids.getD k 0).toNat A.zero).w := by simp [wtL, List.getD, h]
def wqE (N : Int) (l : List A) (ids : List Int) : Int := if chkE N l ≠ 0 then chkE N l else if 16384 < ids.length then 2 else if ids.all (fun i => decide (0 ≤ i ∧ i < (l.length : Int))) then 0 else 5
def wtV (l : List A) (ids : List Int) (k i : Nat) : Value := if i < k then .int .u32 ((wtL l ids).getD i 0) else .int .u32 0
theorem wtV_step (l : List A) (ids : List Int) (k i : Nat) (x : Int) (hx : (wtL l ids).getD k 0 = x) : updV (wtV l ids k) k (.int .u32 x) i = wtV l ids (k + 1) i := by
 unfold updV wtV
 by_cases h : i = k
 ·subst h; rw [if_pos rfl, if_pos (by omega), hx]
 ·rw [if_neg h]
  by_cases h2 : i < k
  ·rw [if_pos h2, if_pos (by omega)]
  ·rw [if_neg h2, if_neg (by omega)]
theorem info54 : (Tryz.prog.info? 82).map (fun i => (i.zero, i.size, i.bytes)) = some (some (.int .u32 0), 1, 4) := by kernel_rfl
theorem made_w (l : List A) (ids : List Int) (n : Nat) : madeCells (Value.int .u32 0).cells (n * 1) = ((List.range n).map (wtV l ids 0)).toArray := by
 apply Array.ext'
 show (madeCells #[Value.int .u32 0] (n * 1)).toList = _
 rw [toList_madeCells_one, Nat.mul_one]
 apply List.ext_getElem
 ·simp
 ·intro i h1 h2
  simp [wtV]
theorem wt_wts {w : World} {g : Nat} {l : List A} {ids : List Int} (h : TbV w g ids.length 82 (wtV l ids ids.length)) : Wts w (some ⟨g, 0, none⟩) (wtL l ids) := by
 refine Or.inr ⟨g, 0, rfl, h.lt, fun j hj => ?_⟩
 rw [wtL_len] at hj
 rw [Nat.zero_add, h.cell hj]
 unfold wtV
 rw [if_pos hj]
theorem near00 (N : Int) (l : List A) : N5.nearE N (l.map toN) [0, 0] = chkE N l := by
 unfold N5.nearE
 rw [chkE_N]
 by_cases h : chkE N l = 0
 ·have h1 := (chk_zero h).1
  rw [if_pos h, h, if_pos]
  simp [N5.okV]
  omega
 ·rw [if_neg h]
set_option maxHeartbeats 3200000 in
theorem length0_any (N : Int) (a : Option Addr) (l : List A) (cap : Nat) (w : World) (hl : l.length ≤ 9223372036854775807) (hr : Arcs w a l) :
  Calls Tryz.prog 87 #[.agg #[.int .i64 N, .slice a l.length cap], .int .i64 0, .int .i64 0, .slice none 0 0] w fun e w' => e = .returned (.tuple #[.int .u64 0, .int .i64 (chkE N l)]) ∧ Below w.heap.size w w' := by
 obtain ⟨hg0, hg1, hb0, hsz⟩ := top2 w (.cells #[.int .i64 N, .slice a l.length cap] 24) (.cells #[.int .i64 0, .int .i64 0] 3)
 obtain ⟨⟨a0, a1⟩, _⟩ := two_cells ((top2 w (.cells #[.int .i64 N, .slice a l.length cap] 24) (.cells #[.int .i64 0, .int .i64 0] 3)).1)
 have hx : N5.Ints ((w.alloc (.cells #[.int .i64 N, .slice a l.length cap] 24)).alloc (.cells #[.int .i64 0, .int .i64 0] 3)) (some ⟨w.heap.size + 1, 0, none⟩) [0, 0] := by
  refine Or.inr ⟨w.heap.size + 1, 0, rfl, by rw [hsz]; omega, fun j hj => ?_⟩
  obtain ⟨⟨b0, b1⟩, _⟩ := two_cells hg1
  match j, hj with
  | 0, _ => exact b0
  | 1, _ => exact b1
 have HCK := hid (N5.ncheck_any N a (l.map toN) cap (some ⟨w.heap.size + 1, 0, none⟩) [0, 0] 2 _ (by rw [List.length_map]; exact hl) (by decide) (arcs_N (hr.on hb0)) hx)
 rw [near00, List.length_map] at HCK
 have HB0 := hid hb0
 obtain ⟨E, HE⟩ := named (chkE N l)
 rw [HE.out] at HCK
 rw [HE.out]
 have c0 := (two_cells (heap_top w (.cells #[.int .i64 N, .slice a l.length cap] 24))).1.1
 have c1 := (two_cells (heap_top w (.cells #[.int .i64 N, .slice a l.length cap] 24))).1.2
 clear hr hx hg0 hg1 hb0
 generalize hp : w.heap.size = p at *
 have HCK2 : Hid (Calls Tryz.prog 123 #[.agg #[.int .i64 N, .slice a l.length cap], .slice (some ⟨p + 1, 0, none⟩) 2 2] ((w.alloc (.cells #[.int .i64 N, .slice a l.length cap] 24)).alloc (.cells #[.int .i64 0, .int .i64 0] 3)) fun e w' => e = .returned (.int .i64 E) ∧ Below p w w') := HCK.out.mono (fun e w' h => ⟨h.1, HB0.out.trans (h.2.mono (by omega))⟩)
 clear HCK HB0
 go_enter Tryz.func87, Tryz.ntmps87
 go_wp2_with fail
 refine HCK2.out.mono ?_
 rintro e w2 ⟨rfl, hb2⟩
 have HB2 := hid hb2
 clear hb2 HCK2 a0 a1 c0 c1
 by_cases h : E = 0
 ·subst h
  go_wp2_with fail
  go_loop [31] (fun i => i = .int .i64 0) (fun _ => 0)
  case atStart => rfl
  case round =>
   subst hrel
   go_wp2_with fail
   go_loop [13, 14, 48] (fun x y i => x = .int .i64 0 ∧ y = .int .u64 0 ∧ i = .int .i64 0) (fun _ _ _ => 0)
   case atStart => exact ⟨rfl, rfl, rfl⟩
   case round =>
    obtain ⟨rfl, rfl, rfl⟩ := hrel
    go_wp2_with fail
    go_ret2
    exact ⟨rfl, HB2.out⟩
 ·have e1 : (E != 0) = true := by simpa using h
  go_wp2_with fail
  go_ret2
  exact ⟨rfl, HB2.out⟩
set_option maxHeartbeats 3200000 in
theorem weights_any (N : Int) (a : Option Addr) (l : List A) (cap : Nat) (d : Option Addr) (ids : List Int) (dc : Nat) (w : World) (hl : l.length ≤ 9223372036854775807) (hdl : ids.length ≤ 9223372036854775807) (hr : Arcs w a l) (hj : Ints w d ids) :
  Calls Tryz.prog 32 #[.agg #[.int .i64 N, .slice a l.length cap], .slice d ids.length dc] w fun e w' => (wqE N l ids = 0 → ∃ g, e = .returned (.tuple #[.slice (some ⟨g, 0, none⟩) ids.length ids.length, .int .i64 0]) ∧ w.heap.size ≤ g ∧ Wts w' (some ⟨g, 0, none⟩) (wtL l ids)) ∧ (wqE N l ids ≠ 0 → e = .returned (.tuple #[.slice none 0 0, .int .i64 (wqE N l ids)])) ∧ Below w.heap.size w w' := by
 have hg := heap_top w (.cells #[.int .i64 N, .slice a l.length cap] 24)
 have hb0 : Below w.heap.size w (w.alloc (.cells #[.int .i64 N, .slice a l.length cap] 24)) := (Below.refl _ _).alloc (Nat.le_refl _) _
 have hsz : (w.alloc (.cells #[.int .i64 N, .slice a l.length cap] 24)).heap.size = w.heap.size + 1 := by simp
 obtain ⟨⟨a0, a1⟩, _⟩ := two_cells hg
 have HLN := hid (length0_any N a l cap _ hl (hr.on hb0))
 have HB0 := hid hb0
 have HG0 := hid hg
 have HRA := hid hr
 have HJ := hid hj
 have HST : Hid (wqE N l ids = if chkE N l ≠ 0 then chkE N l else if 16384 < ids.length then 2 else if ids.all (fun i => decide (0 ≤ i ∧ i < (l.length : Int))) then 0 else 5) := rfl
 obtain ⟨E, HE⟩ := named (chkE N l)
 rw [HE.out] at HLN HST
 obtain ⟨S, HSS⟩ := named (wqE N l ids)
 rw [HSS.out] at HST
 rw [HSS.out]
 clear hr hj hb0 hg HSS
 generalize hp : w.heap.size = p at *
 go_enter Tryz.func32, Tryz.ntmps32
 go_wp2_with fail
 generalize hW : w.alloc (.cells #[.int .i64 N, .slice a l.length cap] 24) = W at *
 clear hW
 refine HLN.out.mono ?_
 rintro e w1 ⟨rfl, hb1⟩
 have HB1 : Hid (Below p w w1) := HB0.out.trans (hb1.mono (by omega))
 have HG1 : Hid (w1.heap[p]? = some (.cells #[.int .i64 N, .slice a l.length cap] 24)) := (hb1.block p (by omega)).trans HG0.out
 have hw1 : p + 1 ≤ w1.heap.size := by have := hb1.size; omega
 clear a0 a1 hb1 HLN HB0 HG0
 have HBW := HB1
 by_cases hE : E = 0
 ·subst hE
  have HST : Hid (S = if 16384 < ids.length then 2 else if ids.all (fun i => decide (0 ≤ i ∧ i < (l.length : Int))) then 0 else 5) := by
   show _ = _
   rw [HST.out, if_neg (by simp)]
  by_cases h16 : 16384 < ids.length
  ·have h16' : (16384 : Int) < ids.length := by omega
   obtain rfl : S = 2 := by rw [HST.out, if_pos h16]
   go_wp2_with fail
   go_ret2
   first | exact ⟨rfl, HBW.out⟩ | exact ⟨(fun h => absurd h (by decide)), (fun _ => rfl), HBW.out⟩
  ·have h16' : ¬ (16384 : Int) < ids.length := by omega
   have HST : Hid (S = if ids.all (fun i => decide (0 ≤ i ∧ i < (l.length : Int))) then 0 else 5) := by
    show _ = _
    rw [HST.out, if_neg h16]
   have hl8 : l.length ≤ 8192 := (chk_zero HE.out).2.2.1
   obtain ⟨iz, oz, hiz⟩ := HJ.out.get
   have HIZ := hid hiz
   obtain ⟨ix, ox, hix⟩ := HRA.out.get
   have HIX := hid hix
   clear hiz hix
   obtain ⟨i54, hi54, hz54, hs54, hby54⟩ := info_parts info54
   obtain ⟨m, HM⟩ := named ids.length
   rw [HM.out] at h16 h16' HIZ
   rw [HM.out]
   have hmk : ∀ w, (Instr.makeSlice 29 (.int .i64 m) (.int .i64 m)).run Tryz.prog w = .ok (.slice (some ⟨w.heap.size, 0, none⟩) m m) (w.alloc (.cells ((List.range m).map (wtV l ids 0)).toArray 82)) := fun w => by
    have := run_make (P := Tryz.prog) w 29 82 i54 (.int .u32 0) Tryz.underlying29 hi54 hz54 .i64 .i64 m m (by omega) (by omega) (by rw [hby54]; omega) (by omega)
    rw [hs54] at this
    rw [this, Int.toNat_natCast, made_w l ids]
   generalize hq : w1.heap.size = q at *
   have HT0 : Hid (TbV (w1.alloc (.cells ((List.range m).map (wtV l ids 0)).toArray 82)) q m 82 (wtV l ids 0)) := by
    have h := heap_top w1 (.cells ((List.range m).map (wtV l ids 0)).toArray 82)
    rw [hq] at h
    exact h
   have HBQ : Hid (Below q w1 (w1.alloc (.cells ((List.range m).map (wtV l ids 0)).toArray 82))) := (Below.refl _ _).alloc (by omega) _
   have HSTV := hid (wtV_step l ids)
   have HFN : Hid (∀ wr, TbV wr q m 82 (wtV l ids m) → Wts wr (some ⟨q, 0, none⟩) (wtL l ids)) := fun wr h => wt_wts (by rw [HM.out]; exact h)
   go_wp2_with fail
   generalize w1.alloc (.cells ((List.range m).map (wtV l ids 0)).toArray 82) = w2 at *
   clear hmk
   go_loopw [27] (fun i wr => ∃ (k : Nat), k ≤ m ∧ i = .int .i64 k ∧ Hid ((ids.take k).all (fun i => decide (0 ≤ i ∧ i < (l.length : Int))) = true) ∧ Hid (TbV wr q m 82 (wtV l ids k)) ∧ Hid (Below q w1 wr)) (fun i _ => m - (intOf i).toNat)
   case atStart => exact ⟨0, Nat.zero_le _, rfl, by show _ = _; simp, HT0, HBQ⟩
   case round =>
    clear HT0 HBQ
    obtain ⟨k, hk, rfl, HK, HTR, HBR⟩ := hrel
    have HBW : Hid (Below p w wr) := HB1.out.trans (HBR.out.mono (by omega))
    obtain ⟨⟨k0, k1⟩, _⟩ := two_cells ((HBR.out.block p (by omega)).trans HG1.out)
    by_cases hlk : k < m
    ·have hlk' : (k : Int) < m := by omega
     have hk0 : (0 : Int) ≤ k := by omega
     have hlk2 : k < ids.length := by rw [HM.out]; exact hlk
     obtain ⟨rfl, hzl, hzat⟩ := HIZ.out (by omega)
     have s0 := (HBW.out.cell (p := ⟨iz, oz + k, none⟩) (hp ▸ hzl)).trans (hzat k hlk)
     have HT := hid (all_take_I (p := (fun i => decide (0 ≤ i ∧ i < (l.length : Int)))) hlk2 HK.out)
     have HF := hid (all_not_I (p := (fun i => decide (0 ≤ i ∧ i < (l.length : Int)))) hlk2)
     have HWA := hid (wtL_at (l := l) hlk2)
     generalize ids.getD k 0 = x at *
     clear hzat hlk2
     by_cases h1 : x < 0
     ·obtain rfl : S = 5 := by rw [HST.out, if_neg (by rw [HF.out (decide_eq_false (by omega))]; simp)]
      go_wp2_with fail
      go_ret2
      first | exact ⟨rfl, HBW.out⟩ | exact ⟨(fun h => absurd h (by decide)), (fun _ => rfl), HBW.out⟩
     ·by_cases h2 : (l.length : Int) ≤ x
      ·obtain rfl : S = 5 := by rw [HST.out, if_neg (by rw [HF.out (decide_eq_false (by omega))]; simp)]
       go_wp2_with fail
       go_ret2
       first | exact ⟨rfl, HBW.out⟩ | exact ⟨(fun h => absurd h (by decide)), (fun _ => rfl), HBW.out⟩
      ·have HK2 : Hid ((ids.take (k + 1)).all (fun i => decide (0 ≤ i ∧ i < (l.length : Int))) = true) := HT.out (decide_eq_true (by omega))
       obtain ⟨i, rfl⟩ : ∃ i : Nat, x = i := ⟨x.toNat, by omega⟩
       rw [Int.toNat_natCast] at HWA
       obtain ⟨rfl, hbl, hat⟩ := HIX.out (by omega)
       have x2 := (hat i (by omega)).2.2
       have y2 := (HBW.out.cell (p := ⟨ix, ox + i * 3 + 2, none⟩) (hp ▸ hbl)).trans x2
       obtain ⟨xw, HXW⟩ := named (l.getD i A.zero).w
       rw [HXW.out] at y2 HWA
       have q0 := HTR.out.free k
       have r0 := HTR.out.cell (v := k) (by omega)
       have hi0 : (0 : Int) ≤ i := by omega
       have hi1 : (i : Int) < l.length := by omega
       have HTN : Hid (TbV (wr.setCell ⟨q, k, none⟩ (.int .u32 xw)) q m 82 (wtV l ids (k + 1))) := (HTR.out.set k (.int .u32 xw)).congr (fun c _ => HSTV.out k c xw HWA.out)
       have HBN : Hid (Below q w1 (wr.setCell ⟨q, k, none⟩ (.int .u32 xw))) := HBR.out.setCell (p := ⟨q, k, none⟩) (by simp) _
       clear x2 hat h1 h2
       go_wp2_with fail
       exact ⟨⟨k + 1, by omega, by simp, HK2, HTN, HBN⟩, by simp [intOf]; omega⟩
    ·have hlk' : ¬ (k : Int) < m := by omega
     obtain rfl : k = m := by omega
     obtain rfl : S = 0 := by
      have HAL := HK.out
      rw [← HM.out, List.take_length] at HAL
      rw [HST.out, if_pos HAL]
     have HWR := hid (HFN.out wr HTR.out)
     go_wp2_with fail
     go_ret2
     exact ⟨⟨q, by rw [HM.out]; rfl, by omega, HWR.out⟩, HBW.out⟩
 ·have e1 : (E != 0) = true := by simpa using hE
  obtain rfl : S = E := by rw [HST.out, if_pos hE]
  go_wp2_with fail
  go_ret2
  exact ⟨fun h => absurd h hE, fun _ => rfl, HBW.out⟩
def wiL (l : List A) (ids : List Nat) : List A := wgL l ids (wtL l (ints ids))
def inC (L : List Int) (q : Int) (v : Nat) : Bool := decide (L.getD v 0 = q)
theorem wk_in {l m : List N5.A} {ok : Nat → Bool} {s v : Nat} {d : Int} (hm : ∀ x ∈ l, ok (N5.src x) = true → ok (N5.dst x) = true → x ∈ m) (h : N5.Wk l ok s v d) : N5.Wk m (fun _ => true) s v d ∧ ok v = true := by
 induction h with
 | nil e => exact ⟨N5.Wk.nil rfl, e⟩
 | snoc hx _ ho ih => exact ⟨N5.Wk.snoc (hm _ hx ih.2 ho) ih.1 rfl, ho⟩
theorem wk_out {l m : List N5.A} {ok : Nat → Bool} {s v : Nat} {d : Int} (hs : ok s = true) (hm : ∀ x ∈ m, x ∈ l ∧ ok (N5.dst x) = true) (h : N5.Wk m (fun _ => true) s v d) : N5.Wk l ok s v d := by
 induction h with
 | nil _ => exact N5.Wk.nil hs
 | snoc hx _ _ ih => exact N5.Wk.snoc (hm _ hx).1 ih (hm _ hx).2
end Go.Proofs.YtaafkpojjdjphaaGreat
namespace Go.Proofs.YtaafkpojjdjphaaGreat
open Go.RowKit
open N5 (Wk IsD src dst Inf)
theorem isD_out {l m : List N5.A} {ok : Nat → Bool} {s : Nat} {F : Nat → Int} (hs : ok s = true) (h1 : ∀ x ∈ l, ok (src x) = true → ok (dst x) = true → x ∈ m) (h2 : ∀ x ∈ m, x ∈ l ∧ ok (dst x) = true) (h : IsD m (fun _ => true) s F) : IsD l ok s F :=
 ⟨h.lo, h.hi, fun v hv => wk_out hs h2 (h.wk v hv), fun v d hw => h.le v d (wk_in h1 hw).1⟩
theorem getA_memU {l : List A} {i : Nat} (h : i < l.length) : l.getD i A.zero ∈ l := by
 rw [List.getD_eq_getElem?_getD, List.getElem?_eq_getElem h]
 exact List.getElem_mem h
theorem wi_mem {l : List A} {p : A → Bool} {x : A} : x ∈ wiL l (arL l p) ↔ x ∈ l ∧ p x = true := by
 have hm : ∀ i, i ∈ arL l p ↔ i < l.length ∧ p (l.getD i A.zero) = true := fun i => by unfold arL; rw [cho_mem]; rfl
 have hw : ∀ k, k < (arL l p).length → wgA l (arL l p) (wtL l (ints (arL l p))) k = l.getD ((arL l p).getD k 0) A.zero := fun k hk => by
  unfold wgA
  rw [wtL_at (by rw [ints_len]; exact hk), ints_getD hk, Int.toNat_natCast]
 unfold wiL wgL
 rw [List.mem_map]
 constructor
 ·rintro ⟨k, hk, e⟩
  have hk' : k < (arL l p).length := by simpa using hk
  rw [hw k hk'] at e
  obtain ⟨h1, h2⟩ := (hm _).1 (mem_getD.2 ⟨k, hk', rfl⟩)
  rw [← e]
  exact ⟨getA_memU h1, h2⟩
 ·rintro ⟨h1, h2⟩
  obtain ⟨i, hi, e⟩ := List.getElem_of_mem h1
  have e2 : l.getD i A.zero = x := by rw [List.getD_eq_getElem?_getD, List.getElem?_eq_getElem hi]; exact e
  obtain ⟨k, hk, e3⟩ := mem_getD.1 ((hm i).2 ⟨hi, by rw [e2]; exact h2⟩)
  exact ⟨k, by simpa using hk, by rw [hw k hk, e3, e2]⟩
theorem rdA_mem {r : List A} {x y : A} : y ∈ rdA r x ↔ y ∈ r ∨ y = x ∧ x.w < Inf := by
 unfold rdA
 split
 ·rename_i h
  rw [List.mem_append, List.mem_singleton]
  exact ⟨fun h1 => h1.imp id (fun e => ⟨e, h⟩), fun h1 => h1.imp id (fun e => e.1)⟩
 ·rename_i h
  exact ⟨Or.inl, fun h1 => h1.elim id (fun e => absurd e.2 h)⟩
theorem adA_mem {y : A} : ∀ (l r : List A), y ∈ adA r l ↔ y ∈ r ∨ y ∈ l ∧ y.w < Inf
 | [], r => by simp [adA]
 | x :: l, r => by
   show y ∈ adA (rdA r x) l ↔ _
   rw [adA_mem l (rdA r x), rdA_mem, List.mem_cons]
   constructor
   ·rintro ((h | ⟨e, h⟩) | ⟨h1, h2⟩)
    ·exact Or.inl h
    ·subst e; exact Or.inr ⟨Or.inl rfl, h⟩
    ·exact Or.inr ⟨Or.inr h1, h2⟩
   ·rintro (h | ⟨e | h1, h2⟩)
    ·exact Or.inl (Or.inl h)
    ·subst e; exact Or.inl (Or.inr ⟨rfl, h2⟩)
    ·exact Or.inr ⟨h1, h2⟩
theorem adM_mem {S : List Nat} {D : List Int} {r : List A} {y : A} : ∀ k, y ∈ adM S D r k ↔ y ∈ r ∨ ∃ t, t < k ∧ y = mxA S D t ∧ y.w < Inf
 | 0 => by simp [adM]
 | k + 1 => by
   show y ∈ rdA (adM S D r k) (mxA S D k) ↔ _
   rw [rdA_mem, adM_mem k]
   constructor
   ·rintro ((h | ⟨t, h1, h2⟩) | ⟨e, h⟩)
    ·exact Or.inl h
    ·exact Or.inr ⟨t, by omega, h2⟩
    ·exact Or.inr ⟨k, by omega, e, by rw [e]; exact h⟩
   ·rintro (h | ⟨t, h1, e, h2⟩)
    ·exact Or.inl (Or.inl h)
    ·by_cases ht : t = k
     ·subst ht; exact Or.inr ⟨e, by rw [← e]; exact h2⟩
     ·exact Or.inl (Or.inr ⟨t, by omega, e, h2⟩)
theorem upR_mem {S : Nat → List Nat} {D : Nat → List Int} {y : A} : ∀ k, y ∈ upR S D k ↔ ∃ i, i < k ∧ ∃ t, t < (D i).length ∧ y = mxA (S i) (D i) t ∧ y.w < Inf
 | 0 => by simp [upR]
 | k + 1 => by
   show y ∈ adM (S k) (D k) (upR S D k) (D k).length ↔ _
   rw [adM_mem, upR_mem k]
   constructor
   ·rintro (⟨i, h1, h2⟩ | h)
    ·exact ⟨i, by omega, h2⟩
    ·exact ⟨k, by omega, h⟩
   ·rintro ⟨i, h1, h2⟩
    by_cases e : i = k
    ·subst e; exact Or.inr h2
    ·exact Or.inl ⟨i, by omega, h2⟩
theorem mxK_at (wl : List A) (S : List Nat) : ∀ k, k ≤ S.length → (mxK wl S k).length = k * S.length ∧ ∀ a b, a < k → b < S.length → (mxK wl S k).getD (a * S.length + b) 0 = dF wl (S.getD a 0) (S.getD b 0)
 | 0, _ => by simp [mxK]
 | k + 1, hk => by
   obtain ⟨h1, h2⟩ := mxK_at wl S k (by omega)
   rw [mxK_succ (by omega), List.take_length]
   refine ⟨by rw [List.length_append, h1, List.length_map, Nat.succ_mul], fun a b ha hb => ?_⟩
   by_cases e : a = k
   ·subst e
    rw [List.getD_eq_getElem?_getD, List.getElem?_append_right (by omega), h1, Nat.add_sub_cancel_left, List.getElem?_map, List.getElem?_eq_getElem hb, List.getD_eq_getElem?_getD (i := b), List.getElem?_eq_getElem hb]
    rfl
   ·have hlt : a * S.length + b < k * S.length := by
     have : (a + 1) * S.length ≤ k * S.length := Nat.mul_le_mul_right _ (by omega)
     rw [Nat.succ_mul] at this
     omega
    rw [List.getD_eq_getElem?_getD, List.getElem?_append_left (by omega), ← List.getD_eq_getElem?_getD]
    exact h2 a b (by omega) hb
theorem mxL_len (wl : List A) (S : List Nat) : (mxL wl S).length = S.length * S.length := (mxK_at wl S S.length (Nat.le_refl _)).1
theorem mxL_at {wl : List A} {S : List Nat} {t : Nat} (h : t < (mxL wl S).length) : t / S.length < S.length ∧ t % S.length < S.length ∧ (mxL wl S).getD t 0 = dF wl (S.getD (t / S.length) 0) (S.getD (t % S.length) 0) := by
 rw [mxL_len] at h
 have h0 : 0 < S.length := Nat.pos_of_ne_zero (fun e => by rw [e] at h; simp at h)
 have h1 : t / S.length < S.length := Nat.div_lt_of_lt_mul h
 have h2 : t % S.length < S.length := Nat.mod_lt _ h0
 refine ⟨h1, h2, ?_⟩
 have h3 := (mxK_at wl S S.length (Nat.le_refl _)).2 _ _ h1 h2
 rw [Nat.mul_comm, Nat.div_add_mod] at h3
 exact h3
theorem crs_iffU {L : List Int} {l : List A} {v : Nat} : crs L l l.length v = true ↔ ∃ x ∈ l, prt L x = true ∧ (x.f.toNat = v ∨ x.t.toNat = v) := by
 unfold crs
 rw [List.take_length, List.any_eq_true]
 constructor
 ·rintro ⟨x, hx, h⟩
  rw [Bool.and_eq_true, Bool.or_eq_true, decide_eq_true_eq, decide_eq_true_eq] at h
  exact ⟨x, hx, h⟩
 ·rintro ⟨x, hx, h⟩
  refine ⟨x, hx, ?_⟩
  rw [Bool.and_eq_true, Bool.or_eq_true, decide_eq_true_eq, decide_eq_true_eq]
  exact h
theorem bdL_memU {n : Nat} {L : List Int} {l : List A} {q : Int} {v : Nat} : v ∈ bdL n L l q ↔ v < n ∧ L.getD v 0 = q ∧ crs L l l.length v = true := by
 unfold bdL
 rw [cho_mem]
 unfold bdP
 rw [Bool.and_eq_true, decide_eq_true_eq]
theorem rise_upr {n : Nat} {l : List A} {X Y : List Int} {q : Int} {K : List Nat} {SS : Nat → List Nat} {DD : Nat → List Int} (hen : ∀ x ∈ l, (0 ≤ x.f ∧ x.f < n) ∧ (0 ≤ x.t ∧ x.t < n)) (hwt : ∀ x ∈ l, 0 ≤ x.w ∧ x.w < 4294967296) (hX : X.length = n) (ht : tdy X 0 = true) (hn : Nst X Y) (hK : K = chL X Y q)
  (hS : ∀ i, i < K.length → SS i = bdL n X l (K.getD i 0 : Nat)) (hD : ∀ i, i < K.length → DD i = mxL (wiL l (arL l (hld X (K.getD i 0 : Nat)))) (SS i)) (hI : ∀ i, i < K.length → ∀ b, b ∈ SS i → IsD ((wiL l (arL l (hld X (K.getD i 0 : Nat)))).map toN) (fun _ => true) b (dF (wiL l (arL l (hld X (K.getD i 0 : Nat)))) b)) :
  Upr (l.map toN) ((adA (upR SS DD K.length) (wiL l (arL l (btP Y X q)))).map toN) n (inC Y q) (fun v => X.getD v 0) (fun v => v < n ∧ Y.getD v 0 = q ∧ crs X l l.length v = true) (fun b v => dF (wiL l (arL l (hld X (X.getD b 0)))) b v) := by
 have hsrc : ∀ x : A, src (toN x) = x.f.toNat := fun _ => rfl
 have hdst : ∀ x : A, dst (toN x) = x.t.toNat := fun _ => rfl
 have hlab : ∀ v, v < n → 0 ≤ X.getD v 0 := fun v hv => ((ls_right ht).2.2 v (by omega)).1
 -- a vertex of the cell: its child's place
 have hkid : ∀ v, v < n → Y.getD v 0 = q → ∃ i, i < K.length ∧ ((K.getD i 0 : Nat) : Int) = X.getD v 0 := fun v hv e => by
  have h1 := (ch_iffU ht hn q (v := v) (by omega)).1 e
  rw [← hK] at h1
  obtain ⟨i, hi, e2⟩ := mem_getD.1 h1
  have := hlab v hv
  exact ⟨i, hi, by omega⟩
 -- a child's vertices are of the cell
 have hin : ∀ i, i < K.length → ∀ v, v < n → X.getD v 0 = ((K.getD i 0 : Nat) : Int) → Y.getD v 0 = q := fun i hi v hv e => by
  refine (ch_iffU ht hn q (v := v) (by omega)).2 ?_
  rw [e, ← hK, Int.toNat_natCast]
  exact mem_getD.2 ⟨i, hi, rfl⟩
 refine ⟨fun x hx => ?_, fun x hx => ?_, fun b hb => ?_, fun u v hu hv e => ?_, fun x hx o1 o2 hc => ?_, fun b v hb hv ob hc hlt => ?_, fun x hx => ?_⟩
 ·obtain ⟨y, hy, rfl⟩ := List.mem_map.1 hx
  exact (hwt y hy).1
 ·obtain ⟨y, hy, rfl⟩ := List.mem_map.1 hx
  have := hen y hy
  rw [hsrc, hdst]
  omega
 ·obtain ⟨b1, b2, b3⟩ := hb
  obtain ⟨i, hi, e⟩ := hkid b b1 b2
  refine ⟨b1, ?_⟩
  have h1 := hI i hi b (by rw [hS i hi]; exact bdL_memU.2 ⟨b1, e.symm, b3⟩)
  rw [e] at h1
  refine isD_out (decide_eq_true rfl) (fun x hx o1 o2 => ?_) (fun x hx => ?_) h1
  ·obtain ⟨y, hy, rfl⟩ := List.mem_map.1 hx
   exact List.mem_map.2 ⟨y, wi_mem.2 ⟨hy, decide_eq_true ⟨of_decide_eq_true o1, of_decide_eq_true o2⟩⟩, rfl⟩
  ·obtain ⟨y, hy, rfl⟩ := List.mem_map.1 hx
   obtain ⟨g1, g2⟩ := wi_mem.1 hy
   exact ⟨List.mem_map.2 ⟨y, g1, rfl⟩, decide_eq_true (of_decide_eq_true g2).2⟩
 ·have h1 := hn u (by omega) v (by omega) e
  unfold inC
  rw [h1]
 ·obtain ⟨y, hy, rfl⟩ := List.mem_map.1 hx
  have he := hen y hy
  rw [hsrc] at o1 hc ⊢
  rw [hdst] at o2 hc ⊢
  have o1' := of_decide_eq_true o1
  have o2' := of_decide_eq_true o2
  have hp : prt X y = true := decide_eq_true hc
  refine ⟨⟨by omega, o1', crs_iffU.2 ⟨y, hy, hp, Or.inl rfl⟩⟩, ⟨by omega, o2', crs_iffU.2 ⟨y, hy, hp, Or.inr rfl⟩⟩, List.mem_map.2 ⟨y, ?_, rfl⟩⟩
  rw [adA_mem]
  have hw := hwt y hy
  refine Or.inr ⟨wi_mem.2 ⟨hy, ?_⟩, by unfold Inf; omega⟩
  unfold btP hld
  rw [Bool.and_eq_true, decide_eq_true_eq]
  exact ⟨⟨o1', o2'⟩, hp⟩
 ·obtain ⟨b1, b2, b3⟩ := hb
  obtain ⟨v1, v2, v3⟩ := hv
  obtain ⟨i, hi, e⟩ := hkid b b1 b2
  have hbS : b ∈ SS i := by rw [hS i hi]; exact bdL_memU.2 ⟨b1, e.symm, b3⟩
  have hvS : v ∈ SS i := by rw [hS i hi]; exact bdL_memU.2 ⟨v1, by rw [← hc, e], v3⟩
  obtain ⟨ia, ha, ea⟩ := mem_getD.1 hbS
  obtain ⟨ib, hb, eb⟩ := mem_getD.1 hvS
  have h0 : 0 < (SS i).length := by omega
  have hlt2 : ia * (SS i).length + ib < (DD i).length := by
   rw [hD i hi, mxL_len]
   have : (ia + 1) * (SS i).length ≤ (SS i).length * (SS i).length := Nat.mul_le_mul_right _ ha
   rw [Nat.succ_mul] at this
   omega
  have ed : (ia * (SS i).length + ib) / (SS i).length = ia := by rw [Nat.mul_comm, Nat.mul_add_div h0, Nat.div_eq_of_lt hb, Nat.add_zero]
  have em : (ia * (SS i).length + ib) % (SS i).length = ib := by rw [Nat.mul_comm, Nat.mul_add_mod, Nat.mod_eq_of_lt hb]
  have hval : (DD i).getD (ia * (SS i).length + ib) 0 = dF (wiL l (arL l (hld X (X.getD b 0)))) b v := by
   have h1 := hlt2
   rw [hD i hi] at h1 ⊢
   rw [(mxL_at h1).2.2, ed, em, ea, eb, e]
  refine ⟨toN (mxA (SS i) (DD i) (ia * (SS i).length + ib)), List.mem_map.2 ⟨_, ?_, rfl⟩, ?_, ?_, hval⟩
  ·rw [adA_mem, upR_mem]
   refine Or.inl ⟨i, hi, _, hlt2, rfl, ?_⟩
   show (DD i).getD _ 0 < Inf
   rw [hval]
   exact hlt
  ·show ((SS i).getD ((ia * (SS i).length + ib) / (SS i).length) 0 : Int).toNat = b
   rw [ed, ea, Int.toNat_natCast]
  ·show ((SS i).getD ((ia * (SS i).length + ib) % (SS i).length) 0 : Int).toNat = v
   rw [em, eb, Int.toNat_natCast]
 ·obtain ⟨y, hy, rfl⟩ := List.mem_map.1 hx
  rw [adA_mem, upR_mem] at hy
  rw [hsrc, hdst]
  rcases hy with ⟨i, hi, t, ht2, ey, hw⟩ | ⟨hy, hw⟩
  ·have h1 := ht2
   rw [hD i hi] at h1
   obtain ⟨d1, d2, d3⟩ := mxL_at h1
   have m1 := bdL_memU.1 (show (SS i).getD (t / (SS i).length) 0 ∈ bdL n X l (K.getD i 0 : Nat) by rw [← hS i hi]; exact mem_getD.2 ⟨_, d1, rfl⟩)
   have m2 := bdL_memU.1 (show (SS i).getD (t % (SS i).length) 0 ∈ bdL n X l (K.getD i 0 : Nat) by rw [← hS i hi]; exact mem_getD.2 ⟨_, d2, rfl⟩)
   have e1 : y.f.toNat = (SS i).getD (t / (SS i).length) 0 := by rw [ey]; show ((SS i).getD _ 0 : Int).toNat = _; rw [Int.toNat_natCast]
   have e2 : y.t.toNat = (SS i).getD (t % (SS i).length) 0 := by rw [ey]; show ((SS i).getD _ 0 : Int).toNat = _; rw [Int.toNat_natCast]
   have ew : (toN y).w = (DD i).getD t 0 := by rw [ey]; rfl
   rw [e1, e2]
   refine ⟨decide_eq_true (hin i hi _ m1.1 m1.2.1), decide_eq_true (hin i hi _ m2.1 m2.2.1), Or.inr ⟨⟨m1.1, hin i hi _ m1.1 m1.2.1, m1.2.2⟩, by rw [m1.2.1, m2.2.1], ?_, hw⟩⟩
   rw [ew, m1.2.1, hD i hi, d3]
  ·obtain ⟨g1, g2⟩ := wi_mem.1 hy
   unfold btP hld at g2
   rw [Bool.and_eq_true, decide_eq_true_eq] at g2
   exact ⟨decide_eq_true g2.1.1, decide_eq_true g2.1.2, Or.inl (List.mem_map.2 ⟨y, g1, rfl⟩)⟩
theorem rise_eq {n : Nat} {l : List A} {X Y : List Int} {q : Int} {K : List Nat} {SS : Nat → List Nat} {DD : Nat → List Int} (hen : ∀ x ∈ l, (0 ≤ x.f ∧ x.f < n) ∧ (0 ≤ x.t ∧ x.t < n)) (hwt : ∀ x ∈ l, 0 ≤ x.w ∧ x.w < 4294967296) (hX : X.length = n) (ht : tdy X 0 = true) (hn : Nst X Y) (hK : K = chL X Y q)
  (hS : ∀ i, i < K.length → SS i = bdL n X l (K.getD i 0 : Nat)) (hD : ∀ i, i < K.length → DD i = mxL (wiL l (arL l (hld X (K.getD i 0 : Nat)))) (SS i)) (hI : ∀ i, i < K.length → ∀ b, b ∈ SS i → IsD ((wiL l (arL l (hld X (K.getD i 0 : Nat)))).map toN) (fun _ => true) b (dF (wiL l (arL l (hld X (K.getD i 0 : Nat)))) b))
  (hF : ∀ s, s ∈ bdL n Y l q → IsD ((adA (upR SS DD K.length) (wiL l (arL l (btP Y X q)))).map toN) (fun _ => true) s (dF (adA (upR SS DD K.length) (wiL l (arL l (btP Y X q)))) s)) (hG : ∀ s, s ∈ bdL n Y l q → IsD ((wiL l (arL l (hld Y q))).map toN) (fun _ => true) s (dF (wiL l (arL l (hld Y q))) s)) :
  mxL (adA (upR SS DD K.length) (wiL l (arL l (btP Y X q)))) (bdL n Y l q) = mxL (wiL l (arL l (hld Y q))) (bdL n Y l q) := by
 have hu := rise_upr hen hwt hX ht hn hK hS hD hI
 have hbd : ∀ s, s ∈ bdL n Y l q → s < n ∧ Y.getD s 0 = q ∧ crs X l l.length s = true := fun s hs => by
  obtain ⟨h1, h2, h3⟩ := bdL_memU.1 hs
  obtain ⟨x, hx, hp, ho⟩ := crs_iffU.1 h3
  refine ⟨h1, h2, crs_iffU.2 ⟨x, hx, ?_, ho⟩⟩
  have he := hen x hx
  refine decide_eq_true (fun e => ?_)
  have := hn x.f.toNat (by omega) x.t.toNat (by omega) e
  exact of_decide_eq_true hp this
 unfold mxL mxK
 rw [List.take_length]
 have key : ∀ s, s ∈ bdL n Y l q → ∀ t, t ∈ bdL n Y l q → dF (adA (upR SS DD K.length) (wiL l (arL l (btP Y X q)))) s t = dF (wiL l (arL l (hld Y q))) s t := fun s hs t htt => by
  have hs2 := hbd s hs
  refine hu.eq hs2 (decide_eq_true hs2.2.1) (hbd t htt) (hF s hs) (isD_out (decide_eq_true hs2.2.1) (fun x hx o1 o2 => ?_) (fun x hx => ?_) (hG s hs))
  ·obtain ⟨y, hy, rfl⟩ := List.mem_map.1 hx
   exact List.mem_map.2 ⟨y, wi_mem.2 ⟨hy, decide_eq_true ⟨of_decide_eq_true o1, of_decide_eq_true o2⟩⟩, rfl⟩
  ·obtain ⟨y, hy, rfl⟩ := List.mem_map.1 hx
   obtain ⟨g1, g2⟩ := wi_mem.1 hy
   exact ⟨List.mem_map.2 ⟨y, g1, rfl⟩, decide_eq_true (of_decide_eq_true g2).2⟩
 have hfm : ∀ (P : List Nat), (∀ s ∈ P, s ∈ bdL n Y l q) → P.flatMap (fun s => (bdL n Y l q).map (dF (adA (upR SS DD K.length) (wiL l (arL l (btP Y X q)))) s)) = P.flatMap (fun s => (bdL n Y l q).map (dF (wiL l (arL l (hld Y q))) s)) := fun P => by
  induction P with
  | nil => intro _; rfl
  | cons s P ih =>
    intro h
    rw [List.flatMap_cons, List.flatMap_cons, ih (fun s hs => h s (by simp [hs])), List.map_congr_left (fun t ht3 => key s (h s (by simp)) t ht3)]
 exact hfm _ (fun s hs => hs)
end Go.Proofs.YtaafkpojjdjphaaGreat
namespace Go.Proofs.YtaafkpojjdjphaaGreat
open Go.RowKit
def cellsM : List Mt → List Value
 | [] => []
 | m :: r => .int .i64 m.lv :: .int .i64 m.ce :: .int .i64 m.ep :: .slice m.a m.D.length m.c :: cellsM r
theorem cellsM_len : ∀ r : List Mt, (cellsM r).length = r.length * 4
 | [] => rfl
 | k :: r => by simp [cellsM, cellsM_len r]; omega
theorem cellsM_append : ∀ r s : List Mt, cellsM (r ++ s) = cellsM r ++ cellsM s
 | [], s => rfl
 | k :: r, s => by simp [cellsM, cellsM_append r s]
theorem cellsM_at : ∀ (r : List Mt) (j : Nat), j < r.length → (cellsM r)[j * 4]? = some (.int .i64 (mt r j).lv) ∧ (cellsM r)[j * 4 + 1]? = some (.int .i64 (mt r j).ce) ∧ (cellsM r)[j * 4 + 2]? = some (.int .i64 (mt r j).ep) ∧ (cellsM r)[j * 4 + 3]? = some (.slice (mt r j).a (mt r j).D.length (mt r j).c)
 | [], _, h => absurd h (by simp)
 | x :: r, 0, _ => ⟨rfl, rfl, rfl, rfl⟩
 | x :: r, j + 1, h => by
   have := cellsM_at r j (by simpa using h)
   rw [show (j + 1) * 4 = j * 4 + 4 by omega]
   exact this
theorem mt_snoc_lt {M : List Mt} {m : Mt} {j : Nat} (h : j < M.length) : mt (M ++ [m]) j = mt M j := by
 unfold mt
 rw [List.getD_eq_getElem?_getD, List.getElem?_append_left h, ← List.getD_eq_getElem?_getD]
theorem mt_snoc_eq (M : List Mt) (m : Mt) : mt (M ++ [m]) M.length = m := by
 unfold mt
 rw [List.getD_eq_getElem?_getD, List.getElem?_append_right (Nat.le_refl _)]
 simp
def MtO (w : World) (B : Nat) (M : List Mt) : Prop := ∀ j, j < M.length → w.ownsRow B 48 1 (.slice (mt M j).a (mt M j).D.length (mt M j).c) (mt M j).D.length (cellsU (mt M j).D)
theorem MtO.on {w w' : World} {B : Nat} {M : List Mt} (h : MtO w B M) (hb : Below w.heap.size w w') : MtO w' B M := fun j hj => own_on (h j hj) hb
theorem MtO.base {w : World} {B B' : Nat} {M : List Mt} (h : MtO w B M) (hb : B' ≤ B) : MtO w B' M := fun j hj => own_base (h j hj) hb
theorem MtO.snoc {w : World} {B : Nat} {M : List Mt} {m : Mt} (h : MtO w B M) (hm : w.ownsRow B 48 1 (.slice m.a m.D.length m.c) m.D.length (cellsU m.D)) : MtO w B (M ++ [m]) := fun j hj => by
 rw [List.length_append] at hj
 by_cases e : j = M.length
 ·subst e; rw [mt_snoc_eq]; exact hm
 ·rw [mt_snoc_lt (by simp at hj; omega)]; exact h j (by simp at hj; omega)
theorem infoM : (Tryz.prog.info? 40).map (fun i => (i.zero, i.size, i.bytes)) = some (some (.agg #[.int .i64 0, .int .i64 0, .int .i64 0, .slice none 0 0]), 4, 48) := by kernel_rfl
def kidM (M : List Mt) (K : List Nat) : List Mt := K.map (fun k => mt M k)
theorem kidM_len (M : List Mt) (K : List Nat) : (kidM M K).length = K.length := by simp [kidM]
theorem kidM_at {M : List Mt} {K : List Nat} {i : Nat} (h : i < K.length) : mt (kidM M K) i = mt M (K.getD i 0) := by
 unfold kidM mt
 rw [List.getD_eq_getElem?_getD, List.getElem?_map, List.getElem?_eq_getElem h, List.getD_eq_getElem?_getD (l := K), List.getElem?_eq_getElem h]
 rfl
theorem ch_lt {X Y : List Int} (ht : tdy X 0 = true) {q : Int} {i : Nat} (h : i < (chL X Y q).length) : (chL X Y q).getD i 0 < (szL X).length := by
 have h1 := getS_mem h
 have h2 : (chL X Y q).getD i 0 < (lsL X 0 []).length ∧ Y.getD ((lsL X 0 []).getD ((chL X Y q).getD i 0) 0) 0 = q := by
  have : ∀ k, k ∈ chL X Y q → k < (lsL X 0 []).length ∧ Y.getD ((lsL X 0 []).getD k 0) 0 = q := fun k hk => by simpa [chL, chT] using hk
  exact this _ h1
 rw [← ls_len ht]
 exact h2.1
structure Rgt (n : Nat) (l : List A) (bs : List Int) (cs : List (List Int)) (j : Nat) (M : List Mt) : Prop where
 len : M.length = (szL (lvl cs j)).length
 rgt : ∀ i, i < M.length → (mt M i).lv = (j : Int) + 1 ∧ (mt M i).ce = i ∧ (mt M i).ep = 0 ∧ (mt M i).D = mxL (wiL l (inV n l bs cs ((j : Int) + 1) i)) (bdV n l bs cs ((j : Int) + 1) i)
 isd : ∀ i, i < M.length → ∀ t, t < (bdV n l bs cs ((j : Int) + 1) i).length → N5.IsD ((wiL l (inV n l bs cs ((j : Int) + 1) i)).map toN) (fun _ => true) ((bdV n l bs cs ((j : Int) + 1) i).getD t 0) (dF (wiL l (inV n l bs cs ((j : Int) + 1) i)) ((bdV n l bs cs ((j : Int) + 1) i).getD t 0))
theorem up_right {n : Nat} {l : List A} {bs : List Int} {cs : List (List Int)} {j q : Nat} {M M2 : List Mt} (hNR : NR n l bs cs) (hj : j + 1 < bs.length) (hq : q < (szL (lvl cs (j + 1))).length) (hwt : ∀ x ∈ l, 0 ≤ x.w ∧ x.w < 4294967296) (hM : Rgt n l bs cs (j + 1) M) (h2 : Rgt n l bs cs j M2) :
  upE n l bs cs (((j + 1 : Nat) : Int) + 1) (q : Nat) 0 (btV n l bs cs (((j + 1 : Nat) : Int) + 1) (q : Nat)).length (kidM M2 (chL (lvl cs j) (lvl cs (j + 1)) (q : Nat))) = 0 ∧ ((∀ i, i < (bdV n l bs cs (((j + 1 : Nat) : Int) + 1) (q : Nat)).length → N5.IsD ((upL n l bs cs (((j + 1 : Nat) : Int) + 1) (q : Nat) (wtL l (ints (btV n l bs cs (((j + 1 : Nat) : Int) + 1) (q : Nat)))) (kidM M2 (chL (lvl cs j) (lvl cs (j + 1)) (q : Nat)))).map toN) (fun _ => true) ((bdV n l bs cs (((j + 1 : Nat) : Int) + 1) (q : Nat)).getD i 0) (dF (upL n l bs cs (((j + 1 : Nat) : Int) + 1) (q : Nat) (wtL l (ints (btV n l bs cs (((j + 1 : Nat) : Int) + 1) (q : Nat)))) (kidM M2 (chL (lvl cs j) (lvl cs (j + 1)) (q : Nat)))) ((bdV n l bs cs (((j + 1 : Nat) : Int) + 1) (q : Nat)).getD i 0))) → mxL (upL n l bs cs (((j + 1 : Nat) : Int) + 1) (q : Nat) (wtL l (ints (btV n l bs cs (((j + 1 : Nat) : Int) + 1) (q : Nat)))) (kidM M2 (chL (lvl cs j) (lvl cs (j + 1)) (q : Nat)))) (bdV n l bs cs (((j + 1 : Nat) : Int) + 1) (q : Nat)) = (mt M q).D) := by
 obtain ⟨b1, b2, _⟩ := hNR.lv (k := j) (by omega)
 have hn := hNR.nst (k := j) hj
 have e0 : (((j + 1 : Nat) : Int) + 1) = (j : Int) + 2 := by omega
 rw [e0]
 have hin : inE n l bs cs ((j : Int) + 2) (q : Nat) = 0 := by
  have := inE_ok hNR hj hq
  rw [e0] at this
  exact this
 have hbt : btE n l bs cs ((j : Int) + 2) (q : Nat) = 0 := by
  unfold btE
  rw [hin, if_neg (fun h => h rfl), if_neg (by omega)]
 have hki : ∀ i, i < (chL (lvl cs j) (lvl cs (j + 1)) (q : Nat)).length → (chL (lvl cs j) (lvl cs (j + 1)) (q : Nat)).getD i 0 < M2.length := fun i hi => by
  rw [h2.len]
  exact ch_lt b2 hi
 have t2 : ((j : Int) + 2).toNat - 2 = j := by omega
 have t1 : ((j : Int) + 2).toNat - 1 = j + 1 := by omega
 have s1 : (j : Int) + 2 - 1 = (j : Int) + 1 := by omega
 constructor
 ·unfold upE
  rw [hbt, if_neg (fun h => h rfl), if_neg (by unfold jbE; rw [if_neg (by decide), if_neg (by simp)]; simp), t2, t1, s1, if_neg (by rw [kidM_len]; simp), if_pos]
  rw [List.all_eq_true]
  intro i hi
  rw [List.mem_range, kidM_len] at hi
  obtain ⟨r1, r2, r3, r4⟩ := h2.rgt _ (hki i hi)
  unfold kidB hsB mbB
  rw [kidM_at hi, r1, r2, r3, r4, mxL_len]
  simp
  decide
 ·intro hF
  have hdef : bdV n l bs cs ((j : Int) + 2) (q : Nat) = bdL n (lvl cs (j + 1)) l (q : Nat) := by
   unfold bdV
   rw [if_pos hin, t1, Int.toNat_natCast]
  have hidef : inV n l bs cs ((j : Int) + 2) (q : Nat) = arL l (hld (lvl cs (j + 1)) (q : Nat)) := by
   unfold inV
   rw [if_pos hin, t1]
  have hbdef : btV n l bs cs ((j : Int) + 2) (q : Nat) = arL l (btP (lvl cs (j + 1)) (lvl cs j) (q : Nat)) := by
   unfold btV
   rw [if_pos hbt, t1, t2]
  obtain ⟨r1, r2, r3, r4⟩ := hM.rgt q (by rw [hM.len]; exact hq)
  have hU : upL n l bs cs ((j : Int) + 2) (q : Nat) (wtL l (ints (btV n l bs cs ((j : Int) + 2) (q : Nat)))) (kidM M2 (chL (lvl cs j) (lvl cs (j + 1)) (q : Nat))) = adA (upR (fun i => bdV n l bs cs ((j : Int) + 1) ((chL (lvl cs j) (lvl cs (j + 1)) (q : Nat)).getD i 0 : Nat)) (fun i => (mt (kidM M2 (chL (lvl cs j) (lvl cs (j + 1)) (q : Nat))) i).D) (chL (lvl cs j) (lvl cs (j + 1)) (q : Nat)).length) (wiL l (arL l (btP (lvl cs (j + 1)) (lvl cs j) (q : Nat)))) := by
   unfold upL
   rw [t2, t1, s1, hbdef]
   rfl
  rw [hU] at hF ⊢
  rw [e0, hdef] at r4
  rw [hidef] at r4
  rw [hdef] at hF ⊢
  rw [r4]
  have hkin : ∀ i, i < (chL (lvl cs j) (lvl cs (j + 1)) (q : Nat)).length → inE n l bs cs ((j : Int) + 1) ((chL (lvl cs j) (lvl cs (j + 1)) (q : Nat)).getD i 0 : Nat) = 0 := fun i hi => kid_inU hin (getS_mem hi)
  have t3 : ((j : Int) + 1).toNat - 1 = j := by omega
  have hkb : ∀ i, i < (chL (lvl cs j) (lvl cs (j + 1)) (q : Nat)).length → bdV n l bs cs ((j : Int) + 1) ((chL (lvl cs j) (lvl cs (j + 1)) (q : Nat)).getD i 0 : Nat) = bdL n (lvl cs j) l ((chL (lvl cs j) (lvl cs (j + 1)) (q : Nat)).getD i 0 : Nat) := fun i hi => by
   unfold bdV
   rw [if_pos (hkin i hi), t3, Int.toNat_natCast]
  have hkv : ∀ i, i < (chL (lvl cs j) (lvl cs (j + 1)) (q : Nat)).length → inV n l bs cs ((j : Int) + 1) ((chL (lvl cs j) (lvl cs (j + 1)) (q : Nat)).getD i 0 : Nat) = arL l (hld (lvl cs j) ((chL (lvl cs j) (lvl cs (j + 1)) (q : Nat)).getD i 0 : Nat)) := fun i hi => by
   unfold inV
   rw [if_pos (hkin i hi), t3]
  have hen : ∀ x ∈ l, (0 ≤ x.f ∧ x.f < n) ∧ (0 ≤ x.t ∧ x.t < n) := fun x hx => by
   have hrg := (show WG n l from ⟨hNR.1, hwt⟩).rg
   exact hrg.ends (toN x) (List.mem_map.2 ⟨x, hx, rfl⟩)
  refine rise_eq hen hwt (by omega) b2 hn rfl hkb (fun i hi => ?_) (fun i hi b hb => ?_) (fun s hs => ?_) (fun s hs => ?_)
  ·rw [kidM_at hi]
   have := (h2.rgt _ (hki i hi)).2.2.2
   rw [hkv i hi] at this
   exact this
  ·obtain ⟨t, ht, e⟩ := mem_getD.1 hb
   have := h2.isd _ (hki i hi) t ht
   rw [hkv i hi, e] at this
   exact this
  ·obtain ⟨t, ht, e⟩ := mem_getD.1 hs
   have := hF t ht
   rw [e] at this
   exact this
  ·obtain ⟨t, ht, e⟩ := mem_getD.1 hs
   have := hM.isd q (by rw [hM.len]; exact hq) t (by rw [e0, hdef]; exact ht)
   rw [e0, hdef, hidef, e] at this
   exact this
end Go.Proofs.YtaafkpojjdjphaaGreat
