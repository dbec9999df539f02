/-
  The contract of the reference's reached.
-/
import Derived.Test.YtpgadcacimjlaaaGreatFRMath
import Derived.Test.YtpgadcacimjlaaaGreatFSml
namespace Go.Proofs.YtpgadcacimjlaaaGreat.F6
open Go.RowKit
/-- A list of u32 numbers that can be read. -/
def Fl (w : World) (v : Value) (m : Nat) (F : Nat → Int) : Prop := ∃ g c, v = .slice (some ⟨g, 0, none⟩) m c ∧ m ≤ c ∧ g < w.heap.size ∧ ∀ j, j < m → w.cell? ⟨g, j, none⟩ = some (.int .u32 (F j))
theorem Fl.on {w w' : World} {v : Value} {m : Nat} {F : Nat → Int} (h : Fl w v m F) (hb : Below w.heap.size w w') : Fl w' v m F := by
  obtain ⟨g, c, h1, h2, h3, h4⟩ := h
  exact ⟨g, c, h1, h2, Nat.lt_of_lt_of_le h3 hb.size, fun j hj => (hb.cell (p := ⟨g, j, none⟩) h3).trans (h4 j hj)⟩
/-- Numbers as cells. -/
def ints (q : List Nat) : List Int := q.map (fun x : Nat => (x : Int))
theorem ints_len (q : List Nat) : (ints q).length = q.length := by simp [ints]
theorem ints_snoc (q : List Nat) (v : Nat) : ints (q ++ [v]) = ints q ++ [(v : Int)] := by simp [ints]
theorem ints_getD {q : List Nat} {i : Nat} (hi : i < q.length) : (ints q).getD i 0 = ((q.getD i 0 : Nat) : Int) := by
  simp [ints, List.getD, List.getElem?_eq_getElem hi]
theorem side_upd {rk : Nat → Int} {v : Nat} {d : Int} (hd : d ≠ -1) (x : Nat) : updV (fun v => Value.bool (side rk v)) v (.bool true) x = .bool (side (updI rk v d) x) := by
  by_cases e : x = v
  · subst e; rw [updV_self]; unfold side; rw [updI_self]; simp [hd]
  · rw [updV_ne _ _ e]; unfold side; rw [updI_ne _ _ e]
theorem edges_of {n : Nat} {l : List A} (g : RN n (edl l)) (po : ∀ x, x ∈ l → 0 ≤ x.f ∧ 0 ≤ x.t) : ∀ k, k < l.length → ∃ (f t : Nat) (c : Int), (l.getD k A.zero) = ⟨(f : Int), (t : Int), c⟩ ∧ ed (edl l) k = ⟨f, t, c⟩ ∧ f < n ∧ t < n ∧ 0 ≤ c ∧ c < 4294967296 := fun k hk => by
  have hxe := edl_at hk
  have hxp := po (l.getD k A.zero) (by simp [List.getD, List.getElem?_eq_getElem hk])
  have hxn := g.ends k (by rw [edl_len]; exact hk)
  have hxc := g.cap k (by rw [edl_len]; exact hk)
  rw [hxe] at hxn hxc
  refine ⟨(l.getD k A.zero).f.toNat, (l.getD k A.zero).t.toNat, (l.getD k A.zero).w, ?_, hxe, hxn.1, hxn.2, hxc.1, hxc.2⟩
  rw [Int.toNat_of_nonneg hxp.1, Int.toNat_of_nonneg hxp.2]
/-- Where the plain search stands. -/
structure Sx (n m : Nat) (E : List Ed) (fl : Nat → Int) (s : Nat) (w : World) (bS bB : Nat) (vl : Value) (i c : Nat) (rk by' : Nat → Int) (q : List Nat) : Prop where
  bf : Bf n m E fl 1 s n rk q (Dc m E i c q)
  by_ : By n m E fl s rk by'
  tS : TbV w bS n 4 (fun v => .bool (side rk v))
  tB : TbV w bB n 3 (fun v => .int .i64 (by' v))
  ow : w.ownsRow (bB + 1) 3 1 vl q.length (cellsI (ints q))
theorem below_drewN (B : Nat) (w : World) (k : Nat) : Below B w (w.drewN k) := ⟨rfl, rfl, rfl, Nat.le_refl _, fun _ _ => rfl⟩
section
variable {n m : Nat} {E : List Ed} {fl : Nat → Int} {s : Nat} {w w' : World} {bS bB : Nat} {vl : Value} {i c : Nat} {rk by' : Nat → Int} {q : List Nat}
theorem own_on {base : Nat} {e : TypeId} {size : Nat} {v : Value} {k : Nat} {xs : List Value} (h : w.ownsRow base e size v k xs) (hb : Below w.heap.size w w') : w'.ownsRow base e size v k xs := by
  refine ⟨h.1, ?_⟩
  rcases h.2 with h' | ⟨g, c, cur, h1, h2, h3, h4⟩
  · exact Or.inl h'
  · exact Or.inr ⟨g, c, cur, h1, h2, (hb.block g (lt_of_block h3)).trans h3, h4⟩
theorem Sx.on (h : Sx n m E fl s w bS bB vl i c rk by' q) (hb : Below w.heap.size w w') : Sx n m E fl s w' bS bB vl i c rk by' q :=
  ⟨h.bf, h.by_, h.tS.same (hb.block _ h.tS.lt), h.tB.same (hb.block _ h.tB.lt), own_on h.ow hb⟩
theorem Sx.pass (h : Sx n m E fl s w bS bB vl i c rk by' q) (hp : frm E c = q.getD i 0 → 1 ≤ rm E fl c → rk (tto E c) ≠ -1) : Sx n m E fl s w bS bB vl i (c + 1) rk by' q :=
  ⟨h.bf.pass hp, h.by_, h.tS, h.tB, h.ow⟩
/-- The two marks. -/
theorem Sx.mark (h : Sx n m E fl s w bS bB vl i c rk by' q) (hSB : bS < bB) {v : Nat} {d : Int} (hd : d ≠ -1) :
    TbV ((w.setCell ⟨bS, v, none⟩ (.bool true)).setCell ⟨bB, v, none⟩ (.int .i64 c)) bS n 4 (fun x => .bool (side (updI rk v d) x)) ∧ TbV ((w.setCell ⟨bS, v, none⟩ (.bool true)).setCell ⟨bB, v, none⟩ (.int .i64 c)) bB n 3 (fun x => .int .i64 (updI by' v c x)) ∧ ((w.setCell ⟨bS, v, none⟩ (.bool true)).setCell ⟨bB, v, none⟩ (.int .i64 c)).ownsRow (bB + 1) 3 1 vl q.length (cellsI (ints q)) := by
  have f1 : Fr (fun k => k = bS) w (w.setCell ⟨bS, v, none⟩ (.bool true)) := (Fr.refl _ w).setCell ⟨bS, v, none⟩ _ rfl
  have f2 : Fr (fun k => k = bB) (w.setCell ⟨bS, v, none⟩ (.bool true)) ((w.setCell ⟨bS, v, none⟩ (.bool true)).setCell ⟨bB, v, none⟩ (.int .i64 c)) := (Fr.refl _ _).setCell ⟨bB, v, none⟩ _ rfl
  have t1 := h.tS.set v (.bool true)
  have t2 := (h.tB.fr f1 (by show ¬ bB = bS; omega)).set v (.int .i64 c)
  refine ⟨(t1.fr f2 (by show ¬ bS = bB; omega)).congr (fun x _ => side_upd hd x), t2.congr (fun x _ => upd_rank _ _ _ x), ?_⟩
  exact own_set (own_set h.ow ⟨bS, v, none⟩ _ (show bS < bB + 1 by omega)) ⟨bB, v, none⟩ _ (show bB < bB + 1 by omega)
/-- A node that is found. -/
theorem Sx.hit (h : Sx n m E fl s w bS bB vl i c rk by' q) (hSB : bS < bB) (hi : i < q.length) (hc : c < 2 * m) (hf : frm E c = q.getD i 0) (hn : tto E c < n) (hg : 1 ≤ rm E fl c) (hr : rk (tto E c) = -1) {w3 : World} {v3 : Value}
    (hb : Below (bB + 1) ((w.setCell ⟨bS, tto E c, none⟩ (.bool true)).setCell ⟨bB, tto E c, none⟩ (.int .i64 c)) w3) (hown : w3.ownsRow (bB + 1) 3 1 v3 (q ++ [tto E c]).length (cellsI (ints (q ++ [tto E c])))) :
    Sx n m E fl s w3 bS bB v3 i (c + 1) (updI rk (tto E c) (rk (frm E c) + 1)) (updI by' (tto E c) c) (q ++ [tto E c]) := by
  have hx := (h.bf.node hi).2.1
  rw [← hf] at hx
  obtain ⟨m1, m2, _⟩ := h.mark hSB (v := tto E c) (d := rk (frm E c) + 1) (by omega)
  have hbf := h.bf.hit hi hc hf hn hg hr
  rw [← hf] at hbf
  exact ⟨hbf, h.by_.hit hc hg hx hr, m1.same (hb.block _ (by omega)), m2.same (hb.block _ (by omega)), hown⟩
end
set_option maxHeartbeats 3200000 in
set_option maxRecDepth 100000 in
theorem rreach_any (n : Nat) (a : Option Addr) (l : List A) (cap : Nat) (w : World) (s : Nat) (vf : Value) (fl : Nat → Int) (hr : Arcs w a l) (g : RN n (edl l)) (po : ∀ x, x ∈ l → 0 ≤ x.f ∧ 0 ≤ x.t) (hs : s < n) (hF : Fl w vf l.length fl) (hb : ∀ j, j < l.length → 0 ≤ fl j ∧ fl j ≤ (ed (edl l) j).c) :
    Calls Tryz.prog 84 #[.agg #[.int .i64 n, .slice a l.length cap], .int .i64 s, vf] w fun e w' => ∃ (rk by' : Nat → Int) (bS bB : Nat), e = .returned (.tuple #[.slice (some ⟨bS, 0, none⟩) n n, .slice (some ⟨bB, 0, none⟩) n n]) ∧ Rk n l.length (edl l) fl 1 s n rk ∧ rk n = -1 ∧ By n l.length (edl l) fl s rk by' ∧ TbV w' bS n 4 (fun v => .bool (side rk v)) ∧ TbV w' bB n 3 (fun v => .int .i64 (by' v)) ∧ w.heap.size ≤ bS ∧ bS < bB ∧ Below w.heap.size w w' := by
  obtain ⟨i4, hi4, hz4, hs4, hby4⟩ := info_parts info4
  obtain ⟨i3, hi3, hz3, hs3, hby3⟩ := info_parts info3
  have hm : l.length ≤ 16384 := by have := g.lb; rwa [edl_len] at this
  have hnb : n ≤ 1024 := g.nb
  obtain ⟨gf, cf, rfl, hcf, hgf, hfc⟩ := hF
  have hb0 : Below w.heap.size w (w.alloc (.cells #[.int .i64 n, .slice a l.length cap] 86)) := (Below.refl _ _).alloc (Nat.le_refl _) _
  have hg := heap_top w (.cells #[.int .i64 n, .slice a l.length cap] 86)
  have hsz : (w.alloc (.cells #[.int .i64 n, .slice a l.length cap] 86)).heap.size = w.heap.size + 1 := by simp
  have hmk4 : ∀ w, (Instr.makeSlice 66 (.int .i64 n) (.int .i64 n)).run Tryz.prog w = .ok (.slice (some ⟨w.heap.size, 0, none⟩) n n) (w.alloc (.cells ((List.range n).map (fun _ => Value.bool false)).toArray 4)) := fun w => by
    have := run_make (P := Tryz.prog) w 66 4 i4 (.bool false) Tryz.underlying66 hi4 hz4 .i64 .i64 n n (by omega) (by omega) (by rw [hby4]; omega) (by omega)
    rw [this, Int.toNat_natCast, hs4, made_bool]
  have hmk3 : ∀ w, (Instr.makeSlice 25 (.int .i64 n) (.int .i64 n)).run Tryz.prog w = .ok (.slice (some ⟨w.heap.size, 0, none⟩) n n) (w.alloc (.cells ((List.range n).map (fun _ => Value.int .i64 0)).toArray 3)) := fun w => by
    have := run_make (P := Tryz.prog) w 25 3 i3 (.int .i64 0) Tryz.underlying25 hi3 hz3 .i64 .i64 n n (by omega) (by omega) (by rw [hby3]; omega) (by omega)
    rw [this, Int.toNat_natCast, hs3, made_int]
  have HED := Lib.hid (edges_of g po)
  obtain ⟨b, o, hab⟩ : ∃ b o, 0 < l.length → a = some ⟨b, o, none⟩ ∧ b < w.heap.size ∧ ∀ j, j < l.length → (l.getD j A.zero).at w b (o + j * 3) := by
    rcases hr with rfl | ⟨b, o, h⟩
    · exact ⟨0, 0, fun h => absurd h (by simp)⟩
    · exact ⟨b, o, fun _ => h⟩
  have HAB := Lib.hid hab
  have HG := Lib.hid g
  have HFC := Lib.hid hfc
  have HFB := Lib.hid hb
  have HST := Lib.hid g.steps
  rw [edl_len] at HST
  clear hr hab g po hfc hb hi4 hz4 hs4 hby4
  clear i4
  go_enter Tryz.func84, Tryz.ntmps84
  go_wp2_with fail
  have hg1 := (Below.heap_alloc (w.alloc (.cells #[.int .i64 n, .slice a l.length cap] 86)) (.cells ((List.range n).map (fun _ => Value.bool false)).toArray 4) w.heap.size (by omega)).trans hg
  have hS1 := heap_top (w.alloc (.cells #[.int .i64 n, .slice a l.length cap] 86)) (.cells ((List.range n).map (fun _ => Value.bool false)).toArray 4)
  rw [hsz] at hS1
  have hb1 : Below w.heap.size w ((w.alloc (.cells #[.int .i64 n, .slice a l.length cap] 86)).alloc (.cells ((List.range n).map (fun _ => Value.bool false)).toArray 4)) := hb0.alloc (by omega) _
  have hsz1 : ((w.alloc (.cells #[.int .i64 n, .slice a l.length cap] 86)).alloc (.cells ((List.range n).map (fun _ => Value.bool false)).toArray 4)).heap.size = w.heap.size + 2 := by simp
  clear hb0 hg hsz
  generalize (w.alloc (.cells #[.int .i64 n, .slice a l.length cap] 86)).alloc (.cells ((List.range n).map (fun _ => Value.bool false)).toArray 4) = W1 at *
  have hg2 := (Below.heap_alloc W1 (.cells ((List.range n).map (fun _ => Value.int .i64 0)).toArray 3) w.heap.size (by omega)).trans hg1
  have hS2 := (Below.heap_alloc W1 (.cells ((List.range n).map (fun _ => Value.int .i64 0)).toArray 3) (w.heap.size + 1) (by omega)).trans hS1
  have hB2 := heap_top W1 (.cells ((List.range n).map (fun _ => Value.int .i64 0)).toArray 3)
  rw [hsz1] at hB2
  have HBW : Hid (Below w.heap.size w (W1.alloc (.cells ((List.range n).map (fun _ => Value.int .i64 0)).toArray 3))) := hb1.alloc (by omega) _
  have HG2 := Lib.hid hg2
  have HS2 : Hid (TbV (W1.alloc (.cells ((List.range n).map (fun _ => Value.int .i64 0)).toArray 3)) (w.heap.size + 1) n 4 (fun _ => .bool false)) := hS2
  have HB2 : Hid (TbV (W1.alloc (.cells ((List.range n).map (fun _ => Value.int .i64 0)).toArray 3)) (w.heap.size + 1 + 1) n 3 (fun _ => .int .i64 0)) := hB2
  have HSZ : Hid ((W1.alloc (.cells ((List.range n).map (fun _ => Value.int .i64 0)).toArray 3)).heap.size = w.heap.size + 1 + 1 + 1) := by show _ = _; simp [hsz1]
  clear hg1 hS1 hb1 hg2 hS2 hB2 hmk3 hmk4 hsz1
  generalize W1.alloc (.cells ((List.range n).map (fun _ => Value.int .i64 0)).toArray 3) = W at *
  generalize hbS : w.heap.size + 1 = bS at *
  generalize hbB : bS + 1 = bB at *
  have hSB : bS < bB := by omega
  have hwS : w.heap.size < bS := by omega
  clear hbS hbB
  go_loopw [10] (fun iv wr => ∃ k : Nat, k ≤ n ∧ iv = .int .i64 k ∧ Hid (TbV wr bB n 3 (fun j => if j < k then .int .i64 (-1) else .int .i64 0)) ∧ Hid (Fr (fun j => j = bB) W wr)) (fun i _ => n - (intOf i).toNat)
  case atStart => exact ⟨0, Nat.zero_le _, rfl, HB2.out.congr (fun v _ => by simp), Fr.refl _ _⟩
  case round =>
    obtain ⟨k, hk, rfl, HT, HFR⟩ := hrel
    have hgr := (HFR.out.block _ (lt_of_block HG2.out) (by show ¬ w.heap.size = bB; omega)).trans HG2.out
    obtain ⟨⟨g0, g1⟩, gf0, gf1⟩ := two_cells hgr
    by_cases hlt : k < n
    · have d := HT.out.cell hlt
      have df := HT.out.free k
      rw [if_neg (Nat.lt_irrefl k)] at d
      have hlt' : (k : Int) < n := by omega
      have HNX : Hid (TbV (wr.setCell ⟨bB, k, none⟩ (.int .i64 (-1))) bB n 3 (fun j => if j < k + 1 then .int .i64 (-1) else .int .i64 0)) := (HT.out.set k (.int .i64 (-1))).congr (fun j _ => by
        by_cases e : j = k
        · subst e; rw [updV_self, if_pos (Nat.lt_succ_self _)]
        · rw [updV_ne _ _ e]
          show (if j < k then Value.int .i64 (-1) else .int .i64 0) = _
          by_cases h : j < k
          · rw [if_pos h, if_pos (by omega)]
          · rw [if_neg h, if_neg (by omega)])
      have HFX : Hid (Fr (fun j => j = bB) W (wr.setCell ⟨bB, k, none⟩ (.int .i64 (-1)))) := HFR.out.setCell ⟨bB, k, none⟩ _ rfl
      go_wp2_with fail
      exact ⟨⟨k + 1, hlt, by go_num, HNX, HFX⟩, by simp [intOf]; omega⟩
    · obtain rfl : n = k := by omega
      have hTB : TbV wr bB n 3 (fun _ => .int .i64 (-1)) := HT.out.congr (fun j hj => if_pos hj)
      have hTS : TbV wr bS n 4 (fun _ => .bool false) := HS2.out.fr HFR.out (by show ¬ bS = bB; omega)
      have d := hTS.cell hs
      have df := hTS.free s
      have hs' : (s : Int) < n := by omega
      go_wp2_with fail
      have hwB : bB < wr.heap.size := hTB.lt
      have hszW : W.heap.size = bB + 1 := by have := HSZ.out; omega
      have hf1 : Fr (fun j => j = bS) wr (wr.setCell ⟨bS, s, none⟩ (.bool true)) := (Fr.refl _ wr).setCell ⟨bS, s, none⟩ _ rfl
      have hz1 : (wr.setCell ⟨bS, s, none⟩ (.bool true)).heap.size = wr.heap.size := by simp [World.setCell]
      have hf2 : Below wr.heap.size (wr.setCell ⟨bS, s, none⟩ (.bool true)) ((wr.setCell ⟨bS, s, none⟩ (.bool true)).alloc (.cells #[.int .i64 (s : Int)] 3)) := (Below.refl _ _).alloc (by omega) _
      have hb2 : Below bS W ((wr.setCell ⟨bS, s, none⟩ (.bool true)).alloc (.cells #[.int .i64 (s : Int)] 3)) := ((HFR.out.below (B := bS) (by omega) (fun k h => by rw [h]; omega)).setCell (Nat.le_refl _) _).alloc (by omega) _
      have hown := World.ownsRow_lit (base := bB + 1) (e := 3) (size := 1) (wr.setCell ⟨bS, s, none⟩ (.bool true)) #[.int .i64 (s : Int)] 1 (by omega) (by decide) rfl
      rw [hz1] at hown
      have hsx : Sx n l.length (edl l) fl s ((wr.setCell ⟨bS, s, none⟩ (.bool true)).alloc (.cells #[.int .i64 (s : Int)] 3)) bS bB (.slice (some ⟨wr.heap.size, 0, none⟩) 1 1) 0 0 (updI (fun _ => -1) s 0) (fun _ => -1) [s] := by
        refine ⟨Bf.start hs (Nat.ne_of_lt hs) (fun k hk => ?_), fun v _ hr hv => ?_, ?_, ?_, hown⟩
        · rcases hk.2 with ⟨_, h, _⟩ | ⟨_, h⟩ <;> omega
        · rw [updI_ne _ _ hv] at hr; exact absurd rfl hr
        · refine TbV.congr (V := updV (fun _ => Value.bool false) s (.bool true)) ((hTS.set s (.bool true)).same (hf2.block _ (by omega))) (fun x _ => ?_)
          have h0 : (fun _ : Nat => Value.bool false) = fun v => Value.bool (side (fun _ => -1) v) := by funext v; simp [side]
          rw [h0]
          exact side_upd (by decide) x
        · exact (hTB.fr hf1 (by show ¬ bB = bS; omega)).same (hf2.block _ (by omega))
      have HSX := Lib.hid hsx
      have HB2' := Lib.hid hb2
      clear hTB hTS d df hf1 hf2 hb2 hown hsx hz1 HT HFR hgr g0 g1 gf0 gf1 HB2
      generalize (wr.setCell ⟨bS, s, none⟩ (.bool true)).alloc (.cells #[.int .i64 (s : Int)] 3) = W2 at *
      generalize Value.slice (some ⟨wr.heap.size, 0, none⟩) 1 1 = vl0 at *
      go_loopw [12, 11] (fun iv vl wy => ∃ (i : Nat) (q : List Nat) (rk by' : Nat → Int), iv = .int .i64 i ∧ Hid (i ≤ q.length) ∧ Hid (Sx n l.length (edl l) fl s wy bS bB vl i 0 rk by' q) ∧ Hid (Below bS W wy)) (fun i _ _ => n - (intOf i).toNat)
      case atStart => exact ⟨0, [s], _, _, rfl, by show _ ≤ _; simp, HSX, HB2'⟩
      case round =>
        obtain ⟨i, q, rk, by', rfl, HI, HX, HB⟩ := hrel
        have hql := HX.out.bf.len
        have hi2 := HI.out
        have hib : i ≤ 1024 := by omega
        obtain ⟨av, cv, hvl⟩ := own_slice HX.out.ow
        subst hvl
        by_cases hlt : i < q.length
        · have hlt' : (i : Int) < q.length := by omega
          obtain ⟨gl, rfl, hgl, hgb, hcl⟩ := own_cell HX.out.ow (ints_len q) hlt
          rw [ints_getD hlt] at hcl
          have hvn := (HX.out.bf.node hlt).1
          obtain ⟨v, HV⟩ := named (q.getD i 0)
          rw [HV.out] at hcl hvn
          have HHQ : Hid (i < q.length ∧ q.getD i 0 = v) := ⟨hlt, HV.out⟩
          go_wp2_with fail
          clear hcl
          go_loopw [14, 11] (fun jv vl wx => ∃ (j : Nat) (q : List Nat) (rk by' : Nat → Int), j ≤ l.length ∧ jv = .int .i64 j ∧ Hid (i < q.length ∧ q.getD i 0 = v) ∧ Hid (Sx n l.length (edl l) fl s wx bS bB vl i (2 * j) rk by' q) ∧ Hid (Below bS W wx)) (fun j _ _ => l.length - (intOf j).toNat)
          case atStart => exact ⟨0, q, rk, by', Nat.zero_le _, rfl, HHQ, HX, HB⟩
          case round =>
            clear HX HB HHQ HV HI hql hi2 hlt hlt' hgl hgb
            obtain ⟨j, q, rk, by', hj, rfl, HHQ, HX, HB⟩ := hrel
            have hgr := (HB.out.block _ hwS).trans HG2.out
            obtain ⟨⟨g0, g1⟩, gf0, gf1⟩ := two_cells hgr
            by_cases hjm : j < l.length
            · obtain ⟨rfl, hbl, hat⟩ := HAB.out (by omega)
              obtain ⟨xf, xt, xc, hx, hxe, hfn, htn, hc0, hc1⟩ := HED.out j hjm
              have hat := hat j hjm
              rw [hx] at hat
              obtain ⟨x0, x1, x2⟩ := hat.on HBW.out
              have y0 := (HB.out.cell (p := ⟨b, o + j * 3, none⟩) (by show b < bS; omega)).trans x0
              have y1 := (HB.out.cell (p := ⟨b, o + j * 3 + 1, none⟩) (by show b < bS; omega)).trans x1
              have y2 := (HB.out.cell (p := ⟨b, o + j * 3 + 2, none⟩) (by show b < bS; omega)).trans x2
              simp only at y0 y1 y2
              have hBa : Below bS W (wr.alloc (.cells #[.int .i64 (xf : Int), .int .i64 (xt : Int), .int .u32 xc] 92)) := HB.out.alloc (by have := HX.out.tS.lt; omega) _
              have hXa := HX.out.on (w' := wr.alloc (.cells #[.int .i64 (xf : Int), .int .i64 (xt : Int), .int .u32 xc] 92)) ((Below.refl _ _).alloc (Nat.le_refl _) _)
              have fc := (hBa.cell (p := ⟨gf, j, none⟩) (by show gf < bS; omega)).trans ((HBW.out.cell (p := ⟨gf, j, none⟩) hgf).trans (HFC.out j hjm))
              have d1 := hXa.tS.cell hfn
              have d2 := hXa.tS.cell htn
              have fb := HFB.out j hjm
              rw [hxe] at fb
              simp only at fb
              have k1 : frm (edl l) (2 * j) = xf := by unfold frm; rw [if_pos (by omega), show 2 * j / 2 = j by omega, hxe]
              have k2 : tto (edl l) (2 * j) = xt := by unfold tto; rw [if_pos (by omega), show 2 * j / 2 = j by omega, hxe]
              have k3 : rm (edl l) fl (2 * j) = xc - fl j := by unfold rm; rw [if_pos (by omega), show 2 * j / 2 = j by omega, hxe]
              have k4 : frm (edl l) (2 * j + 1) = xt := by unfold frm; rw [if_neg (by omega), show (2 * j + 1) / 2 = j by omega, hxe]
              have k5 : tto (edl l) (2 * j + 1) = xf := by unfold tto; rw [if_neg (by omega), show (2 * j + 1) / 2 = j by omega, hxe]
              have k6 : rm (edl l) fl (2 * j + 1) = fl j := by unfold rm; rw [if_neg (by omega), show (2 * j + 1) / 2 = j by omega]
              have hvs : side rk v = true := side_true.2 (by
                have := (hXa.bf.node HHQ.out.1).2.1
                rw [HHQ.out.2] at this
                omega)
              have hpp : ((xf = v → 1 ≤ xc - fl j → rk xt ≠ -1) ∧ (xt = v → 1 ≤ fl j → rk xf ≠ -1)) → Sx n l.length (edl l) fl s (wr.alloc (.cells #[.int .i64 (xf : Int), .int .i64 (xt : Int), .int .u32 xc] 92)) bS bB u11 i (2 * (j + 1)) rk by' q := fun ⟨p1, p2⟩ =>
                (hXa.pass (by rw [k1, k2, k3, HHQ.out.2]; exact p1)).pass (by rw [k4, k5, k6, HHQ.out.2]; exact p2)
              have HPP := Lib.hid hpp
              have HXA := Lib.hid hXa
              have HBA := Lib.hid hBa
              have HK := Lib.hid (And.intro k1 (And.intro k2 (And.intro k3 (And.intro k4 (And.intro k5 k6)))))
              obtain ⟨fj, HFJ⟩ := named (fl j)
              rw [HFJ.out] at fc fb HPP
              obtain ⟨fb0, fb1⟩ := fb
              have hjl : (j : Int) < l.length := by omega
              have hjc : (j : Int) < cf := by omega
              have hfn' : (xf : Int) < n := by omega
              have htn' : (xt : Int) < n := by omega
              obtain ⟨su, HSU⟩ := named (side rk xf)
              obtain ⟨sv, HSV⟩ := named (side rk xt)
              rw [HSU.out] at d1
              rw [HSV.out] at d2
              clear x0 x1 x2 hx hat hBa hXa hpp k1 k2 k3 k4 k5 k6 hxe
              by_cases h1 : xf = v
              · have e1 : ((xf : Int) == (v : Int)) = true := by rw [h1]; simp
                by_cases h2 : xt = v
                · have e2 : ((xt : Int) == (v : Int)) = true := by rw [h2]; simp
                  have t1 : su = true := by rw [← HSU.out, h1]; exact hvs
                  have t2 : sv = true := by rw [← HSV.out, h2]; exact hvs
                  subst t1 t2
                  have HD := Lib.hid (HPP.out ⟨fun _ _ => side_true.1 HSV.out, fun _ _ => side_true.1 HSU.out⟩)
                  clear h1 h2
                  go_wp2_with fail
                  go_quiet (fail)
                  go_wp2_with fail
                  exact ⟨⟨j + 1, q, rk, by', hjm, by go_num, HHQ, HD.out.on (below_drewN _ _ _), HBA.out.trans (below_drewN _ _ _)⟩, by simp [intOf]; omega⟩
                · have e2 : ((xt : Int) == (v : Int)) = false := by rw [beq_eq_false_iff_ne]; omega
                  cases sv with
                  | true =>
                    have HD := Lib.hid (HPP.out ⟨fun _ _ => side_true.1 HSV.out, fun h => absurd h h2⟩)
                    clear h1 h2
                    go_wp2_with fail
                    go_quiet (fail)
                    go_wp2_with fail
                    exact ⟨⟨j + 1, q, rk, by', hjm, by go_num, HHQ, HD.out.on (below_drewN _ _ _), HBA.out.trans (below_drewN _ _ _)⟩, by simp [intOf]; omega⟩
                  | false =>
                    by_cases h3 : fj < xc
                    · have z1 := HXA.out.tS.free xt
                      have z2 := HXA.out.tB.cell htn
                      have z3 := HXA.out.tB.free xt
                      have hr0 : rk xt = -1 := side_false.1 HSV.out
                      have HR0 := Lib.hid hr0
                      have HFX : Hid (xf = v) := h1
                      have HNX : Hid (xt ≠ v) := h2
                      have HHB : Hid (fj < xc) := h3
                      clear h1 h2 hr0
                      go_wp2_with fail
                      go_quiet (fail)
                      go_wp2_with fail
                      have HXB := Lib.hid (HXA.out.on (below_drewN _ _ nq))
                      have HBB := Lib.hid (HBA.out.trans (below_drewN _ _ nq))
                      have w1 : ((wr.alloc (.cells #[.int .i64 (xf : Int), .int .i64 (xt : Int), .int .u32 xc] 92)).drewN nq).heap[wr.heap.size]? = some (.cells #[.int .i64 (xf : Int), .int .i64 (xt : Int), .int .u32 xc] 92) := heap_top wr _
                      clear z1 z2 z3 d1 d2 fc
                      have hwrB : bB < wr.heap.size := HX.out.tB.lt
                      generalize (wr.alloc (.cells #[.int .i64 (xf : Int), .int .i64 (xt : Int), .int .u32 xc] 92)).drewN nq = wb at *
                      have z0 := HXB.out.tS.cell htn
                      have z1 := HXB.out.tS.free xt
                      have z2 := HXB.out.tB.cell htn
                      have z3 := HXB.out.tB.free xt
                      obtain ⟨c0, c1, c2⟩ := three_cells w1
                      have n1 : wr.heap.size ≠ bS := by omega
                      have n2 : wr.heap.size ≠ bB := by omega
                      have n3 : bS ≠ bB := by omega
                      go_region
                      have HXC := HXB
                      have hmk := (HXC.out.mark hSB (v := xt) (d := 0) (by decide)).2.2
                      have hcj : ((2 * j : Nat) : Int) = 2 * (j : Int) := by omega
                      rw [hcj] at hmk
                      have hw0 : ((wb.setCell ⟨bS, xt, none⟩ (.bool true)).setCell ⟨bB, xt, none⟩ (.int .i64 (2 * (j : Int)))).heap[wr.heap.size]? = some (.cells #[.int .i64 (xf : Int), .int .i64 (xt : Int), .int .u32 xc] 92) := (Below.heap_setCell _ ⟨bB, xt, none⟩ _ _ n2).trans ((Below.heap_setCell _ ⟨bS, xt, none⟩ _ _ n1).trans w1)
                      have hB0 : Below bS W ((wb.setCell ⟨bS, xt, none⟩ (.bool true)).setCell ⟨bB, xt, none⟩ (.int .i64 (2 * (j : Int)))) := (HBB.out.setCell (Nat.le_refl _) _).setCell (by show bS ≤ bB; omega) _
                      obtain ⟨av, cv, hvl⟩ := own_slice hmk
                      subst hvl
                      have hql := HXC.out.bf.len
                      have HRF := Lib.hid (fun (w3 : World) (v3 : Value) => HXC.out.hit (w3 := w3) (v3 := v3) hSB HHQ.out.1 (by omega)
                        (by rw [HK.out.1, HHQ.out.2]; exact HFX.out) (by rw [HK.out.2.1]; exact htn) (by rw [HK.out.2.2.1, HFJ.out]; have := HHB.out; omega) (by rw [HK.out.2.1]; exact HR0.out))
                      rw [HK.out.2.1, HK.out.1, hcj] at HRF
                      clear z0 z1 z2 z3 c0 c1 c2 w1 HXC
                      generalize (wb.setCell ⟨bS, xt, none⟩ (.bool true)).setCell ⟨bB, xt, none⟩ (.int .i64 (2 * (j : Int))) = w0 at *
                      obtain ⟨c0, c1, c2⟩ := three_cells hw0
                      have hw0l := lt_of_block hw0
                      have hmk2 : w0.drew.ownsRow (bB + 1) 3 1 (.slice av q.length cv) q.length (cellsI (ints q)) := ⟨hmk.1, hmk.2⟩
                      have HX1 : Hid ((cellsI (ints q) ++ [Value.int .i64 (xt : Int)]) = cellsI (ints (q ++ [xt]))) := by show _ = _; rw [ints_snoc, cellsI_snoc]
                      have HX2 : Hid (q.length + 1 = (q ++ [xt]).length) := by show _ = _; simp
                      have h1n := one_new w0.drew (xt : Int)
                      have H1N := Lib.hid h1n
                      clear h1n
                      go_wp2_with (at_builtin; refine wpList_append_own _ rfl (.tmp 89) (.tmp 92) 25 rfl (bB + 1) 3 i3 (.int .i64 0) 1 8 Tryz.underlying25 hi3 hz3 hs3 hby3 rfl (by decide) (.slice av q.length cv) q.length (cellsI (ints q)) rfl (hmk2.alloc _) ⟨w0.heap.size, 0, none⟩ 1 1 [.int .i64 (xt : Int)] rfl rfl H1N.out (one_i64 _) (by unfold maxLen; omega) (by omega) (by simp; omega) ?_; intro v6 w6 hown6 hgrow6 hnil6; have hw6 : w6.heap[wr.heap.size]? = some (.cells #[.int .i64 (xf : Int), .int .i64 (xt : Int), .int .u32 xc] 92) := (hgrow6.block wr.heap.size (by simp; omega) (fun e => by have := (HX.out.ow.lt _ e.symm).2; omega)).trans ((Below.heap_alloc w0.drew _ _ (by exact hw0l)).trans hw0); obtain ⟨q0, q1, q2⟩ := three_cells hw6)
                      rw [HX1.out, HX2.out] at hown6
                      have hb6 : Below (bB + 1) w0 w6 := (((Below.refl _ w0).drew).alloc (by show bB + 1 ≤ w0.heap.size; omega) _).grown hgrow6 (by simp; omega) (by intro k hk; have := (hmk2.lt k hk).1; omega)
                      have hS6 := HRF.out w6 v6 hb6 hown6
                      have hbe6 : Below bS W w6 := hB0.trans (hb6.mono (by omega))
                      have hS7 := hS6.pass (by rw [HK.out.2.2.2.1, getD_snoc HHQ.out.1, HHQ.out.2]; exact fun h => absurd h HNX.out)
                      have HS7 := Lib.hid hS7
                      have HBE6 := Lib.hid hbe6
                      clear hown6 hgrow6 hnil6 hS6 hS7 hbe6 hmk hmk2 c0 c1 c2
                      go_wp2_with fail
                      exact ⟨⟨j + 1, q ++ [xt], _, _, hjm, by go_num, ⟨by rw [List.length_append]; have := HHQ.out.1; omega, by rw [getD_snoc HHQ.out.1]; exact HHQ.out.2⟩, HS7, HBE6⟩, by simp [intOf]; omega⟩
                    · have HD := Lib.hid (HPP.out ⟨fun _ h => by omega, fun h => absurd h h2⟩)
                      clear h1 h2
                      go_wp2_with fail
                      go_quiet (fail)
                      go_wp2_with fail
                      exact ⟨⟨j + 1, q, rk, by', hjm, by go_num, HHQ, HD.out.on (below_drewN _ _ _), HBA.out.trans (below_drewN _ _ _)⟩, by simp [intOf]; omega⟩
              · have e1 : ((xf : Int) == (v : Int)) = false := by rw [beq_eq_false_iff_ne]; omega
                by_cases h2 : xt = v
                · have e2 : ((xt : Int) == (v : Int)) = true := by rw [h2]; simp
                  cases su with
                  | true =>
                    have HD := Lib.hid (HPP.out ⟨fun h => absurd h h1, fun _ _ => side_true.1 HSU.out⟩)
                    clear h1 h2
                    go_wp2_with fail
                    go_quiet (fail)
                    go_wp2_with fail
                    exact ⟨⟨j + 1, q, rk, by', hjm, by go_num, HHQ, HD.out.on (below_drewN _ _ _), HBA.out.trans (below_drewN _ _ _)⟩, by simp [intOf]; omega⟩
                  | false =>
                    by_cases h3 : 0 < fj
                    · have z1 := HXA.out.tS.free xf
                      have z2 := HXA.out.tB.cell hfn
                      have z3 := HXA.out.tB.free xf
                      have hr0 : rk xf = -1 := side_false.1 HSU.out
                      have HR0 := Lib.hid hr0
                      have HFX : Hid (xt = v) := h2
                      have HNX : Hid (xf ≠ v) := h1
                      have HHB : Hid (0 < fj) := h3
                      clear h1 h2 hr0
                      go_wp2_with fail
                      go_quiet (fail)
                      go_wp2_with fail
                      have HXB := Lib.hid (HXA.out.on (below_drewN _ _ nq))
                      have HBB := Lib.hid (HBA.out.trans (below_drewN _ _ nq))
                      have w1 : ((wr.alloc (.cells #[.int .i64 (xf : Int), .int .i64 (xt : Int), .int .u32 xc] 92)).drewN nq).heap[wr.heap.size]? = some (.cells #[.int .i64 (xf : Int), .int .i64 (xt : Int), .int .u32 xc] 92) := heap_top wr _
                      clear z1 z2 z3 d1 d2 fc
                      have hwrB : bB < wr.heap.size := HX.out.tB.lt
                      generalize (wr.alloc (.cells #[.int .i64 (xf : Int), .int .i64 (xt : Int), .int .u32 xc] 92)).drewN nq = wb at *
                      have z0 := HXB.out.tS.cell hfn
                      have z1 := HXB.out.tS.free xf
                      have z2 := HXB.out.tB.cell hfn
                      have z3 := HXB.out.tB.free xf
                      obtain ⟨c0, c1, c2⟩ := three_cells w1
                      have n1 : wr.heap.size ≠ bS := by omega
                      have n2 : wr.heap.size ≠ bB := by omega
                      have n3 : bS ≠ bB := by omega
                      go_region
                      have HXC := Lib.hid (HXB.out.pass (by rw [HK.out.1, HHQ.out.2]; exact fun h => absurd h HNX.out))
                      have hmk := (HXC.out.mark hSB (v := xf) (d := 0) (by decide)).2.2
                      have hcj : ((2 * j + 1 : Nat) : Int) = 2 * (j : Int) + 1 := by omega
                      rw [hcj] at hmk
                      have hw0 : ((wb.setCell ⟨bS, xf, none⟩ (.bool true)).setCell ⟨bB, xf, none⟩ (.int .i64 (2 * (j : Int) + 1))).heap[wr.heap.size]? = some (.cells #[.int .i64 (xf : Int), .int .i64 (xt : Int), .int .u32 xc] 92) := (Below.heap_setCell _ ⟨bB, xf, none⟩ _ _ n2).trans ((Below.heap_setCell _ ⟨bS, xf, none⟩ _ _ n1).trans w1)
                      have hB0 : Below bS W ((wb.setCell ⟨bS, xf, none⟩ (.bool true)).setCell ⟨bB, xf, none⟩ (.int .i64 (2 * (j : Int) + 1))) := (HBB.out.setCell (Nat.le_refl _) _).setCell (by show bS ≤ bB; omega) _
                      obtain ⟨av, cv, hvl⟩ := own_slice hmk
                      subst hvl
                      have hql := HXC.out.bf.len
                      have HRF := Lib.hid (fun (w3 : World) (v3 : Value) => HXC.out.hit (w3 := w3) (v3 := v3) hSB HHQ.out.1 (by omega)
                        (by rw [HK.out.2.2.2.1, HHQ.out.2]; exact HFX.out) (by rw [HK.out.2.2.2.2.1]; exact hfn) (by rw [HK.out.2.2.2.2.2, HFJ.out]; have := HHB.out; omega) (by rw [HK.out.2.2.2.2.1]; exact HR0.out))
                      rw [HK.out.2.2.2.2.1, HK.out.2.2.2.1, hcj] at HRF
                      clear z0 z1 z2 z3 c0 c1 c2 w1 HXC
                      generalize (wb.setCell ⟨bS, xf, none⟩ (.bool true)).setCell ⟨bB, xf, none⟩ (.int .i64 (2 * (j : Int) + 1)) = w0 at *
                      obtain ⟨c0, c1, c2⟩ := three_cells hw0
                      have hw0l := lt_of_block hw0
                      have hmk2 : w0.drew.ownsRow (bB + 1) 3 1 (.slice av q.length cv) q.length (cellsI (ints q)) := ⟨hmk.1, hmk.2⟩
                      have HX1 : Hid ((cellsI (ints q) ++ [Value.int .i64 (xf : Int)]) = cellsI (ints (q ++ [xf]))) := by show _ = _; rw [ints_snoc, cellsI_snoc]
                      have HX2 : Hid (q.length + 1 = (q ++ [xf]).length) := by show _ = _; simp
                      have h1n := one_new w0.drew (xf : Int)
                      have H1N := Lib.hid h1n
                      clear h1n
                      go_wp2_with (at_builtin; refine wpList_append_own _ rfl (.tmp 124) (.tmp 127) 25 rfl (bB + 1) 3 i3 (.int .i64 0) 1 8 Tryz.underlying25 hi3 hz3 hs3 hby3 rfl (by decide) (.slice av q.length cv) q.length (cellsI (ints q)) rfl (hmk2.alloc _) ⟨w0.heap.size, 0, none⟩ 1 1 [.int .i64 (xf : Int)] rfl rfl H1N.out (one_i64 _) (by unfold maxLen; omega) (by omega) (by simp; omega) ?_; intro v6 w6 hown6 hgrow6 hnil6)
                      rw [HX1.out, HX2.out] at hown6
                      have hb6 : Below (bB + 1) w0 w6 := (((Below.refl _ w0).drew).alloc (by show bB + 1 ≤ w0.heap.size; omega) _).grown hgrow6 (by simp; omega) (by intro k hk; have := (hmk2.lt k hk).1; omega)
                      have hS6 := HRF.out w6 v6 hb6 hown6
                      have hbe6 : Below bS W w6 := hB0.trans (hb6.mono (by omega))
                      have hS7 := hS6
                      have HS7 := Lib.hid hS7
                      have HBE6 := Lib.hid hbe6
                      clear hown6 hgrow6 hnil6 hS6 hS7 hbe6 hmk hmk2 c0 c1 c2
                      go_wp2_with fail
                      exact ⟨⟨j + 1, q ++ [xf], _, _, hjm, by go_num, ⟨by rw [List.length_append]; have := HHQ.out.1; omega, by rw [getD_snoc HHQ.out.1]; exact HHQ.out.2⟩, HS7, HBE6⟩, by simp [intOf]; omega⟩
                    · have HD := Lib.hid (HPP.out ⟨fun h => absurd h h1, fun _ h => by omega⟩)
                      clear h1 h2
                      go_wp2_with fail
                      go_quiet (fail)
                      go_wp2_with fail
                      exact ⟨⟨j + 1, q, rk, by', hjm, by go_num, HHQ, HD.out.on (below_drewN _ _ _), HBA.out.trans (below_drewN _ _ _)⟩, by simp [intOf]; omega⟩
                · have e2 : ((xt : Int) == (v : Int)) = false := by rw [beq_eq_false_iff_ne]; omega
                  have HD := Lib.hid (HPP.out ⟨fun h => absurd h h1, fun h => absurd h h2⟩)
                  clear h1 h2
                  go_wp2_with fail
                  go_quiet (fail)
                  go_wp2_with fail
                  exact ⟨⟨j + 1, q, rk, by', hjm, by go_num, HHQ, HD.out.on (below_drewN _ _ _), HBA.out.trans (below_drewN _ _ _)⟩, by simp [intOf]; omega⟩
            · obtain rfl : j = l.length := by omega
              have HX2 := Lib.hid (show Sx n l.length (edl l) fl s wr bS bB u11 (i + 1) 0 rk by' q from ⟨HX.out.bf.nextNode, HX.out.by_, HX.out.tS, HX.out.tB, HX.out.ow⟩)
              have HQ1 : Hid (i + 1 ≤ q.length) := HHQ.out.1
              have hi1 : i < n := by have h1 := HHQ.out.1; have h2 := HX.out.bf.len; omega
              go_wp2_with fail
              exact ⟨⟨i + 1, q, rk, by', by go_num, HQ1, HX2, HB⟩, by simp [intOf]; omega⟩
        · have hie : i = q.length := by omega
          have hge : ¬ (i : Int) < q.length := by omega
          go_wp2_with fail
          go_ret2
          subst hie
          exact ⟨rk, by', bS, bB, rfl, HX.out.bf.over (fun k hk => (HST.out k hk).1), HX.out.bf.t0, HX.out.by_, HX.out.tS, HX.out.tB, Nat.le_of_lt hwS, hSB, HBW.out.trans (HB.out.mono (by omega))⟩
end Go.Proofs.YtpgadcacimjlaaaGreat.F6
