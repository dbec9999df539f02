/-
  HeapSorts answers true.
-/
import Derived.Test.YtbahlbdnibmjfaaGiven
namespace Go.Proofs.Ytbahlbdnibmjfaa
open Go.RowKit
def cellsU (l : List Int) : List Value := l.map (Value.int .u64)
def cellsB (l : List Bool) : List Value := l.map Value.bool
theorem cellsU_at {w : World} {b : Nat} {l : List Int} (h : w.heap[b]? = some (.cells (cellsU l).toArray 32 (0, 0))) (k : Nat) (hk : k < l.length) : w.cell? ⟨b, k, none⟩ = some (.int .u64 (l.getD k 0)) ∧ w.frozen? ⟨b, k, none⟩ = false := by
  simp [World.cell?, World.frozen?, h, cellsU, List.getD, hk]
theorem cellsB_at {w : World} {b : Nat} {l : List Bool} (h : w.heap[b]? = some (.cells (cellsB l).toArray 4 (0, 0))) (k : Nat) (hk : k < l.length) : w.cell? ⟨b, k, none⟩ = some (.bool (l.getD k false)) ∧ w.frozen? ⟨b, k, none⟩ = false := by
  simp [World.cell?, World.frozen?, h, cellsB, List.getD, hk]
theorem cellsU_set {w : World} {b : Nat} {l : List Int} (h : w.heap[b]? = some (.cells (cellsU l).toArray 32 (0, 0))) (k : Nat) (x : Int) : (w.setCell ⟨b, k, none⟩ (.int .u64 x)).heap[b]? = some (.cells (cellsU (l.set k x)).toArray 32 (0, 0)) := by
  rw [heap_setCell_same w b k _ _ _ h]
  simp [cellsU]
theorem cellsB_set {w : World} {b : Nat} {l : List Bool} (h : w.heap[b]? = some (.cells (cellsB l).toArray 4 (0, 0))) (k : Nat) (x : Bool) : (w.setCell ⟨b, k, none⟩ (.bool x)).heap[b]? = some (.cells (cellsB (l.set k x)).toArray 4 (0, 0)) := by
  rw [heap_setCell_same w b k _ _ _ h]
  simp [cellsB]
theorem info32 : (Try.prog.info? 32).map (fun i => (i.zero, i.size, i.bytes)) = some (some (.int .u64 0), 1, 8) := by kernel_rfl
theorem info4 : (Try.prog.info? 4).map (fun i => (i.zero, i.size, i.bytes)) = some (some (.bool false), 1, 1) := by kernel_rfl
theorem made_u64 (n : Nat) : (madeCells (Value.int .u64 0).cells (n * 1)).toList = cellsU (List.replicate n 0) := by
  show (madeCells #[Value.int .u64 0] (n * 1)).toList = _
  rw [toList_madeCells_one, Nat.mul_one]
  simp [cellsU]
theorem made_bool (n : Nat) : (madeCells (Value.bool false).cells (n * 1)).toList = cellsB (List.replicate n false) := by
  show (madeCells #[Value.bool false] (n * 1)).toList = _
  rw [toList_madeCells_one, Nat.mul_one]
  simp [cellsB]
/-- What the law's lists say of the heap's table. -/
def Put (H : Nat) (T : Nat → Option Int) (L : List Int) (B : List Bool) : Prop :=
  L.length = H ∧ B.length = H ∧ ∀ x, x < H → (T x = none ∧ L.getD x 0 = 18446744073709551615 ∧ B.getD x false = false) ∨ ∃ q, T x = some q ∧ 0 ≤ q ∧ q ≤ 18446744073709551615 ∧ L.getD x 0 = q ∧ B.getD x false = true
theorem getD_setI {l : List Int} {k i : Nat} {x : Int} (hk : k < l.length) : (l.set k x).getD i 0 = if i = k then x else l.getD i 0 := pl_set hk
theorem getD_setB {l : List Bool} {k i : Nat} {x : Bool} (hk : k < l.length) : (l.set k x).getD i false = if i = k then x else l.getD i false := by
  simp only [List.getD_eq_getElem?_getD, List.getElem?_set]
  by_cases h : i = k
  · subst h; simp [hk]
  · rw [if_neg (fun e => h e.symm), if_neg h]
theorem lowT_ne {T : Nat → Option Int} {x y : Nat} {key : Int} (e : y ≠ x) : lowT T x key y = T y := by
  unfold lowT
  split
  · exact upd_ne _ _ e
  · rfl
theorem Put.step {H : Nat} {T : Nat → Option Int} {L : List Int} {B : List Bool} (h : Put H T L B) {x : Nat} (hx : x < H) {key : Int} (h0 : 0 ≤ key) (h1 : key ≤ 18446744073709551615) :
    Put H (lowT T x key) (L.set x (min (L.getD x 0) key)) (B.set x true) := by
  obtain ⟨a, b, c⟩ := h
  refine ⟨by simp [a], by simp [b], fun y hy => ?_⟩
  rw [getD_setI (by omega), getD_setB (by omega)]
  by_cases e : y = x
  · subst e
    rw [if_pos rfl, if_pos rfl]
    right
    rcases c y hx with ⟨c1, c2, c3⟩ | ⟨q, c1, c2, c3, c4, c5⟩
    · refine ⟨key, by simp [lowT, low, c1, upd], h0, h1, ?_, rfl⟩
      rw [c2]; omega
    · by_cases hk : key < q
      · refine ⟨key, by simp [lowT, low, c1, hk, upd], h0, h1, ?_, rfl⟩
        rw [c4]; omega
      · refine ⟨q, by simp [lowT, low, c1, hk], c2, c3, ?_, rfl⟩
        rw [c4]; omega
  · rw [if_neg e, if_neg e, lowT_ne e]
    exact c y hy
/-- While all comes out. -/
def Out (H : Nat) (T : Nat → Option Int) (L : List Int) (B : List Bool) : Prop :=
  L.length = H ∧ B.length = H ∧ ∀ x, x < H → (T x = none ∧ B.getD x false = false) ∨ ∃ q, T x = some q ∧ L.getD x 0 = q ∧ B.getD x false = true
theorem Put.out {H : Nat} {T : Nat → Option Int} {L : List Int} {B : List Bool} (h : Put H T L B) : Out H T L B := by
  obtain ⟨a, b, c⟩ := h
  refine ⟨a, b, fun x hx => ?_⟩
  rcases c x hx with ⟨c1, _, c3⟩ | ⟨q, c1, _, _, c4, c5⟩
  · exact Or.inl ⟨c1, c3⟩
  · exact Or.inr ⟨q, c1, c4, c5⟩
theorem Out.step {H : Nat} {T : Nat → Option Int} {L : List Int} {B : List Bool} (h : Out H T L B) {x : Nat} (hx : x < H) : Out H (upd T x none) L (B.set x false) := by
  obtain ⟨a, b, c⟩ := h
  refine ⟨a, by simp [b], fun y hy => ?_⟩
  rw [getD_setB (by omega)]
  by_cases e : y = x
  · subst e
    rw [if_pos rfl]
    exact Or.inl ⟨upd_self _ _ _, rfl⟩
  · rw [if_neg e, upd_ne _ _ e]
    exact c y hy
/-- The last one that came out stands ahead of all that are in. -/
def Lst (T : Nat → Option Int) (last lk : Int) : Prop := last = -1 ∨ (0 ≤ last ∧ ∀ y k', T y = some k' → lk < k' ∨ lk = k' ∧ last ≤ y)
theorem Lst.step {n : Nat} {T : Nat → Option Int} {x : Nat} {k e : Int} (h : TopIs n T x k e) (he : e = 0) : Lst (upd T x none) x k := by
  refine Or.inr ⟨by omega, fun y k' hy => ?_⟩
  rcases h with ⟨_, _, _, a⟩ | ⟨a, _⟩
  · unfold upd at hy
    split at hy
    · cases hy
    · have := a y k' hy
      omega
  · omega
/-- How many members a heap has, by its world. -/
def hlen (w : World) (h : Nat) : Nat := match w.cell? ⟨h, 0, none⟩ with | some (.slice _ n _) => n | _ => 0
theorem HR.hlen {w : World} {h n : Nat} {T : Nat → Option Int} {D : Nat → Prop} (r : HR w h n T D) : hlen w h = cnt T n := by
  obtain ⟨p, v, ms, pl, r, f, rfl⟩ := r
  obtain ⟨a, c, hv⟩ := own_slice r.own
  have := (cells3 r.hd).1.1
  unfold Ytbahlbdnibmjfaa.hlen
  rw [this, f.cnt, hv]
theorem Lower_ok {w : World} {h n : Nat} {T : Nat → Option Int} {D : Nat → Prop} (r : HR w h n T D) (x : Nat) (hx : x < n) (key : Int) :
    Calls Try.prog 15 #[.pointer (some ⟨h, 0, none⟩), .int .i64 x, .int .u64 key] w fun e w' => e = .returned (.tuple #[.bool (low T x key), .int .i64 0]) ∧ HRto w w' h n (lowT T x key) D := by
  have hok : okI n x = true := by simp [okI]; omega
  have := Lower_any r x key
  rw [show lowB n T x key = low T x key by simp [lowB, hok], show lowE n x = 0 by simp [lowE, hok], show lowTT n T x key = lowT T x key by simp [lowTT, hok]] at this
  exact this
set_option maxRecDepth 100000 in
set_option maxHeartbeats 3200000 in
theorem law_sorts (a : Option Addr) (l : List Int) (cap : Nat) (w : World) (hl : l.length * 8 ≤ 140737488351232) (hr : U64s w a l) (hbd : Bd l) :
    Calls Try.prog 5 #[.slice a l.length cap] w fun e w' => e = .returned (.bool true) ∧ Below w.heap.size w w' := by
  obtain ⟨i32, hi32, hz0, hz1, hz2⟩ := info_parts info32
  obtain ⟨i4, hi4, hy0, hy1, hy2⟩ := info_parts info4
  obtain ⟨n, Hn⟩ := named (min l.length 200)
  obtain ⟨H, HH⟩ := named (max 1 (n / 2))
  have hn : n ≤ 200 := by have := Hn.out; omega
  have hnl : n ≤ l.length := by have := Hn.out; omega
  have hH1 : 1 ≤ H := by have := HH.out; omega
  have hH2 : H ≤ 100 := by have := HH.out; omega
  have hmin : (if (200 : Int) < l.length then (200 : Int) else l.length) = n := by have := Hn.out; split <;> omega
  have hmax : (if (1 : Int) < (n : Int) / 2 then (n : Int) / 2 else 1) = H := by have := HH.out; split <;> omega
  obtain ⟨b, o, hab⟩ := hr.get
  have HWK := Lib.hid (works_any w)
  go_enter Try.func5, Try.ntmps5
  go_wp2_with fail
  refine HWK.out.mono ?_
  rintro e w1 ⟨rfl, hb1⟩
  go_wp2_with fail
  refine (New_any H (by omega) w1).mono ?_
  rintro e w2 ⟨h, D, rfl, r2, hD2, hb2⟩
  have b2 := bthen hb1 hb2 hb1.size
  have hD : ∀ k, D k → w.heap.size ≤ k := fun k hk => Nat.le_trans hb1.size (hD2 k hk)
  have HMU := Lib.hid (made_u64 H)
  have HMB := Lib.hid (made_bool H)
  clear HWK hb1 hb2 hD2
  go_wp2_with (at_make; refine wpList_make_full _ rfl (.tmp 40) (.tmp 40) 39 rfl 0 32 i32 (.int .u64 0) 1 Try.underlying39 hi32 hz0 hz1 .i64 .i64 H H H rfl rfl rfl rfl (by rw [hz2]; omega) (by unfold maxLen; omega) (Nat.zero_le _) ?_; intro w3 hown3 hgrow3)
  rw [HMU.out] at hown3
  have hL3 := row_made hown3
  have hb3 : Below w2.heap.size w2 w3 := (Below.refl _ _).grown hgrow3 (Nat.le_refl _) (by intro k hk; cases hk)
  have b3 := bthen b2 hb3 b2.size
  have r3 := r2.on hb3
  have hbL : ¬ D w2.heap.size := fun hd => by have := r2.lt _ hd; omega
  have s2 : w.heap.size ≤ w2.heap.size := b2.size
  clear hown3 hgrow3 hb3 b2 r2 HMU
  generalize w2.heap.size = bL at *
  go_wp2_with fail
  go_loopw [44] (fun i wr => ∃ (k : Nat) (L : List Int), k ≤ H ∧ i = .int .i64 k ∧ Hid (L.length = H) ∧ (∀ x, x < k → L.getD x 0 = 18446744073709551615) ∧ wr.heap[bL]? = some (.cells (cellsU L).toArray 32 (0, 0)) ∧ HR wr h H (fun _ => none) D ∧ Below w.heap.size w wr) (fun i _ => H - (intOf i).toNat)
  case atStart => exact ⟨0, List.replicate H 0, Nat.zero_le _, rfl, by show _ = _; simp, fun x hx => by omega, hL3, r3, b3⟩
  case round =>
    obtain ⟨k, L, hk, rfl, HLL, hfill, hL, r4, b4⟩ := hrel
    clear hL3 r3 b3
    by_cases hlt : k < H
    · obtain ⟨c0, f0⟩ := cellsU_at hL k (by rw [HLL.out]; exact hlt)
      have HL5 := Lib.hid (cellsU_set hL k 18446744073709551615)
      have HR5 := Lib.hid (r4.same (w' := wr.setCell ⟨bL, k, none⟩ (.int .u64 18446744073709551615)) (fun j hj => heap_setCell_other wr _ j _ (fun e => hbL (by have e' : j = bL := e; rw [← e']; exact hj))))
      have HB5 := Lib.hid (b4.setCell (p := ⟨bL, k, none⟩) s2 (.int .u64 18446744073709551615))
      go_wp2_with fail
      exact ⟨⟨k + 1, _, by omega, by go_num, by show _ = _; rw [List.length_set]; exact HLL.out, fun x hx => by rw [getD_setI (by rw [HLL.out]; exact hlt)]; split; rfl; exact hfill x (by omega), HL5.out, HR5.out, HB5.out⟩, by simp [intOf]; omega⟩
    · have hkH : k = H := by omega
      subst hkH
      have sL := lt_of_block hL
      go_wp2_with (at_make; refine wpList_make_full _ rfl (.tmp 52) (.tmp 52) 40 rfl 0 4 i4 (.bool false) 1 Try.underlying40 hi4 hy0 hy1 .i64 .i64 k k k rfl rfl rfl rfl (by rw [hy2]; omega) (by unfold maxLen; omega) (Nat.zero_le _) ?_; intro w5 hown5 hgrow5)
      rw [HMB.out] at hown5
      have hB5 := row_made hown5
      have hb5 : Below wr.heap.size wr w5 := (Below.refl _ _).grown hgrow5 (Nat.le_refl _) (by intro k hk; cases hk)
      have b5 := bthen b4 hb5 b4.size
      have r5 := r4.on hb5
      have hL5 := (hb5.block _ sL).trans hL
      have hbB : ¬ D wr.heap.size := fun hd => by have := r4.lt _ hd; omega
      have s5 : w.heap.size ≤ wr.heap.size := b4.size
      have hne : bL ≠ wr.heap.size := by omega
      have HP5 : Put k (fun _ => none) L (List.replicate k false) := ⟨HLL.out, by simp, fun x hx => Or.inl ⟨rfl, hfill x hx, by simp [List.getD_eq_getElem?_getD, hx]⟩⟩
      clear hown5 hgrow5 hb5 b4 r4 HMB hL hfill
      generalize wr.heap.size = bB at *
      go_wp2_with fail
      go_loopw [55] (fun i wr => ∃ (j : Nat) (T : Nat → Option Int) (L : List Int) (B : List Bool) (D : Nat → Prop), j ≤ n ∧ i = .int .i64 j ∧ Put k T L B ∧ wr.heap[bL]? = some (.cells (cellsU L).toArray 32 (0, 0)) ∧ wr.heap[bB]? = some (.cells (cellsB B).toArray 4 (0, 0)) ∧ HR wr h k T D ∧ (∀ x, D x → w.heap.size ≤ x) ∧ ¬ D bL ∧ ¬ D bB ∧ Below w.heap.size w wr) (fun i _ => n - (intOf i).toNat)
      case atStart => exact ⟨0, _, L, _, D, Nat.zero_le _, rfl, HP5, hL5, hB5, r5, hD, hbL, hbB, b5⟩
      case round =>
        clear hL5 hB5 r5 hD hbL hbB b5 HP5 HLL
        obtain ⟨j, T, L, B, D, hj, rfl, HPut, hL, hB, r6, hD, hbL, hbB, b6⟩ := hrel
        by_cases hjn : j < n
        · obtain ⟨rfl, hbw, hat⟩ := hab (by omega)
          have c0 := (b6.cell (p := ⟨b, o + j, none⟩) hbw).trans (hat j (by omega))
          have hkb := hbd (l.getD j 0) (by rw [List.getD_eq_getElem?_getD, List.getElem?_eq_getElem (by omega)]; exact List.getElem_mem _)
          obtain ⟨key, HK⟩ := named (l.getD j 0)
          rw [HK.out] at c0 hkb
          have hx : j % k < k := Nat.mod_lt _ (by omega)
          have hmod : (j : Int) % (k : Int) = ((j % k : Nat) : Int) := by omega
          obtain ⟨x, HX⟩ := named (j % k)
          rw [HX.out] at hx hmod
          have HLW := Lib.hid (Lower_ok r6 x hx key)
          obtain ⟨t, HT⟩ := named (low T x key)
          rw [HT.out] at HLW
          have sL := lt_of_block hL
          have sB := lt_of_block hB
          have HST := Lib.hid (HPut.step hx hkb.1 hkb.2)
          have hk0 : ((k : Int) == 0) = false := by simp; omega
          go_wp2_with fail
          refine HLW.out.mono ?_
          rintro e w7 ⟨rfl, D7, r7, hd7, f7⟩
          have b7 := b6.trans (f7.below b6.size hD)
          have hL7 := (f7.block _ sL hbL).trans hL
          have hB7 := (f7.block _ sB hbB).trans hB
          have hbL7 : ¬ D7 bL := fun hd => by rcases hd7 _ hd with h' | h'; exact hbL h'; omega
          have hbB7 : ¬ D7 bB := fun hd => by rcases hd7 _ hd with h' | h'; exact hbB h'; omega
          have hD7 : ∀ x, D7 x → w.heap.size ≤ x := fun x hx => by rcases hd7 _ hx with h' | h'; exact hD _ h'; exact Nat.le_trans b6.size h'
          have c7 := (b7.cell (p := ⟨b, o + j, none⟩) hbw).trans (hat j (by omega))
          rw [HK.out] at c7
          obtain ⟨d0, e0⟩ := cellsU_at hL7 x (by rw [HPut.1]; exact hx)
          obtain ⟨d1, e1⟩ := cellsB_at hB7 x (by rw [HPut.2.1]; exact hx)
          obtain ⟨q, HQ⟩ := named (L.getD x 0)
          rw [HQ.out] at d0 HST
          obtain ⟨mq, HMQ⟩ := named (min q key)
          rw [HMQ.out] at HST
          have hmq : (if key < q then key else q) = mq := by have := HMQ.out; split <;> omega
          clear HLW r6 hL hB f7 hd7 b6 hD hbL hbB c0 HPut
          go_wp2_with fail
          go_region
          go_wp2_with fail
          have hne' : bB ≠ bL := fun e => hne e.symm
          refine ⟨⟨j + 1, lowT T x key, L.set x mq, B.set x true, D7, by omega, by go_num, HST.out, ?_, ?_, ?_, hD7, hbL7, hbB7, ?_⟩, by simp [intOf]; omega⟩
          · exact (heap_setCell_other _ ⟨bB, x, none⟩ bL _ hne).trans (cellsU_set hL7 x mq)
          · exact cellsB_set ((heap_setCell_other _ ⟨bL, x, none⟩ bB _ hne').trans hB7) x true
          · exact r7.same (fun i hi => (heap_setCell_other _ ⟨bB, x, none⟩ i _ (fun e => hbB7 (by have e' : i = bB := e; rw [← e']; exact hi))).trans (heap_setCell_other _ ⟨bL, x, none⟩ i _ (fun e => hbL7 (by have e' : i = bL := e; rw [← e']; exact hi))))
          · exact ((b7.setCell (p := ⟨bL, x, none⟩) s2 _).setCell (p := ⟨bB, x, none⟩) s5 _).drew
        · have HO := HPut.out
          clear HPut
          go_wp2_with fail
          go_loopw [13, 14] (fun la lk wr => ∃ (q kq : Int) (T : Nat → Option Int) (B : List Bool) (D : Nat → Prop), la = .int .i64 q ∧ lk = .int .u64 kq ∧ Lst T q kq ∧ Out k T L B ∧ wr.heap[bL]? = some (.cells (cellsU L).toArray 32 (0, 0)) ∧ wr.heap[bB]? = some (.cells (cellsB B).toArray 4 (0, 0)) ∧ HR wr h k T D ∧ (∀ x, D x → w.heap.size ≤ x) ∧ ¬ D bL ∧ ¬ D bB ∧ Below w.heap.size w wr) (fun _ _ wr => hlen wr h)
          case atStart => exact ⟨-1, 0, T, B, D, rfl, rfl, Or.inl rfl, HO, hL, hB, r6, hD, hbL, hbB, b6⟩
          case round =>
            clear HO hL hB r6 hD hbL hbB b6
            obtain ⟨q, kq, T, B, D, rfl, rfl, HLst, HO, hL, hB, r6, hD, hbL, hbB, b6⟩ := hrel
            have HLEN := Lib.hid (Len_any r6)
            by_cases hc : 0 < cnt T k
            · have HPOP := Lib.hid (Pop_any r6)
              obtain ⟨x, kk, er, HTOP⟩ : ∃ (x : Nat) (kk er : Int), Hid (TopIs k T x kk er) := by
                obtain ⟨p, v, ms, pl, rr, f, _⟩ := r6
                exact ⟨_, _, _, f.topIs (by rw [← f.cnt]; exact hc)⟩
              obtain ⟨her, hTx, hxk, _⟩ := HTOP.out.ok hc
              subst her
              have HTX := Lib.hid hTx
              obtain ⟨hLx, hBx⟩ : L.getD x 0 = kk ∧ B.getD x false = true := by
                rcases HO.2.2 x hxk with ⟨c1, _⟩ | ⟨q, c1, c2, c3⟩
                · rw [hTx] at c1; cases c1
                · rw [hTx] at c1; exact ⟨by rw [c2]; exact (Option.some.inj c1).symm, c3⟩
              have HLX := Lib.hid (fun (hq : 0 ≤ q) => (HLst.resolve_left (by omega)).2 x kk hTx)
              have sL := lt_of_block hL
              have sB := lt_of_block hB
              have hc' : (0 : Int) < cnt T k := by omega
              have hx1 : (x : Int) < k := by omega
              clear hTx
              obtain ⟨cc, HCC⟩ := named (cnt T k)
              rw [HCC.out] at hc' HLEN
              go_wp2_with fail
              refine HLEN.out.mono ?_
              rintro e w0 ⟨rfl, rfl⟩
              by_cases hq : 0 ≤ q
              · have hkk := HLX.out hq
                have hn1 : ¬ kk < kq := by omega
                by_cases heq : kk = kq
                · have hn2 : ¬ (x : Int) < q := by omega
                  have hq1 : (kk == kq) = true := by simpa using heq
                  clear heq hkk HLX
                  go_wp2_with fail
                  refine HPOP.out.mono ?_
                  rintro e w7 ⟨x', kk', er, rfl, ht', D7, r7, hd7, f7⟩
                  obtain ⟨rfl, rfl, rfl⟩ := ht'.unique HTOP.out
                  rw [if_pos rfl] at r7
                  have b7 := b6.trans (f7.below b6.size hD)
                  have hL7 := (f7.block _ sL hbL).trans hL
                  have hB7 := (f7.block _ sB hbB).trans hB
                  have hbL7 : ¬ D7 bL := fun hd => by rcases hd7 _ hd with h' | h'; exact hbL h'; omega
                  have hbB7 : ¬ D7 bB := fun hd => by rcases hd7 _ hd with h' | h'; exact hbB h'; omega
                  have hD7 : ∀ x, D7 x → w.heap.size ≤ x := fun x hx => by rcases hd7 _ hx with h' | h'; exact hD _ h'; exact Nat.le_trans b6.size h'
                  obtain ⟨d0, e0⟩ := cellsU_at hL7 x' (by rw [HO.1]; exact hxk)
                  obtain ⟨d1, e1⟩ := cellsB_at hB7 x' (by rw [HO.2.1]; exact hxk)
                  rw [hLx] at d0
                  rw [hBx] at d1
                  have HM7 : Hid (hlen w7 h < hlen w0 h) := by show _ < _; rw [r7.hlen, r6.hlen]; have := cnt_upd T x' none k hxk; rw [HTX.out] at this; simp at this; omega
                  have HHL : Hid (hlen (w7.setCell ⟨bB, x', none⟩ (.bool false)) h = hlen w7 h) := by
                    have r9 := r7.same (w' := w7.setCell ⟨bB, x', none⟩ (.bool false)) (fun i hi => heap_setCell_other _ ⟨bB, x', none⟩ i _ (fun e => hbB7 (by have e' : i = bB := e; rw [← e']; exact hi)))
                    show _ = _
                    rw [r9.hlen, r7.hlen]
                  have HST := HO.step hxk
                  have HLS := Lst.step HTOP.out rfl
                  clear HLEN HPOP hL hB f7 hd7 HO
                  go_wp2_with fail
                  refine ⟨⟨x', kk', upd T x' none, B.set x' false, D7, rfl, rfl, HLS, HST, ?_, ?_, ?_, hD7, hbL7, hbB7, ?_⟩, by rw [HHL.out]; exact HM7.out⟩
                  · exact (heap_setCell_other _ ⟨bB, x', none⟩ bL _ hne).trans hL7
                  · exact cellsB_set hB7 x' false
                  · exact r7.same (fun i hi => heap_setCell_other _ ⟨bB, x', none⟩ i _ (fun e => hbB7 (by have e' : i = bB := e; rw [← e']; exact hi)))
                  · exact b7.setCell (p := ⟨bB, x', none⟩) s5 _
                · have hq1 : (kk == kq) = false := beq_eq_false_iff_ne.2 heq
                  clear heq hkk HLX
                  go_wp2_with fail
                  refine HPOP.out.mono ?_
                  rintro e w7 ⟨x', kk', er, rfl, ht', D7, r7, hd7, f7⟩
                  obtain ⟨rfl, rfl, rfl⟩ := ht'.unique HTOP.out
                  rw [if_pos rfl] at r7
                  have b7 := b6.trans (f7.below b6.size hD)
                  have hL7 := (f7.block _ sL hbL).trans hL
                  have hB7 := (f7.block _ sB hbB).trans hB
                  have hbL7 : ¬ D7 bL := fun hd => by rcases hd7 _ hd with h' | h'; exact hbL h'; omega
                  have hbB7 : ¬ D7 bB := fun hd => by rcases hd7 _ hd with h' | h'; exact hbB h'; omega
                  have hD7 : ∀ x, D7 x → w.heap.size ≤ x := fun x hx => by rcases hd7 _ hx with h' | h'; exact hD _ h'; exact Nat.le_trans b6.size h'
                  obtain ⟨d0, e0⟩ := cellsU_at hL7 x' (by rw [HO.1]; exact hxk)
                  obtain ⟨d1, e1⟩ := cellsB_at hB7 x' (by rw [HO.2.1]; exact hxk)
                  rw [hLx] at d0
                  rw [hBx] at d1
                  have HM7 : Hid (hlen w7 h < hlen w0 h) := by show _ < _; rw [r7.hlen, r6.hlen]; have := cnt_upd T x' none k hxk; rw [HTX.out] at this; simp at this; omega
                  have HHL : Hid (hlen (w7.setCell ⟨bB, x', none⟩ (.bool false)) h = hlen w7 h) := by
                    have r9 := r7.same (w' := w7.setCell ⟨bB, x', none⟩ (.bool false)) (fun i hi => heap_setCell_other _ ⟨bB, x', none⟩ i _ (fun e => hbB7 (by have e' : i = bB := e; rw [← e']; exact hi)))
                    show _ = _
                    rw [r9.hlen, r7.hlen]
                  have HST := HO.step hxk
                  have HLS := Lst.step HTOP.out rfl
                  clear HLEN HPOP hL hB f7 hd7 HO
                  go_wp2_with fail
                  refine ⟨⟨x', kk', upd T x' none, B.set x' false, D7, rfl, rfl, HLS, HST, ?_, ?_, ?_, hD7, hbL7, hbB7, ?_⟩, by rw [HHL.out]; exact HM7.out⟩
                  · exact (heap_setCell_other _ ⟨bB, x', none⟩ bL _ hne).trans hL7
                  · exact cellsB_set hB7 x' false
                  · exact r7.same (fun i hi => heap_setCell_other _ ⟨bB, x', none⟩ i _ (fun e => hbB7 (by have e' : i = bB := e; rw [← e']; exact hi)))
                  · exact b7.setCell (p := ⟨bB, x', none⟩) s5 _
              · clear HLX
                go_wp2_with fail
                refine HPOP.out.mono ?_
                rintro e w7 ⟨x', kk', er, rfl, ht', D7, r7, hd7, f7⟩
                obtain ⟨rfl, rfl, rfl⟩ := ht'.unique HTOP.out
                rw [if_pos rfl] at r7
                have b7 := b6.trans (f7.below b6.size hD)
                have hL7 := (f7.block _ sL hbL).trans hL
                have hB7 := (f7.block _ sB hbB).trans hB
                have hbL7 : ¬ D7 bL := fun hd => by rcases hd7 _ hd with h' | h'; exact hbL h'; omega
                have hbB7 : ¬ D7 bB := fun hd => by rcases hd7 _ hd with h' | h'; exact hbB h'; omega
                have hD7 : ∀ x, D7 x → w.heap.size ≤ x := fun x hx => by rcases hd7 _ hx with h' | h'; exact hD _ h'; exact Nat.le_trans b6.size h'
                obtain ⟨d0, e0⟩ := cellsU_at hL7 x' (by rw [HO.1]; exact hxk)
                obtain ⟨d1, e1⟩ := cellsB_at hB7 x' (by rw [HO.2.1]; exact hxk)
                rw [hLx] at d0
                rw [hBx] at d1
                have HM7 : Hid (hlen w7 h < hlen w0 h) := by show _ < _; rw [r7.hlen, r6.hlen]; have := cnt_upd T x' none k hxk; rw [HTX.out] at this; simp at this; omega
                have HHL : Hid (hlen (w7.setCell ⟨bB, x', none⟩ (.bool false)) h = hlen w7 h) := by
                  have r9 := r7.same (w' := w7.setCell ⟨bB, x', none⟩ (.bool false)) (fun i hi => heap_setCell_other _ ⟨bB, x', none⟩ i _ (fun e => hbB7 (by have e' : i = bB := e; rw [← e']; exact hi)))
                  show _ = _
                  rw [r9.hlen, r7.hlen]
                have HST := HO.step hxk
                have HLS := Lst.step HTOP.out rfl
                clear HLEN HPOP hL hB f7 hd7 HO
                go_wp2_with fail
                refine ⟨⟨x', kk', upd T x' none, B.set x' false, D7, rfl, rfl, HLS, HST, ?_, ?_, ?_, hD7, hbL7, hbB7, ?_⟩, by rw [HHL.out]; exact HM7.out⟩
                · exact (heap_setCell_other _ ⟨bB, x', none⟩ bL _ hne).trans hL7
                · exact cellsB_set hB7 x' false
                · exact r7.same (fun i hi => heap_setCell_other _ ⟨bB, x', none⟩ i _ (fun e => hbB7 (by have e' : i = bB := e; rw [← e']; exact hi)))
                · exact b7.setCell (p := ⟨bB, x', none⟩) s5 _
            · have hc0 : cnt T k = 0 := by omega
              rw [hc0] at HLEN
              have HPOP := Lib.hid (Pop_any r6)
              have hall : ∀ x, x < k → B.getD x false = false := fun x hx => by
                rcases HO.2.2 x hx with ⟨_, c1⟩ | ⟨q, c1, _⟩
                · exact c1
                · rw [cnt_none hc0 x hx] at c1; cases c1
              have hBl := HO.2.1
              clear HO HLst
              go_wp2_with fail
              refine HLEN.out.mono ?_
              rintro e w0 ⟨rfl, rfl⟩
              go_wp2_with fail
              go_loopw [152] (fun i wr => ∃ j : Nat, j ≤ k ∧ i = .int .i64 j ∧ wr = w0) (fun i _ => k - (intOf i).toNat)
              case atStart => exact ⟨0, Nat.zero_le _, rfl, rfl⟩
              case round =>
                obtain ⟨j, hj, rfl, rfl⟩ := hrel
                by_cases hjk : j < k
                · obtain ⟨d1, e1⟩ := cellsB_at hB j (by rw [hBl]; exact hjk)
                  rw [hall j hjk] at d1
                  clear hall
                  go_wp2_with fail
                  exact ⟨⟨j + 1, by omega, by go_num, by simp⟩, by simp [intOf]; omega⟩
                · clear hall
                  go_wp2_with fail
                  refine HPOP.out.mono ?_
                  rintro e w7 ⟨x', kk', er, rfl, ht', D7, r7, hd7, f7⟩
                  obtain ⟨rfl, rfl, rfl⟩ := ht'.no hc0
                  go_wp2_with fail
                  go_ret
                  exact ⟨rfl, b6.trans (f7.below b6.size hD)⟩
end Go.Proofs.Ytbahlbdnibmjfaa
