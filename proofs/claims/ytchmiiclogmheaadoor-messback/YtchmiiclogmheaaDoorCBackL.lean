/-
  Contract of the reader's method list: members one behind the other, or that there are none such.
-/
import Derived.Test.YtchmiiclogmheaaDoorCBackR
import Derived.Test.YtchmiiclogmheaaDoorCItemT
import Derived.Test.YtchmiiclogmheaaDoorCItemIn
import Derived.Maps.AppendAt
namespace Go.Proofs.YtchmiiclogmheaaDoor.C2
open Go.RowKit
set_option maxRecDepth 100000 in
theorem info25 : (Tryd.prog.info? 54).map (fun i => (i.zero, i.size, i.bytes)) = some (some (.agg #[.int .i64 0, .int .u64 0, .string ⟨#[]⟩, .slice none 0 0]), 4, 56) := by kernel_rfl
/-- Items' cells, one behind the other. -/
def cellsC (l : List T) : List Value := l.flatMap T.cells
set_option maxRecDepth 100000 in
theorem cellsC_join (l : List T) (t : T) : cellsC (l ++ [t]) = cellsC l ++ t.cells := by unfold cellsC; simp
theorem cellsC_at (l : List T) : ∀ j, (h : j < l.length) → (cellsC l)[j * 4]? = some (.int .i64 l[j].k) ∧ (cellsC l)[j * 4 + 1]? = some (.int .u64 l[j].n) ∧ (cellsC l)[j * 4 + 2]? = some (.string l[j].s) ∧ (cellsC l)[j * 4 + 3]? = some (.slice l[j].a l[j].l.length l[j].cap) := by
  induction l with
  | nil => intro j h; exact absurd h (by simp)
  | cons t l ih =>
    intro j h
    have e : cellsC (t :: l) = .int .i64 t.k :: .int .u64 t.n :: .string t.s :: .slice t.a t.l.length t.cap :: cellsC l := rfl
    cases j with
    | zero => rw [e]; exact ⟨rfl, rfl, rfl, rfl⟩
    | succ j =>
      have := ih j (by simpa using h)
      rw [e, show (j + 1) * 4 = j * 4 + 4 by omega]
      simpa using this
/-- So many members read. -/
structure Lst (s : ByteArray) (rb f k1 B : Nat) (wr : World) (v : Value) (l : List T) (ki : Nat) : Prop where
  rs : RS wr rb s ki
  le : ki ≤ s.size
  ge : k1 ≤ ki
  own : wr.ownsRow B 54 4 v l.length (cellsC l)
  mem : ∀ j, (h : j < l.length) → InS (fun b => B ≤ b ∧ b < wr.heap.size ∧ v.ownBlock ≠ some b) wr f l[j] ∧ Okk f l[j]
  bytes : s.data.toList.drop k1 = catE (fun j => encF f (l.getD j T.zero)) l.length ++ s.data.toList.drop ki
set_option maxRecDepth 100000 in
theorem catE_split {Z : Nat → List UInt8} {i n : Nat} (h : i < n) : ∃ q, catE Z n = catE Z i ++ (Z i ++ q) := by
  induction n with
  | zero => omega
  | succ n ih =>
    by_cases e : i = n
    · subst e; exact ⟨[], by show catE Z i ++ Z i = _; simp⟩
    · obtain ⟨q, hq⟩ := ih (by omega)
      exact ⟨q ++ Z n, by show catE Z n ++ Z n = _; rw [hq]; simp⟩
set_option maxRecDepth 100000 in
theorem noList_num {f : Nat} {L : List UInt8} (h : NoNum L) : NoList f L := by
  intro n u r hn _ e
  rw [List.append_assoc] at e
  exact h n _ (by omega) e
set_option maxRecDepth 100000 in
theorem noList_long {f m : Nat} {L q : List UInt8} (hL : L = numD m ++ q) (hm : 16384 < m) (hm2 : m < 18446744073709551616) : NoList f L := by
  intro n u r hn _ e
  rw [hL, List.append_assoc] at e
  have := (numD_inj hm2 (by omega) e).1
  omega
set_option maxRecDepth 100000 in
theorem noList_item {f m : Nat} {L q q2 : List UInt8} {l : List T} (hL : L = numD m ++ q) (hm2 : m < 18446744073709551616) (hq : q = catE (fun j => encF f (l.getD j T.zero)) l.length ++ q2) (hok : ∀ j, (h : j < l.length) → Okk f l[j]) (hl : l.length < m) (hno : NoItem f q2) : NoList f L := by
  intro n u r hn hu e
  rw [hL, List.append_assoc] at e
  obtain ⟨rfl, e1⟩ := numD_inj hm2 (by omega) e
  obtain ⟨q3, hs⟩ := catE_split (Z := fun j => encF f (u j)) hl
  rw [hq, hs, List.append_assoc] at e1
  have h := catE_inj l.length (fun j => encF f (l.getD j T.zero)) (fun j => encF f (u j)) _ _ (fun _ => True) (fun j hj r q hh => by
    have hj' : l.getD j T.zero = l[j] := by simp [List.getD, List.getElem?_eq_getElem hj]
    have hh' : encF f (l.getD j T.zero) ++ r = encF f (u j) ++ q := hh
    rw [hj'] at hh'
    exact ⟨trivial, (encF_inj f _ _ r q (hok j hj) (hu j (by omega)) hh').2⟩) e1
  exact hno (u l.length) (q3 ++ r) (hu _ hl) (by rw [h.2, List.append_assoc])
set_option maxRecDepth 100000 in
theorem catE_congr {Z Y : Nat → List UInt8} {m : Nat} (h : ∀ j, j < m → Z j = Y j) : catE Z m = catE Y m := by
  induction m with
  | zero => rfl
  | succ m ih => show catE Z m ++ Z m = catE Y m ++ Y m; rw [ih (fun j hj => h j (by omega)), h m (by omega)]
set_option maxRecDepth 100000 in
theorem own_rd {rb B n : Nat} {w w' : World} {v : Value} {xs : List Value} (h : w.ownsRow B 54 4 v n xs) (hr : Rd rb w w') (hrb : rb < B) : w'.ownsRow B 54 4 v n xs := by
  refine ⟨h.1, ?_⟩
  rcases h.2 with h' | ⟨g, c, cur, h', hb', hg, rest⟩
  · exact Or.inl h'
  · exact Or.inr ⟨g, c, cur, h', hb', (hr.block g (lt_of_block hg) (by omega)).trans hg, rest⟩
set_option maxRecDepth 100000 in
theorem Lst.step {s : ByteArray} {rb f k1 B ki k2 : Nat} {wr w2 w2a w3 : World} {v v3 : Value} {l : List T} {t : T} (h : Lst s rb f k1 B wr v l ki) (hrb : rb < B) (hBw : B ≤ wr.heap.size) (hrd : Rd rb wr w2) (hs2 : RS w2 rb s k2) (hk2 : k2 ≤ s.size) (hki : ki ≤ k2)
    (hin : InS (fun b => wr.heap.size ≤ b ∧ b < w2.heap.size) w2 f t) (hok : Okk f t) (hby : s.data.toList.drop ki = encF f t ++ s.data.toList.drop k2) (hb : Below w2.heap.size w2 w2a)
    (hown3 : w3.ownsRow B 54 4 v3 (l.length + 1) (cellsC l ++ t.cells)) (hg : w2a.grownBy w3 v.ownBlock) (hv3 : v3.ownBlock = v.ownBlock ∨ v3.ownBlock = some w2a.heap.size) : Lst s rb f k1 B w3 v3 (l ++ [t]) k2 := by
  have hsame : ∀ b, b < w2.heap.size → v.ownBlock ≠ some b → w3.heap[b]? = w2.heap[b]? := fun b h1 h2 => (hg.block b (Nat.lt_of_lt_of_le h1 hb.size) (fun e => h2 e.symm)).trans (hb.block b h1)
  have hz1 := hrd.size
  have hz2 := hb.size
  have hz3 := hg.size
  have hown := h.own.lt
  have hrbv : v.ownBlock ≠ some rb := fun e => by have := hown rb e; omega
  have hrb2 := hsame rb hs2.lt hrbv
  refine ⟨⟨by have := hs2.lt; omega, (World.cell?_of_block (w := w2) (a := ⟨rb, 0, none⟩) hrb2).trans hs2.c0, (World.cell?_of_block (w := w2) (a := ⟨rb, 1, none⟩) hrb2).trans hs2.c1, (World.frozen?_of_block (w := w2) (a := ⟨rb, 1, none⟩) hrb2).trans hs2.f1⟩, hk2, Nat.le_trans h.ge hki, ?_, ?_, ?_⟩
  · rw [cellsC_join, List.length_append]; exact hown3
  · intro j hj
    by_cases hjl : j < l.length
    · rw [List.getElem_append_left hjl]
      refine ⟨(h.mem j hjl).1.same ?_, (h.mem j hjl).2⟩
      rintro b ⟨h1, h2, h3⟩
      refine ⟨⟨h1, by omega, ?_⟩, (hsame b (by omega) h3).trans (hrd.block b h2 (by omega))⟩
      rcases hv3 with e | e
      · rw [e]; exact h3
      · rw [e]; intro e2; injection e2 with e2; omega
    · have hje : j = l.length := by simp at hj; omega
      subst hje
      rw [List.getElem_append_right (Nat.le_refl _)]
      simp only [Nat.sub_self, List.getElem_cons_zero]
      refine ⟨hin.same ?_, hok⟩
      rintro b ⟨h1, h2⟩
      have h3 : v.ownBlock ≠ some b := fun e => by have := hown b e; omega
      refine ⟨⟨by omega, by omega, ?_⟩, hsame b h2 h3⟩
      rcases hv3 with e | e
      · rw [e]; exact h3
      · rw [e]; intro e2; injection e2 with e2; omega
  · rw [h.bytes, hby, List.length_append, ← List.append_assoc]
    congr 1
    show _ = catE _ l.length ++ _
    congr 1
    · refine catE_congr fun j hj => ?_
      congr 1
      simp [List.getD, List.getElem?_append_left hj]
    · simp [List.getD]
set_option maxRecDepth 100000 in
theorem Lst.out {s : ByteArray} {rb f k1 B ki : Nat} {wr w' : World} {v : Value} {l : List T} (h : Lst s rb f k1 B wr v l ki) (hsame : ∀ b, B ≤ b → w'.heap[b]? = wr.heap[b]?) (hz : wr.heap.size ≤ w'.heap.size) :
    ∃ p cap, v = .slice p l.length cap ∧ (0 < l.length → ∃ b, p = some ⟨b, 0, none⟩ ∧ (B ≤ b ∧ b < w'.heap.size) ∧ ∀ j, (h : j < l.length) → l[j].at w' b (j * 4)) ∧ (∀ j, (h : j < l.length) → InS (fun b => B ≤ b ∧ b < w'.heap.size) w' f l[j] ∧ Okk f l[j]) := by
  have hmem : ∀ j, (h : j < l.length) → InS (fun b => B ≤ b ∧ b < w'.heap.size) w' f l[j] ∧ Okk f l[j] := fun j hj => ⟨(h.mem j hj).1.same (by rintro b ⟨h1, h2, _⟩; exact ⟨⟨h1, by omega⟩, hsame b h1⟩), (h.mem j hj).2⟩
  rcases h.own.2 with ⟨h', h0⟩ | ⟨g, c, cur, h', hb', hg, h1, h2, h3, h4⟩
  · exact ⟨none, 0, by rw [h0]; exact h', fun h => by omega, hmem⟩
  · refine ⟨_, c, h', fun _ => ⟨g, rfl, ⟨hb', by have := lt_of_block hg; omega⟩, fun j hj => ?_⟩, hmem⟩
    have hown := h.own
    rw [h'] at hown
    have e := fun i hi => hown.cellAt i hi
    obtain ⟨e0, e1, e2, e3⟩ := cellsC_at l j hj
    have hat : l[j].at wr g (j * 4) := ⟨(e (j * 4) (by omega)).trans e0, (e (j * 4 + 1) (by omega)).trans e1, (e (j * 4 + 2) (by omega)).trans e2, (e (j * 4 + 3) (by omega)).trans e3⟩
    exact hat.same (hsame g hb')
set_option maxHeartbeats 2000000 in
set_option maxRecDepth 100000 in
theorem list_back (s : ByteArray) (hs : s.size ≤ 262144) (rb f k : Nat) (hk : k ≤ s.size) (d : Int) (hd0 : 0 ≤ d) (hd : d ≤ 8) (w : World) (hr : RS w rb s k)
    (H : ∀ w' ki, RS w' rb s ki → ki ≤ s.size → Calls Tryd.prog 43 #[.pointer (some ⟨rb, 0, none⟩), .int .i64 (d + 1)] w' (ItOut s rb f ki w')) :
    Calls Tryd.prog 77 #[.pointer (some ⟨rb, 0, none⟩), .int .i64 d] w (LsOut s rb f k w) := by
  obtain ⟨i0, hi, hz0, hz1, hzb⟩ := info_parts info25
  have hr1 := hr.on ((Below.refl w.heap.size w).alloc (Nat.le_refl _) (.cells #[.int .i64 0, .int .i64 0] 35))
  have HR1 := Lib.hid hr1
  have hrw : Rd rb w (w.alloc (.cells #[.int .i64 0, .int .i64 0] 35)) := Rd.of ((Below.refl w.heap.size w).alloc (Nat.le_refl _) _)
  have HH := Lib.hid H
  have HNB := Lib.hid (num_back s hs rb k hk _ hr1)
  obtain ⟨hlt, c0, c1, f1⟩ := hr
  clear H hr1
  go_enter Tryd.func77, Tryd.ntmps77
  go_wp2_with fail
  refine HNB.out.mono ?_
  rintro e w1 ⟨n, a, c, k', rfl, hp, hrd, hrs⟩
  obtain ⟨hn0, hn1, hk', ha0, ha1, hp⟩ := hp
  have HP := Lib.hid hp
  have hres := (hrd.block w.heap.size (by simp) (by omega)).trans (heap_top w (.cells #[.int .i64 0, .int .i64 0] 35))
  have hrd1 := hrw.trans hrd
  have hsz : w.heap.size < w1.heap.size := lt_of_block hres
  have hz2 : w.heap.size < w1.heap.size + 1 := by omega
  obtain ⟨⟨x0, x1⟩, xf0, xf1⟩ := two_cells hres
  have HRS := Lib.hid hrs
  have HRES := Lib.hid hres
  clear hrd hrw hres HR1 HNB hp hrs c0 c1 f1
  by_cases hc : c = 0
  · subst hc
    obtain ⟨m, rfl⟩ : ∃ m : Nat, n = m := ⟨n.toNat, by omega⟩
    have HPOK : Hid (a = 0 ∧ k ≤ k' ∧ s.data.toList.drop k = numD m ++ s.data.toList.drop k') := by
      rcases HP.out with ⟨_, h1, h2, h3⟩ | ⟨h, _⟩
      · exact ⟨h1, h2, by simpa using h3⟩
      · exact absurd rfl h
    clear HP
    by_cases hm : 16384 < m
    · have hm' : (16384 : Int) < m := by omega
      go_wp2_with fail
      refine (fault_any k 2 _).mono ?_
      rintro e w2 ⟨rfl, hb2⟩
      have hb12 : Below w1.heap.size w1 w2 := ((Below.refl _ _).alloc (Nat.le_refl _) _).trans (hb2.mono (by simp))
      obtain ⟨⟨z0, z1⟩, zf0, zf1⟩ := two_cells ((hb12.block _ hsz).trans HRES.out)
      have hrd2 : Rd rb w w2 := hrd1.trans (Rd.of hb12)
      have HRS2 := Lib.hid (HRS.out.on hb12)
      have hsz2 : w.heap.size < w2.heap.size := Nat.lt_of_lt_of_le hsz hb12.size
      clear hb2 hb12 x0 x1 xf0 xf1
      go_wp2_with fail
      refine bodyPost_ret (v := .tuple #[.slice none 0 0, .agg #[.int .i64 k, .int .i64 2]]) (by simp [results, Tryd.results77, go_sem, z0, z1]) rfl ⟨none, 0, [], k, 2, k', rfl, ?_, ?_, hk', by omega, by omega, Or.inr ⟨by omega, noList_long HPOK.out.2.2 hm (by omega)⟩⟩
      · exact (hrd2.setNew (a := ⟨w.heap.size, 0, none⟩) (Nat.le_refl _) _).setNew (a := ⟨w.heap.size, 1, none⟩) (Nat.le_refl _) _
      · exact (HRS2.out.setOther (a := ⟨w.heap.size, 0, none⟩) (show w.heap.size ≠ rb by omega) _).setOther (a := ⟨w.heap.size, 1, none⟩) (show w.heap.size ≠ rb by omega) _
    · have hm' : ¬ (16384 : Int) < m := by omega
      go_wp2_with fail
      go_loopw [9, 30] (fun v i wr => ∃ (l : List T) (ki : Nat), i = .int .u64 (l.length : Nat) ∧ l.length ≤ m ∧ Hid (Lst s rb f k' (w.heap.size + 1) wr v l ki) ∧ Rd rb w wr ∧ Hid (wr.heap[w.heap.size]? = some (.cells #[.int .i64 0, .int .i64 0] 35))) (fun _ i _ => m - (intOf i).toNat)
      case atStart =>
        have hb0 : Below w1.heap.size w1 (w1.alloc (.cells #[.int .i64 a, .int .i64 0] 35)) := (Below.refl _ _).alloc (Nat.le_refl _) _
        exact ⟨[], k', rfl, Nat.zero_le _, ⟨HRS.out.on hb0, hk', Nat.le_refl _, World.ownsRow_nil _ _ _ _, fun j h => absurd h (by simp), rfl⟩, hrd1.trans (Rd.of hb0), (hb0.block _ hsz).trans HRES.out⟩
      case round =>
        obtain ⟨l, ki, rfl, hlm, HL, hrdr, HRR⟩ := hrel
        clear x0 x1 xf0 xf1 HRS HRES
        by_cases hln : l.length < m
        · have hln' : (l.length : Int) < m := by omega
          go_wp2_with fail
          refine (HH.out _ ki HL.out.rs HL.out.le).mono ?_
          rintro e w2 ⟨t, a2, c2, k2, rfl, hrd2, hrs2, hk2, ha2, ha3, hp2⟩
          unfold T.val
          have HP2 := Lib.hid hp2
          have HRS2 := Lib.hid hrs2
          have hres2 := (hrd2.block w.heap.size (lt_of_block HRR.out) (by omega)).trans HRR.out
          have hsz2 : w.heap.size < w2.heap.size := lt_of_block hres2
          have hszr : w.heap.size < wr.heap.size := lt_of_block HRR.out
          have hrdw : Rd rb w w2 := hrdr.trans hrd2
          have HR2 := Lib.hid hres2
          clear hp2 hrs2 hres2
          by_cases hc2 : c2 = 0
          · subst hc2
            have HP3 : Hid (a2 = 0 ∧ ki ≤ k2 ∧ InS (fun b => wr.heap.size ≤ b ∧ b < w2.heap.size) w2 f t ∧ Okk f t ∧ s.data.toList.drop ki = encF f t ++ s.data.toList.drop k2) := by
              rcases HP2.out with ⟨_, h⟩ | ⟨h, _⟩
              · exact h
              · exact absurd rfl h
            have HOW : Hid (w2.ownsRow (w.heap.size + 1) 54 4 u9 l.length (cellsC l)) := own_rd HL.out.own hrd2 (by omega)
            have HNEW : Hid (∀ j u, t.cells[j]? = some u → (((w2.alloc (.cells #[.int .i64 t.k, .int .u64 t.n, .string t.s, .slice t.a t.l.length t.cap] 54)).alloc (.cells #[.int .i64 a2, .int .i64 0] 35)).alloc (.cells #[.int .i64 t.k, .int .u64 t.n, .string t.s, .slice t.a t.l.length t.cap] 54)).cell? ((⟨w2.heap.size + 1 + 1, 0, none⟩ : Addr).add j) = some u) := by
              show ∀ j u, _
              intro j u hu
              have ht := heap_top ((w2.alloc (.cells #[.int .i64 t.k, .int .u64 t.n, .string t.s, .slice t.a t.l.length t.cap] 54)).alloc (.cells #[.int .i64 a2, .int .i64 0] 35)) (.cells #[.int .i64 t.k, .int .u64 t.n, .string t.s, .slice t.a t.l.length t.cap] 54)
              rw [World.size_alloc, World.size_alloc] at ht
              obtain ⟨⟨q0, q1, q2, q3⟩, -⟩ := four_cells ht
              have e : (⟨w2.heap.size + 1 + 1, 0, none⟩ : Addr).add j = ⟨w2.heap.size + 1 + 1, j, none⟩ := by
                simp [Addr.add]
                intro h; exact h.symm
              rw [e]
              match j, hu with
              | 0, hu => rw [q0]; exact hu
              | 1, hu => rw [q1]; exact hu
              | 2, hu => rw [q2]; exact hu
              | 3, hu => rw [q3]; exact hu
            have HONE : Hid (∀ u ∈ t.cells, u.oneCell' = true) := by
              show ∀ u ∈ _, _
              intro u hu
              simp [T.cells] at hu
              rcases hu with rfl | rfl | rfl | rfl <;> rfl
            go_wp2_with (at_builtin; refine wpList_append_own_at _ rfl (.tmp 43) (.tmp 45) 52 rfl (w.heap.size + 1) 54 i0 (.agg #[.int .i64 0, .int .u64 0, .string ⟨#[]⟩, .slice none 0 0]) 4 56 Tryd.underlying52 hi hz0 hz1 hzb rfl (by decide) u9 l.length (cellsC l) rfl (((HOW.out.alloc _).alloc _).alloc _) ⟨w2.heap.size + 1 + 1, 0, none⟩ 1 1 t.cells rfl rfl HNEW.out HONE.out (by unfold maxLen; omega) (by omega) (by simp; omega) ?_; intro v3 w3 hown3 hgrow3 hnil3 hblk3; clear hnil3; have hb3 : Below w2.heap.size w2 (((w2.alloc (.cells #[.int .i64 t.k, .int .u64 t.n, .string t.s, .slice t.a t.l.length t.cap] 54)).alloc (.cells #[.int .i64 a2, .int .i64 0] 35)).alloc (.cells #[.int .i64 t.k, .int .u64 t.n, .string t.s, .slice t.a t.l.length t.cap] 54)) := (((Below.refl _ _).alloc (Nat.le_refl _) _).alloc (by simp) _).alloc (by simp; omega) _; have HL3 : Hid (Lst s rb f k' (w.heap.size + 1) w3 v3 (l ++ [t]) k2) := HL.out.step (by omega) (by omega) hrd2 HRS2.out hk2 HP3.out.2.1 HP3.out.2.2.1 HP3.out.2.2.2.1 HP3.out.2.2.2.2 hb3 hown3 hgrow3 hblk3; have hsm3 : ∀ b, b < w.heap.size + 1 → w3.heap[b]? = w2.heap[b]? := fun b hb => (hgrow3.block b (by simp; omega) (fun e => by have := HOW.out.lt b e.symm; omega)).trans (hb3.block b (by omega)); have hz3 : w2.heap.size ≤ w3.heap.size := Nat.le_trans hb3.size hgrow3.size; have hrd3 : Rd rb w w3 := hrdw.trans' ⟨hgrow3.os.trans hb3.os, hgrow3.tape.trans hb3.tape, hgrow3.output.trans hb3.output, hz3, fun i hi => hsm3 i (by omega)⟩; have HR3 : Hid (w3.heap[w.heap.size]? = some (.cells #[.int .i64 0, .int .i64 0] 35)) := (hsm3 _ (by omega)).trans HR2.out; clear hown3 hgrow3 hblk3 hb3 hsm3)
            exact ⟨⟨l ++ [t], k2, by simp, by simp; omega, HL3, hrd3, HR3⟩, by simp [intOf]; omega⟩
          · have hcb : (c2 == 0) = false := beq_eq_false_iff_ne.2 hc2
            have HNO : Hid (NoItem f (s.data.toList.drop ki)) := by
              rcases HP2.out with ⟨h, _⟩ | ⟨_, h⟩
              · exact absurd h hc2
              · exact h
            have HNL : Hid (NoList f (s.data.toList.drop k)) := noList_item HPOK.out.2.2 (by omega) HL.out.bytes (fun j h => (HL.out.mem j h).2) hln HNO.out
            obtain ⟨⟨z0, z1⟩, zf0, zf1⟩ := two_cells HR2.out
            clear HP2 HNO HL HRR
            go_wp2_with fail
            go_region
            go_wp2_with fail
            refine bodyPost_ret (v := .tuple #[.slice none 0 0, .agg #[.int .i64 a2, .int .i64 c2]]) (by simp [results, Tryd.results77, go_sem, z0, z1, hsz2]) rfl ⟨none, 0, [], a2, c2, k2, rfl, ?_, ?_, hk2, ha2, ha3, Or.inr ⟨hc2, HNL.out⟩⟩
            · refine Rd.trans ?_ (Rd.of ((Below.refl _ _).drew))
              exact ((hrdw.setNew (a := ⟨w.heap.size, 0, none⟩) (Nat.le_refl _) _).setNew (a := ⟨w.heap.size, 1, none⟩) (Nat.le_refl _) _).trans (Rd.of (((Below.refl _ _).alloc (Nat.le_refl _) _).alloc (by simp) _))
            · refine RS.on ?_ ((Below.refl _ _).drew)
              exact ((HRS2.out.setOther (a := ⟨w.heap.size, 0, none⟩) (show w.heap.size ≠ rb by omega) _).setOther (a := ⟨w.heap.size, 1, none⟩) (show w.heap.size ≠ rb by omega) _).on (((Below.refl _ _).alloc (Nat.le_refl _) _).alloc (by simp) _)
        · have hln' : ¬ (l.length : Int) < m := by omega
          obtain ⟨⟨z0, z1⟩, zf0, zf1⟩ := two_cells HRR.out
          have hle : l.length = m := by omega
          have hwsz := lt_of_block HRR.out
          go_wp2_with fail
          obtain ⟨p, cap, hv, hcells, hmem⟩ := HL.out.out (w' := (wr.setCell ⟨w.heap.size, 0, none⟩ (.int .i64 0)).setCell ⟨w.heap.size, 1, none⟩ (.int .i64 0)) (fun b hb => (Below.heap_setCell _ _ _ b (by simp; omega)).trans (Below.heap_setCell _ _ _ b (by simp; omega))) (by simp)
          subst hv
          refine bodyPost_ret (v := .tuple #[.slice p l.length cap, .agg #[.int .i64 0, .int .i64 0]]) (by simp [results, Tryd.results77, go_sem, z0, z1]) rfl ⟨p, cap, l, 0, 0, ki, rfl, ?_, ?_, HL.out.le, by omega, by omega, Or.inl ⟨rfl, rfl, Nat.le_trans HPOK.out.2.1 HL.out.ge, by omega, ?_, ?_, ?_⟩⟩
          · exact (hrdr.setNew (a := ⟨w.heap.size, 0, none⟩) (Nat.le_refl _) _).setNew (a := ⟨w.heap.size, 1, none⟩) (Nat.le_refl _) _
          · exact (HL.out.rs.setOther (a := ⟨w.heap.size, 0, none⟩) (show w.heap.size ≠ rb by omega) _).setOther (a := ⟨w.heap.size, 1, none⟩) (show w.heap.size ≠ rb by omega) _
          · intro h0
            obtain ⟨b, h1, h2, h3⟩ := hcells h0
            exact ⟨b, h1, ⟨by omega, h2.2⟩, h3⟩
          · intro j h
            exact ⟨(hmem j h).1.same (fun b hb => ⟨⟨by omega, hb.2⟩, rfl⟩), (hmem j h).2⟩
          · rw [HPOK.out.2.2, HL.out.bytes, ← List.append_assoc, hle]
  · have hcb : (c == 0) = false := beq_eq_false_iff_ne.2 hc
    have HNO : Hid (NoNum (s.data.toList.drop k)) := by
      rcases HP.out with ⟨h, _⟩ | ⟨_, h⟩
      · exact absurd h hc
      · exact h
    go_wp2_with fail
    go_region
    go_wp2_with fail
    refine bodyPost_ret (v := .tuple #[.slice none 0 0, .agg #[.int .i64 a, .int .i64 c]]) (by simp [results, Tryd.results77, go_sem, x0, x1, hsz]) rfl ⟨none, 0, [], a, c, k', rfl, ?_, ?_, hk', ha0, ha1, Or.inr ⟨hc, noList_num HNO.out⟩⟩
    · refine Rd.trans ?_ (Rd.of ((Below.refl _ _).drew))
      exact ((hrd1.setNew (a := ⟨w.heap.size, 0, none⟩) (Nat.le_refl _) _).setNew (a := ⟨w.heap.size, 1, none⟩) (Nat.le_refl _) _).trans (Rd.of ((Below.refl _ _).alloc (Nat.le_refl _) _))
    · refine RS.on ?_ ((Below.refl _ _).drew)
      exact ((HRS.out.setOther (a := ⟨w.heap.size, 0, none⟩) (show w.heap.size ≠ rb by omega) _).setOther (a := ⟨w.heap.size, 1, none⟩) (show w.heap.size ≠ rb by omega) _).on ((Below.refl _ _).alloc (Nat.le_refl _) _)
end Go.Proofs.YtchmiiclogmheaaDoor.C2
