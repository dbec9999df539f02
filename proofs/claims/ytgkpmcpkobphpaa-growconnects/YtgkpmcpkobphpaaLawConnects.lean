/-
  GrowConnects holds.
-/
import Derived.Test.YtgkpmcpkobphpaaCoMath
import Derived.Test.YtgkpmcpkobphpaaOrder
import Derived.Test.YtgkpmcpkobphpaaWorks
import Derived.Test.YtgkpmcpkobphpaaLarge
namespace Go.Proofs.Ytgkpmcpkobphpaa
open Go.RowKit
theorem below_t4 {p : Nat} {w w1 w2 : World} (h : Below p w w1) (hp : w.heap.size = p) (h2 : Below w1.heap.size w1 w2) : Below p w w2 := h.trans (h2.mono (hp ▸ h.size))
theorem gchk_all {n : Nat} {c : Int} {m : Int} {l : List A} (h : gchk n c m l = 0) : gchk n c 1024 l = 0 := by
  obtain ⟨h1, h2, h3, h4⟩ := gchk_zero h
  unfold gchk
  rw [if_neg (by rw [h1]; simp), if_neg (by simpa using h2), if_neg (by omega)]
theorem parts_len {N : Nat} {l : List T3.A} : (T3.partsL N l).length ≤ N := by
  unfold T3.partsL
  split
  · rw [T3.ints_len, T3.labs_len, Int.toNat_natCast]; exact Nat.le_refl _
  · simp
/-- A growth's order, as numbers: all of them, each once. -/
theorem ord_ok {n : Nat} {l : List A} (hall : ∀ x ∈ l, (0 ≤ x.f ∧ x.f < n) ∧ (0 ≤ x.t ∧ x.t < n)) : (ints (ordw (edl l) (2 * l.length) n n).1).length = n ∧ (ints (ordw (edl l) (2 * l.length) n n).1).Nodup ∧ ∀ x, x ∈ ints (ordw (edl l) (2 * l.length) n n).1 → ∃ u : Nat, u < n ∧ x = u := by
  obtain ⟨h1, h2, h3⟩ := ordw_all (l := l) (N := n) (fun x hx => ⟨(hall x hx).1.1, (hall x hx).2.1⟩)
  refine ⟨by rw [ints_len, h1], nodup_ints h2, fun x hx => ?_⟩
  unfold ints at hx
  obtain ⟨u, hu, rfl⟩ := List.mem_map.1 hx
  exact ⟨u, h3 u hu, rfl⟩
set_option maxRecDepth 100000 in
set_option maxHeartbeats 6400000 in
theorem connects_any (N c m : Int) (a : Option Addr) (l : List A) (cap : Nat) (w : World) (hlen : l.length * 24 ≤ 140737488351232) (hr : Arcs w a l) :
    Calls Try.prog 6 #[.agg #[.int .i64 N, .slice a l.length cap], .int .i64 c, .int .i64 m] w fun e w' => e = .returned (.bool true) ∧ Below w.heap.size w w' := by
  have hl : l.length ≤ 9223372036854775807 := by omega
  have hb0 : Below w.heap.size w (w.alloc (.cells #[.int .i64 N, .slice a l.length cap] 24)) := (Below.refl _ _).alloc (Nat.le_refl _) _
  have hg := heap_top w (.cells #[.int .i64 N, .slice a l.length cap] 24)
  have HAR := Lib.hid hr
  clear hr
  obtain ⟨E, HE⟩ := named (gchk N c m l)
  generalize hp : w.heap.size = p at *
  go_enter Try.func6, Try.ntmps6
  go_wp2_with fail
  generalize hW : w.alloc (.cells #[.int .i64 N, .slice a l.length cap] 24) = W at *
  refine (works_any W).mono ?_
  rintro e w1 ⟨rfl, hb1⟩
  have hg1 := (hb1.block _ (lt_of_block hg)).trans hg
  have HB1 := Lib.hid (below_t4 hb0 hp hb1)
  obtain ⟨⟨g0, g1⟩, _⟩ := two_cells hg1
  clear hb1 hg hb0 hW
  go_wp2_with fail
  refine (large_any N a l.length cap w1 hl).mono ?_
  rintro e w2 ⟨rfl, hb2⟩
  have hg2 := (hb2.block _ (lt_of_block hg1)).trans hg1
  have HB2 := Lib.hid (below_t4 HB1.out hp hb2)
  clear hb2 hg1 g0 g1
  obtain ⟨⟨g0, g1⟩, _⟩ := two_cells hg2
  by_cases hla : 200 < N ∧ 500 < l.length
  · rw [decide_eq_true hla]
    go_wp2_with fail
    go_ret
    exact ⟨rfl, HB2.out⟩
  · rw [decide_eq_false hla]
    go_wp2_with fail
    refine (region_any N c m a l cap w2 hl (HAR.out.on (by rw [hp]; exact HB2.out))).mono ?_
    rintro e w3 ⟨v1, xs, rfl, hown, hx, hb3⟩
    rw [HE.out] at hx ⊢
    obtain ⟨a1, c1, rfl⟩ := own_slice hown
    have hg3 := (hb3.block _ (lt_of_block hg2)).trans hg2
    have HB3 := Lib.hid (below_t4 HB2.out hp hb3)
    clear hb3 hg2 g0 g1
    obtain ⟨⟨g0, g1⟩, _⟩ := two_cells hg3
    by_cases he : E = 0
    · have he2 : (E != 0) = false := by simp [he]
      obtain ⟨hC, ⟨hc0, hc1⟩, hm1, hm2⟩ := gchk_zero (HE.out.trans he)
      obtain ⟨hN1, hN2, hlb, hpo⟩ := chk_zero hC
      obtain ⟨n, rfl⟩ : ∃ n : Nat, N = n := ⟨N.toNat, by omega⟩
      obtain ⟨cc, rfl⟩ : ∃ cc : Nat, c = cc := ⟨c.toNat, by omega⟩
      rw [if_pos he, Int.toNat_natCast, Int.toNat_natCast] at hx
      have hn : n ≤ 1024 := by omega
      obtain ⟨r1, r2, r3⟩ := reg_sub (n := n) (c := cc) (m := m.toNat) (l := l) (by omega)
      rw [← hx] at r1 r2 r3
      have HXR : Hid (ints xs = ints (reg n l cc m.toNat)) := by show _ = _; rw [hx]
      have HXM : Hid (∀ x, x ∈ ints xs → ∃ u : Nat, u < n ∧ x = u) := by
        show ∀ x, _
        intro x hx
        unfold ints at hx
        obtain ⟨u, hu, rfl⟩ := List.mem_map.1 hx
        exact ⟨u, r2 u hu, rfl⟩
      have hIX := own_ints hown rfl
      have hxl : (ints xs).length ≤ 1024 := by rw [ints_len]; omega
      have HPO := Lib.hid hpo
      have HC := Lib.hid hC
      have HG2 := Lib.hid (gchk_all (HE.out.trans he))
      rw [show xs.length = (ints xs).length by rw [ints_len]]
      clear hown hx r1 r2 r3 hpo hC
      generalize ints xs = XI at *
      obtain ⟨i4, hi4, hz4, hs4, hb4⟩ := info_parts info4
      have hmkB : ∀ w, (Instr.makeSlice 48 (.int .i64 n) (.int .i64 n)).run Try.prog w = .ok (.slice (some ⟨w.heap.size, 0, none⟩) n n) (w.alloc (.cells ((List.range n).map (fun _ => Value.bool false)).toArray 4)) := fun w => by
        have := run_make (P := Try.prog) w 48 4 i4 (.bool false) Try.underlying48 hi4 hz4 .i64 .i64 n n (by omega) (by omega) (by rw [hb4]; omega) (by omega)
        rw [this, Int.toNat_natCast, hs4, made_bool]
      clear hi4 hz4 hs4 hb4
      clear i4
      have hpw3 : p < w3.heap.size := lt_of_block hg3
      have hgv := (Below.heap_alloc w3 (.cells ((List.range n).map (fun _ => Value.bool false)).toArray 4) p hpw3).trans hg3
      have HT0 : Hid (TbV (w3.alloc (.cells ((List.range n).map (fun _ => Value.bool false)).toArray 4)) w3.heap.size n 4 (fun _ => .bool false)) := heap_top w3 _
      have HBV : Hid (Below w3.heap.size w3 (w3.alloc (.cells ((List.range n).map (fun _ => Value.bool false)).toArray 4))) := (Below.refl _ _).alloc (Nat.le_refl _) _
      obtain ⟨ix, ox, hix⟩ := hIX.get
      have HIX := Lib.hid hix
      go_wp2_with fail
      generalize hV : w3.alloc (.cells ((List.range n).map (fun _ => Value.bool false)).toArray 4) = V at *
      generalize hb : w3.heap.size = b at *
      clear hV g0 g1 hix
      have hbV : b ≤ V.heap.size := Nat.le_of_lt HT0.out.lt
      go_loopw [50] (fun i wr => ∃ k : Nat, k ≤ XI.length ∧ i = .int .i64 k ∧ TbV wr b n 4 (marks (XI.take k)) ∧ Hid (Fr (fun j => j = b) V wr)) (fun i _ => XI.length - (intOf i).toNat)
      case atStart => exact ⟨0, Nat.zero_le _, rfl, HT0.out.congr (fun v _ => by simp [marks]), Fr.refl _ _⟩
      case round =>
        obtain ⟨k, hk, rfl, htb, HF⟩ := hrel
        by_cases hlt : k < XI.length
        · obtain ⟨rfl, hbl, hat⟩ := HIX.out (by omega)
          have hlt' : (k : Int) < XI.length := by omega
          have cx := (World.cell?_of_block (a := ⟨ix, ox + k, none⟩) (HF.out.block ix (Nat.lt_of_lt_of_le hbl (hb ▸ HBV.out.size)) (fun e => by have e : ix = b := e; omega))).trans ((HBV.out.cell (p := ⟨ix, ox + k, none⟩) hbl).trans (hat k hlt))
          have HTS := Lib.hid (take_snocI hlt)
          obtain ⟨u, hun, hu⟩ := HXM.out (XI.getD k 0) (by simp [List.getD, List.getElem?_eq_getElem hlt])
          rw [hu] at cx HTS
          have hun' : (u : Int) < n := by omega
          have d1 := htb.cell hun
          have d2 := htb.free u
          clear hat hu
          go_wp2_with fail
          refine ⟨⟨k + 1, by omega, by simp, (htb.set u (.bool true)).congr (fun v _ => ?_), HF.out.setCell ⟨b, u, none⟩ _ rfl⟩, by simp [intOf]; omega⟩
          rw [HTS.out]; exact marks_snoc _ u v
        · obtain rfl : k = XI.length := by omega
          have hlt' : ¬ (XI.length : Int) < XI.length := by omega
          rw [List.take_length] at htb
          have HB4 : Hid (Below p w wr) := (HB3.out.trans (HBV.out.mono (by omega))).trans (HF.out.below (B := p) (by omega) (fun k e => by have e : k = b := e; omega))
          have hg4 := (HF.out.block p (lt_of_block hgv) (fun e => by have e : p = b := e; omega)).trans hgv
          have HBO := Lib.hid (mkq_bools htb)
          rw [HXR.out] at HBO
          have HH := Lib.hid (reg_hits (n := n) (c := cc) (m := m.toNat) (l := l) (by omega) (by omega))
          have HLB := Lib.hid (reg_labels (n := n) (c := cc) (m := m.toNat) (l := l) HC.out (by omega) (by omega))
          have HIC := Lib.hid (T3.chk_ind (n := n) (l := l.map toT) (q := T3.mk (mkq n (ints (reg n l cc m.toNat)))) (by rw [chkE_T]; exact HC.out) HH.out)
          have HQL := Lib.hid (mkq_len n (ints (reg n l cc m.toNat)))
          have HIN := Lib.hid (T3.induced_ok n a (l.map toT) cap (some ⟨b, 0, none⟩) (mkq n (ints (reg n l cc m.toNat))) n wr (by rw [chkE_T]; exact HC.out) HQL.out HH.out (arcs_T (HAR.out.on (by rw [hp]; exact HB4.out))) HBO.out)
          rw [List.length_map] at HIN
          have HHL : Hid ((T3.hits (T3.mk (mkq n (ints (reg n l cc m.toNat)))) n).length ≤ 1024) := Nat.le_trans (T3.hits_len _ _) hn
          have HIA : Hid ((T3.indA (T3.mk (mkq n (ints (reg n l cc m.toNat)))) (l.map toT)).length ≤ 8192) := by
            show _ ≤ _
            unfold T3.indA
            rw [List.length_map]
            refine Nat.le_trans (List.length_filter_le _ _) ?_
            rw [List.length_map]; exact hlb
          clear htb HF HBO HXR HXM HIX hIX hk hlt
          generalize hHN : (T3.hits (T3.mk (mkq n (ints (reg n l cc m.toNat)))) n).length = hn2 at *
          generalize T3.indA (T3.mk (mkq n (ints (reg n l cc m.toNat)))) (l.map toT) = IA at *
          generalize T3.hits (T3.mk (mkq n (ints (reg n l cc m.toNat)))) n = HT at *
          generalize T3.indI (T3.mk (mkq n (ints (reg n l cc m.toNat)))) (l.map toT) = II at *
          obtain ⟨⟨g0, g1⟩, _⟩ := two_cells hg4
          go_wp2_with fail
          refine HIN.out.mono ?_
          rintro e w5 ⟨ah, ch, av, cv, ai, ci, rfl, hoA, _, _, _, hb5⟩
          have HB5 := Lib.hid (below_t4 HB4.out hp hb5)
          have hg5 := (hb5.block _ (lt_of_block hg4)).trans hg4
          have HOA := Lib.hid hoA
          have HAA := Lib.hid ((T3.OwnA.arcs hoA).on ((Below.refl w5.heap.size w5).alloc (Nat.le_refl _) (.cells #[.int .i64 (hn2 : Int), .slice ah IA.length ch] 24)))
          have hgv5 := (Below.heap_alloc w5 (.cells #[.int .i64 (hn2 : Int), .slice ah IA.length ch] 24) p (lt_of_block hg5)).trans hg5
          have HB5b : Hid (Below p w (w5.alloc (.cells #[.int .i64 (hn2 : Int), .slice ah IA.length ch] 24))) := HB5.out.alloc (by have := HB5.out.size; omega) _
          clear hoA hb5 HIN g0 g1
          go_wp2_with fail
          generalize hV5 : w5.alloc (.cells #[.int .i64 (hn2 : Int), .slice ah IA.length ch] 24) = V5 at *
          refine (T3.parts_any (hn2 : Int) ah IA ch V5 (by have := HIA.out; omega) HAA.out).mono ?_
          rintro e w6 ⟨a6, c6, rfl, hown6, hb6⟩
          rw [HIC.out]
          have HB6 := Lib.hid (below_t4 HB5b.out hp hb6)
          have hg6 := (hb6.block _ (lt_of_block hgv5)).trans hgv5
          have HI6 := Lib.hid (ints_own hown6)
          have hPL : (T3.partsL (hn2 : Int) IA).length ≤ 1024 := Nat.le_trans parts_len HHL.out
          clear hown6 hb6 hg5 hgv5 HAA HOA hV5
          generalize T3.partsL (hn2 : Int) IA = PL at *
          obtain ⟨⟨g0, g1⟩, _⟩ := two_cells hg6
          obtain ⟨iz, oz, hiz⟩ := HI6.out.get
          have HIZ := Lib.hid hiz
          clear hiz
          go_wp2_with fail
          go_loopw [79] (fun i wr => ∃ k : Nat, k ≤ PL.length ∧ i = .int .i64 k ∧ wr = w6) (fun i _ => PL.length - (intOf i).toNat)
          case atStart => exact ⟨0, Nat.zero_le _, rfl, rfl⟩
          case round =>
            obtain ⟨k, hk, rfl, rfl⟩ := hrel
            by_cases hlt : k < PL.length
            · obtain ⟨rfl, hbl, hat⟩ := HIZ.out (by omega)
              have hlt2 : (k : Int) < PL.length := by omega
              have cz := hat k hlt
              rw [HLB.out (PL.getD k 0) (by simp [List.getD, List.getElem?_eq_getElem hlt])] at cz
              clear hat
              go_wp2_with fail
              exact ⟨⟨k + 1, by omega, by simp, trivial⟩, by simp [intOf]; omega⟩
            · obtain rfl : k = PL.length := by omega
              have hlt2 : ¬ (PL.length : Int) < PL.length := by omega
              have hwn : reg n l cc (1024 : Int).toNat = whole (edl l) (2 * l.length) n (fun _ => false) cc := reg_whole (by omega) hn
              obtain ⟨q1, q2, q3⟩ := reg_sub (n := n) (c := cc) (m := (1024 : Int).toNat) (l := l) (by omega)
              have hrn := ring_none HPO.out (show cc < n by omega)
              rw [hwn] at q1 q2 q3
              go_wp2_with fail
              refine (region_any n cc 1024 a l cap wr hl (HAR.out.on (by rw [hp]; exact HB6.out))).mono ?_
              rintro e w7 ⟨v7, xs7, rfl, hown7, hx7, hb7⟩
              rw [HG2.out] at hx7 ⊢
              rw [if_pos rfl, Int.toNat_natCast, Int.toNat_natCast, hwn] at hx7
              rw [← hx7] at q1 q2 q3 hrn
              obtain ⟨a7, c7, rfl⟩ := own_slice hown7
              have HB7 := Lib.hid (below_t4 HB6.out hp hb7)
              have hg7 := (hb7.block _ (lt_of_block hg6)).trans hg6
              have hmk7 : mkE n (ints xs7) = 0 := mkE_ok hn q1 q2
              have hrE : ringE n l (ints xs7) = 0 := by unfold ringE; rw [if_neg (by rw [HC.out]; simp), hmk7]
              have HI7 := Lib.hid (own_ints hown7 rfl)
              have h7l : (ints xs7).length ≤ 1024 := by rw [ints_len]; omega
              rw [show xs7.length = (ints xs7).length by rw [ints_len]]
              clear hown7 hx7 hb7 hwn q1 q2 q3 hmk7 g0 g1 hg6
              generalize ints xs7 = X7 at *
              obtain ⟨⟨g0, g1⟩, _⟩ := two_cells hg7
              go_wp2_with fail
              refine (ring_any n a a7 l X7 cap c7 w7 hl (HAR.out.on (by rw [hp]; exact HB7.out)) (by omega) HI7.out).mono ?_
              rintro e w8 ⟨v8, xs8, rfl, hown8, hx8, hb8⟩
              rw [hrE] at hx8 ⊢
              rw [if_pos rfl, Int.toNat_natCast, hrn] at hx8
              subst hx8
              obtain ⟨a8, c8, rfl⟩ := own_slice hown8
              have HB8 := Lib.hid (below_t4 HB7.out hp hb8)
              have hg8 := (hb8.block _ (lt_of_block hg7)).trans hg7
              clear hown8 hb8 g0 g1 hg7 hrE hrn
              obtain ⟨⟨g0, g1⟩, _⟩ := two_cells hg8
              go_wp2_with fail
              refine (order_any n a l cap w8 hl (HAR.out.on (by rw [hp]; exact HB8.out))).mono ?_
              rintro e w9 ⟨v9, xs9, rfl, hown9, hx9, hb9⟩
              rw [HC.out] at hx9 ⊢
              rw [if_pos rfl, Int.toNat_natCast] at hx9
              obtain ⟨o1, o2, o3⟩ := ord_ok HPO.out
              rw [← hx9] at o1 o2 o3
              obtain ⟨a9, c9, rfl⟩ := own_slice hown9
              have HB9 := Lib.hid (below_t4 HB8.out hp hb9)
              have hg9 := (hb9.block _ (lt_of_block hg8)).trans hg8
              have HI9 := Lib.hid (own_ints hown9 rfl)
              rw [show xs9.length = (ints xs9).length by rw [ints_len], o1]
              have HO1 := Lib.hid o1
              have HO2 := Lib.hid o2
              have HO3 := Lib.hid o3
              clear hown9 hx9 hb9 g0 g1 hg8 o1 o2 o3
              generalize ints xs9 = X9 at *
              obtain ⟨⟨g0, g1⟩, _⟩ := two_cells hg9
              have hnn : ((n : Int) != (n : Int)) = false := by simp
              have hpw9 : p < w9.heap.size := lt_of_block hg9
              have hgv9 := (Below.heap_alloc w9 (.cells ((List.range n).map (fun _ => Value.bool false)).toArray 4) p hpw9).trans hg9
              have HT9 : Hid (TbV (w9.alloc (.cells ((List.range n).map (fun _ => Value.bool false)).toArray 4)) w9.heap.size n 4 (fun _ => .bool false)) := heap_top w9 _
              have HBV9 : Hid (Below w9.heap.size w9 (w9.alloc (.cells ((List.range n).map (fun _ => Value.bool false)).toArray 4))) := (Below.refl _ _).alloc (Nat.le_refl _) _
              obtain ⟨iy, oy, hiy⟩ := HI9.out.get
              have HIY := Lib.hid hiy
              clear hiy
              go_wp2_with fail
              generalize hV9 : w9.alloc (.cells ((List.range n).map (fun _ => Value.bool false)).toArray 4) = V9 at *
              generalize hb9 : w9.heap.size = b9 at *
              clear hV9 g0 g1
              have hb9V : b9 ≤ V9.heap.size := Nat.le_of_lt HT9.out.lt
              go_loopw [130] (fun i wr => ∃ k : Nat, k ≤ n ∧ i = .int .i64 k ∧ TbV wr b9 n 4 (marks (X9.take k)) ∧ Hid (Fr (fun j => j = b9) V9 wr)) (fun i _ => n - (intOf i).toNat)
              case atStart => exact ⟨0, Nat.zero_le _, rfl, HT9.out.congr (fun v _ => by simp [marks]), Fr.refl _ _⟩
              case round =>
                obtain ⟨k, hk, rfl, htb, HF⟩ := hrel
                have hgr := (HF.out.block p (lt_of_block hgv9) (fun e => by have e : p = b9 := e; omega)).trans hgv9
                obtain ⟨⟨g0, g1⟩, _⟩ := two_cells hgr
                by_cases hlt : k < n
                · have hlx : k < X9.length := by rw [HO1.out]; exact hlt
                  obtain ⟨rfl, hbl, hat⟩ := HIY.out (by omega)
                  have hlt' : (k : Int) < n := by omega
                  have cx := (World.cell?_of_block (a := ⟨iy, oy + k, none⟩) (HF.out.block iy (Nat.lt_of_lt_of_le hbl (hb9 ▸ HBV9.out.size)) (fun e => by have e : iy = b9 := e; omega))).trans ((HBV9.out.cell (p := ⟨iy, oy + k, none⟩) hbl).trans (hat k hlx))
                  have HTS := Lib.hid (take_snocI hlx)
                  obtain ⟨u, hun, hu⟩ := HO3.out (X9.getD k 0) (by simp [List.getD, List.getElem?_eq_getElem hlx])
                  have hnd : ¬ (u : Int) ∈ X9.take k := by
                    have h2 : (X9.take (k + 1)).Nodup := HO2.out.sublist (List.take_sublist _ _)
                    rw [HTS.out, nodup_snoc, hu] at h2
                    exact h2.2
                  rw [hu] at cx HTS
                  have hun' : (u : Int) < n := by omega
                  have hun2 : ¬ (n : Int) ≤ u := by omega
                  have d1 := htb.cell hun
                  have d2 := htb.free u
                  unfold marks at d1
                  rw [decide_eq_false hnd] at d1
                  clear hat hu
                  go_wp2_with fail
                  refine ⟨⟨k + 1, by omega, by simp, (htb.set u (.bool true)).congr (fun v _ => ?_), HF.out.setCell ⟨b9, u, none⟩ _ rfl⟩, by simp [intOf]; omega⟩
                  rw [HTS.out]; exact marks_snoc _ u v
                · obtain rfl : k = n := by omega
                  have hlt' : ¬ (k : Int) < k := by omega
                  have HBE : Hid (Below p w wr) := (HB9.out.trans (HBV9.out.mono (by omega))).trans (HF.out.below (B := p) (by omega) (fun k e => by have e : k = b9 := e; omega))
                  go_wp2_with fail
                  go_ret
                  exact ⟨rfl, HBE.out⟩
    · have he2 : (E != 0) = true := by simp [he]
      rw [if_neg he] at hx
      subst hx
      go_wp2_with fail
      go_ret
      exact ⟨rfl, HB3.out⟩
end Go.Proofs.Ytgkpmcpkobphpaa
