/-
  GrowRing holds.
-/
import Derived.Test.YtgkpmcpkobphpaaTBr
import Derived.Test.YtgkpmcpkobphpaaWorks
import Derived.Test.YtgkpmcpkobphpaaLarge
import Derived.Deep.DeepCutAuto
namespace Go.Proofs.Ytgkpmcpkobphpaa
open Go.RowKit
theorem below_t2 {p : Nat} {w w1 w2 : World} (h : Below p w w1) (hp : w.heap.size = p) (h2 : Below w1.heap.size w1 w2) : Below p w w2 := h.trans (h2.mono (hp ▸ h.size))
/-- A vertex outside that has a neighbour among the members is one of the ring, and no other is. -/
theorem ring_has {n v : Nat} {l : List A} {XI zs : List Int} (hv : v < n) (hall : ∀ x ∈ l, (0 ≤ x.f ∧ x.f < n) ∧ (0 ≤ x.t ∧ x.t < n)) (hz : ∀ x, x ∈ zs ↔ ∃ u : Nat, u < n ∧ x = u ∧ nr l v u = true ∧ u ≠ v) (hx : ¬ (v : Int) ∈ XI) : zs.any (fun x => decide (x ∈ XI)) = decide ((v : Int) ∈ ints (rgk l XI n)) := by
  rw [Bool.eq_iff_iff, decide_eq_true_eq, mem_ints, List.any_eq_true]
  unfold rgk
  rw [List.mem_filter, List.mem_range]
  have hb : (bes l XI v && !decide ((v : Int) ∈ XI)) = bes l XI v := by simp [hx]
  rw [hb]
  unfold bes
  rw [List.any_eq_true]
  constructor
  · rintro ⟨x, h1, h2⟩
    obtain ⟨u, hu, rfl, hn, hne⟩ := (hz _).1 h1
    have h2 : (u : Int) ∈ XI := by simpa using h2
    unfold nr at hn
    obtain ⟨y, hy, hn⟩ := List.any_eq_true.1 hn
    refine ⟨hv, y, hy, ?_⟩
    simp only [Bool.or_eq_true, Bool.and_eq_true, beq_iff_eq] at hn
    rcases hn with ⟨e1, e2⟩ | ⟨e1, e2⟩
    · rw [e1, e2]; simp [hx, h2]
    · rw [e1, e2]; simp [hx, h2]
  · rintro ⟨_, y, hy, h⟩
    simp only [Bool.or_eq_true, Bool.and_eq_true, beq_iff_eq] at h
    obtain ⟨⟨f0, f1⟩, t0, t1⟩ := hall y hy
    obtain ⟨hd, e | e⟩ := h
    · have ht : y.t ∈ XI := by rw [e] at hd; simpa [hx] using hd
      obtain ⟨u, hu⟩ : ∃ u : Nat, y.t = u := ⟨y.t.toNat, by omega⟩
      rw [hu] at ht
      refine ⟨u, (hz _).2 ⟨u, by omega, rfl, ?_, fun h => hx (h ▸ ht)⟩, by simpa using ht⟩
      unfold nr
      rw [List.any_eq_true]
      exact ⟨y, hy, by rw [e, hu]; simp⟩
    · have ht : y.f ∈ XI := by rw [e] at hd; simpa [hx] using hd
      obtain ⟨u, hu⟩ : ∃ u : Nat, y.f = u := ⟨y.f.toNat, by omega⟩
      rw [hu] at ht
      refine ⟨u, (hz _).2 ⟨u, by omega, rfl, ?_, fun h => hx (h ▸ ht)⟩, by simpa using ht⟩
      unfold nr
      rw [List.any_eq_true]
      exact ⟨y, hy, by rw [e, hu]; simp⟩
theorem rgk_ok (n : Nat) (l : List A) (XI : List Int) : (ints (rgk l XI n)).Nodup ∧ ∀ x, x ∈ ints (rgk l XI n) → ∃ u : Nat, u < n ∧ x = u ∧ ¬ (u : Int) ∈ XI := by
  refine ⟨nodup_ints (List.Pairwise.filter _ List.nodup_range), fun x hx => ?_⟩
  unfold ints at hx
  obtain ⟨u, hu, rfl⟩ := List.mem_map.1 hx
  unfold rgk at hu
  rw [List.mem_filter, List.mem_range] at hu
  refine ⟨u, hu.1, rfl, ?_⟩
  have := hu.2
  simp at this
  exact this.2
theorem any_take {zs : List Int} {f : Int → Bool} {k : Nat} (h : k < zs.length) : (zs.take (k + 1)).any f = ((zs.take k).any f || f (zs.getD k 0)) := by
  rw [take_snocI h, List.any_append]; simp
/-- Two tables made one behind the other. -/
theorem two_made (w : World) (n : Nat) : TbV ((w.alloc (.cells ((List.range n).map (fun _ => Value.bool false)).toArray 4)).alloc (.cells ((List.range n).map (fun _ => Value.bool false)).toArray 4)).drew w.heap.size n 4 (fun _ => .bool false) ∧ TbV ((w.alloc (.cells ((List.range n).map (fun _ => Value.bool false)).toArray 4)).alloc (.cells ((List.range n).map (fun _ => Value.bool false)).toArray 4)).drew (w.heap.size + 1) n 4 (fun _ => .bool false) ∧ Below w.heap.size w ((w.alloc (.cells ((List.range n).map (fun _ => Value.bool false)).toArray 4)).alloc (.cells ((List.range n).map (fun _ => Value.bool false)).toArray 4)).drew := by
  refine ⟨(Below.heap_alloc _ _ _ (by simp)).trans (heap_top w _), ?_, ((Below.refl _ w).alloc (Nat.le_refl _) _ |>.alloc (by simp) _).drew⟩
  have := heap_top (w.alloc (.cells ((List.range n).map (fun _ => Value.bool false)).toArray 4)) (.cells ((List.range n).map (fun _ => Value.bool false)).toArray 4)
  rw [World.size_alloc] at this
  exact this
set_option maxRecDepth 100000 in
set_option maxHeartbeats 3200000 in
theorem lawRing_any (N c m : Int) (a : Option Addr) (l : List A) (cap : Nat) (w : World) (hlen : l.length * 24 ≤ 140737488351232) (hr : Arcs w a l) :
    Calls Try.prog 7 #[.agg #[.int .i64 N, .slice a l.length cap], .int .i64 c, .int .i64 m] w fun e w' => e = .returned (.bool true) ∧ Below w.heap.size w w' := by
  have hl : l.length ≤ 9223372036854775807 := by omega
  have hb0 : Below w.heap.size w (w.alloc (.cells #[.int .i64 N, .slice a l.length cap] 24)) := (Below.refl _ _).alloc (Nat.le_refl _) _
  have hg := heap_top w (.cells #[.int .i64 N, .slice a l.length cap] 24)
  have HAR := Lib.hid hr
  clear hr
  obtain ⟨E, HE⟩ := named (gchk N c m l)
  generalize hp : w.heap.size = p at *
  go_enter Try.func7, Try.ntmps7
  go_wp2_with fail
  generalize hW : w.alloc (.cells #[.int .i64 N, .slice a l.length cap] 24) = W at *
  refine (works_any W).mono ?_
  rintro e w1 ⟨rfl, hb1⟩
  have hg1 := (hb1.block _ (lt_of_block hg)).trans hg
  have HB1 := Lib.hid (below_t2 hb0 hp hb1)
  obtain ⟨⟨g0, g1⟩, _⟩ := two_cells hg1
  clear hb1 hg hb0 hW
  go_wp2_with fail
  refine (large_any N a l.length cap w1 hl).mono ?_
  rintro e w2 ⟨rfl, hb2⟩
  have hg2 := (hb2.block _ (lt_of_block hg1)).trans hg1
  have HB2 := Lib.hid (below_t2 HB1.out hp hb2)
  clear hb2 hg1 g0 g1
  obtain ⟨⟨g0, g1⟩, _⟩ := two_cells hg2
  by_cases hla : 200 < N ∧ 500 < l.length
  · rw [decide_eq_true hla]
    go_wp2_with fail
    go_ret
    exact ⟨rfl, HB2.out⟩
  · rw [decide_eq_false hla]
    go_wp2_with fail
    refine (region_any N c m a l cap w2 hl (HAR.out.on (by rw [hp]; exact HB2.out))).mono ?_
    rintro e w3 ⟨v1, xs, rfl, hown, hx, hb3⟩
    rw [HE.out] at hx ⊢
    obtain ⟨a1, c1, rfl⟩ := own_slice hown
    have hg3 := (hb3.block _ (lt_of_block hg2)).trans hg2
    have HB3 := Lib.hid (below_t2 HB2.out hp hb3)
    clear hb3 hg2 g0 g1
    obtain ⟨⟨g0, g1⟩, _⟩ := two_cells hg3
    by_cases he : E = 0
    · have he2 : (E != 0) = false := by simp [he]
      obtain ⟨hC, ⟨hc0, hc1⟩, hm1, hm2⟩ := gchk_zero (HE.out.trans he)
      obtain ⟨hN1, hN2, hlb, hpo⟩ := chk_zero hC
      obtain ⟨n, rfl⟩ : ∃ n : Nat, N = n := ⟨N.toNat, by omega⟩
      obtain ⟨cc, rfl⟩ : ∃ cc : Nat, c = cc := ⟨c.toNat, by omega⟩
      rw [if_pos he, Int.toNat_natCast, Int.toNat_natCast] at hx
      have hn : n ≤ 1024 := by omega
      obtain ⟨r1, r2, r3⟩ := reg_sub (n := n) (c := cc) (m := m.toNat) (l := l) (by omega)
      rw [← hx] at r1 r2 r3
      have hmk : mkE n (ints xs) = 0 := mkE_ok hn r1 r2
      have hrE : ringE n l (ints xs) = 0 := by unfold ringE; rw [if_neg (by rw [hC]; simp), hmk]
      have HXM : Hid (∀ x, x ∈ ints xs → ∃ u : Nat, u < n ∧ x = u) := by
        show ∀ x, _
        intro x hx
        unfold ints at hx
        obtain ⟨u, hu, rfl⟩ := List.mem_map.1 hx
        exact ⟨u, r2 u hu, rfl⟩
      have hIX := own_ints hown rfl
      have hxl : (ints xs).length ≤ 1024 := by rw [ints_len]; omega
      have HPO := Lib.hid hpo
      have HC := Lib.hid hC
      have HE0 := Lib.hid he
      rw [show xs.length = (ints xs).length by rw [ints_len]]
      clear hown hx hmk r1 r2 r3 hpo hC
      generalize ints xs = XI at *
      go_wp2_with fail
      refine (ring_any n a a1 l XI cap c1 w3 hl (HAR.out.on (by rw [hp]; exact HB3.out)) (by omega) hIX).mono ?_
      rintro e w4 ⟨v2, ys, rfl, hown4, hy, hb4⟩
      rw [hrE] at hy ⊢
      rw [if_pos rfl, Int.toNat_natCast] at hy
      obtain ⟨a2, c2, rfl⟩ := own_slice hown4
      have hg4 := (hb4.block _ (lt_of_block hg3)).trans hg3
      have HB4 := Lib.hid (below_t2 HB3.out hp hb4)
      have HIX4 := Lib.hid (hIX.on hb4)
      have HIY4 := Lib.hid (own_ints hown4 rfl)
      have hyl : (ints ys).length ≤ 1024 := by rw [ints_len, hy]; exact Nat.le_trans (rgk_len _ _ _) hn
      obtain ⟨HY1, HY2⟩ := rgk_ok n l XI
      rw [← hy] at HY1 HY2
      have HYD := Lib.hid HY1
      have HYM := Lib.hid HY2
      have HYE : Hid (ints ys = ints (rgk l XI n)) := by show _ = _; rw [hy]
      rw [show ys.length = (ints ys).length by rw [ints_len]]
      clear hb4 hg3 g0 g1 hown4 HY1 HY2 hrE hIX hy
      generalize ints ys = YI at *
      obtain ⟨⟨g0, g1⟩, _⟩ := two_cells hg4
      obtain ⟨i4, hi4, hz4, hs4, hb4⟩ := info_parts info4
      have hmkB : ∀ w, (Instr.makeSlice 48 (.int .i64 n) (.int .i64 n)).run Try.prog w = .ok (.slice (some ⟨w.heap.size, 0, none⟩) n n) (w.alloc (.cells ((List.range n).map (fun _ => Value.bool false)).toArray 4)) := fun w => by
        have := run_make (P := Try.prog) w 48 4 i4 (.bool false) Try.underlying48 hi4 hz4 .i64 .i64 n n (by omega) (by omega) (by rw [hb4]; omega) (by omega)
        rw [this, Int.toNat_natCast, hs4, made_bool]
      clear hi4 hz4 hs4 hb4
      clear i4
      have hpw4 : p < w4.heap.size := lt_of_block hg4
      have hne4 : p ≠ w4.heap.size := by omega
      have hne4' := hne4.symm
      go_wp2_with fail
      go_cut [11, 12] (fun s1 s2 wc => ∃ b1 b2, s1 = .slice (some ⟨b1, 0, none⟩) n n ∧ s2 = .slice (some ⟨b2, 0, none⟩) n n ∧ TbV wc b1 n 4 (fun _ => .bool false) ∧ TbV wc b2 n 4 (fun _ => .bool false) ∧ b1 ≠ b2 ∧ w4.heap.size ≤ b1 ∧ w4.heap.size ≤ b2 ∧ Below w4.heap.size w4 wc)
      case first =>
        go_region
        all_goals
          go_wp2_with fail
          go_meet
          case rel =>
            obtain ⟨q1, q2, q3⟩ := two_made w4 n
            first
              | exact ⟨w4.heap.size, w4.heap.size + 1, rfl, rfl, q1, q2, by omega, Nat.le_refl _, by omega, q3⟩
              | exact ⟨w4.heap.size + 1, w4.heap.size, rfl, rfl, q2, q1, by omega, by omega, Nat.le_refl _, q3⟩
      case rest =>
        obtain ⟨b1, b2, hs1, hs2, ht1, ht2, hb12, hl1, hl2, hbc⟩ := hcut
        subst hs1 hs2
        have hgc := (hbc.block _ hpw4).trans hg4
        have HBC : Hid (Below p w wc) := below_t2 HB4.out hp hbc
        have HIXc := Lib.hid (HIX4.out.on hbc)
        have HIYc := Lib.hid (HIY4.out.on hbc)
        have hl1' : b1 < wc.heap.size := ht1.lt
        have hl2' : b2 < wc.heap.size := ht2.lt
        have hp1 : p ≠ b1 := by omega
        have hp2 : p ≠ b2 := by omega
        have HIXG := Lib.hid HIXc.out.get
        obtain ⟨ix, ox, hix⟩ := HIXG.out
        have HIX := Lib.hid hix
        obtain ⟨iy, oy, hiy⟩ := HIYc.out.get
        have HIY := Lib.hid hiy
        have HXB : Hid (0 < XI.length → ix < w4.heap.size) := fun h => by
          obtain ⟨e, _, _⟩ := hix h
          rcases HIX4.out with h0 | ⟨b, o, e2, hb, _⟩
          · rw [h0] at h; cases h
          · rw [e2] at e; injection e with e; injection e with e; omega
        have HYB : Hid (0 < YI.length → iy < w4.heap.size) := fun h => by
          obtain ⟨e, _, _⟩ := hiy h
          rcases HIY4.out with h0 | ⟨b, o, e2, hb, _⟩
          · rw [h0] at h; cases h
          · rw [e2] at e; injection e with e; injection e with e; omega
        have HT1 := Lib.hid ht1
        have HT2 := Lib.hid ht2
        clear hix hiy hbc g0 g1 hmkB HIXG ht1 ht2
        obtain ⟨⟨g0, g1⟩, _⟩ := two_cells hgc
        go_wp2_with fail
        go_loopw [53] (fun i wr => ∃ k : Nat, k ≤ XI.length ∧ i = .int .i64 k ∧ TbV wr b1 n 4 (marks (XI.take k)) ∧ Hid (Fr (fun j => j = b1) wc wr)) (fun i _ => XI.length - (intOf i).toNat)
        case atStart => exact ⟨0, Nat.zero_le _, rfl, HT1.out.congr (fun v _ => by simp [marks]), Fr.refl _ _⟩
        case round =>
          obtain ⟨k, hk, rfl, htb, HF⟩ := hrel
          by_cases hlt : k < XI.length
          · obtain ⟨rfl, hbl, hat⟩ := HIX.out (by omega)
            have hix4 := HXB.out (by omega)
            have hlt' : (k : Int) < XI.length := by omega
            have cx := (World.cell?_of_block (a := ⟨ix, ox + k, none⟩) (HF.out.block ix hbl (fun e => by have e : ix = b1 := e; omega))).trans (hat k hlt)
            have HTS := Lib.hid (take_snocI hlt)
            obtain ⟨u, hun, hu⟩ := HXM.out (XI.getD k 0) (by simp [List.getD, List.getElem?_eq_getElem hlt])
            rw [hu] at cx HTS
            have hun' : (u : Int) < n := by omega
            have d1 := htb.cell hun
            have d2 := htb.free u
            clear hat hu
            go_wp2_with fail
            refine ⟨⟨k + 1, by omega, by simp, (htb.set u (.bool true)).congr (fun v _ => ?_), HF.out.setCell ⟨b1, u, none⟩ _ rfl⟩, by simp [intOf]; omega⟩
            rw [HTS.out]; exact marks_snoc _ u v
          · obtain rfl : k = XI.length := by omega
            have hlt' : ¬ (XI.length : Int) < XI.length := by omega
            rw [List.take_length] at htb
            have HTX := Lib.hid htb
            have HT2b := Lib.hid (HT2.out.fr HF.out (fun e => by have e : b2 = b1 := e; omega))
            have hgr := (HF.out.block p (lt_of_block hgc) (fun e => hp1 e)).trans hgc
            have HFX := HF
            clear htb hlt hlt' HF hk g0 g1
            obtain ⟨⟨g0, g1⟩, _⟩ := two_cells hgr
            go_wp2_with fail
            generalize wr = w5 at *
            go_loopw [63] (fun i wr => ∃ k : Nat, k ≤ YI.length ∧ i = .int .i64 k ∧ TbV wr b2 n 4 (marks (YI.take k)) ∧ Hid (Fr (fun j => j = b2) w5 wr)) (fun i _ => YI.length - (intOf i).toNat)
            case atStart => exact ⟨0, Nat.zero_le _, rfl, HT2b.out.congr (fun v _ => by simp [marks]), Fr.refl _ _⟩
            case round =>
              obtain ⟨k, hk, rfl, htb, HF⟩ := hrel
              have htx := HTX.out.fr HF.out (fun e => by have e : b1 = b2 := e; omega)
              have hg6 := (HF.out.block p (lt_of_block hgr) (fun e => hp2 e)).trans hgr
              clear g0 g1
              obtain ⟨⟨g0, g1⟩, _⟩ := two_cells hg6
              by_cases hlt : k < YI.length
              · obtain ⟨rfl, hbl, hat⟩ := HIY.out (by omega)
                have hiy4 := HYB.out (by omega)
                have hlt' : (k : Int) < YI.length := by omega
                have cx0 := (World.cell?_of_block (a := ⟨iy, oy + k, none⟩) (HFX.out.block iy hbl (fun e => by have e : iy = b1 := e; omega))).trans (hat k hlt)
                have cx := (World.cell?_of_block (a := ⟨iy, oy + k, none⟩) (HF.out.block iy (Nat.lt_of_lt_of_le hbl HFX.out.size) (fun e => by have e : iy = b2 := e; omega))).trans cx0
                have HTS := Lib.hid (take_snocI hlt)
                obtain ⟨u, hun, hu, hux⟩ := HYM.out (YI.getD k 0) (by simp [List.getD, List.getElem?_eq_getElem hlt])
                have hnd : ¬ (u : Int) ∈ YI.take k := by
                  have h2 : (YI.take (k + 1)).Nodup := HYD.out.sublist (List.take_sublist _ _)
                  rw [HTS.out, nodup_snoc, hu] at h2
                  exact h2.2
                rw [hu] at cx HTS
                have hun' : (u : Int) < n := by omega
                have hun2 : ¬ (n : Int) ≤ u := by omega
                have d1 := htb.cell hun
                have d2 := htb.free u
                have d3 := htx.cell hun
                unfold marks at d1 d3
                rw [decide_eq_false hnd] at d1
                rw [decide_eq_false hux] at d3
                clear hat hu cx0
                go_wp2_with fail
                refine ⟨⟨k + 1, by omega, by simp, (htb.set u (.bool true)).congr (fun v _ => ?_), HF.out.setCell ⟨b2, u, none⟩ _ rfl⟩, by simp [intOf]; omega⟩
                rw [HTS.out]; exact marks_snoc _ u v
              · obtain rfl : k = YI.length := by omega
                have hlt' : ¬ (YI.length : Int) < YI.length := by omega
                rw [List.take_length] at htb
                have HTY := Lib.hid htb
                have HTX6 := Lib.hid htx
                have HB6 : Hid (Below p w wr) := (HBC.out.trans (HFX.out.below (B := p) (hp ▸ HBC.out.size) (fun k e => by have e : k = b1 := e; omega))).trans (HF.out.below (B := p) (Nat.le_trans (hp ▸ HBC.out.size) HFX.out.size) (fun k e => by have e : k = b2 := e; omega))
                clear htb htx hlt hlt' HF hk
                go_wp2_with fail
                generalize wr = w6 at *
                go_loopw [93] (fun i wr => ∃ k : Nat, k ≤ n ∧ i = .int .i64 k ∧ Hid (Below w6.heap.size w6 wr)) (fun i _ => n - (intOf i).toNat)
                case atStart => exact ⟨0, Nat.zero_le _, rfl, Below.refl _ _⟩
                case round =>
                  obtain ⟨k, hk, rfl, HF⟩ := hrel
                  have hg7 := (HF.out.block p (lt_of_block hg6)).trans hg6
                  have HB7 := Lib.hid (below_t2 HB6.out hp HF.out)
                  clear g0 g1
                  obtain ⟨⟨g0, g1⟩, _⟩ := two_cells hg7
                  by_cases hlt : k < n
                  · have hlt' : (k : Int) < n := by omega
                    go_wp2_with fail
                    refine (neigh_S n k a l cap wr HC.out hlt (HAR.out.on (by rw [hp]; exact HB7.out))).mono ?_
                    rintro e w8 ⟨a3, c3, zs, rfl, hiz, hzl, hz, hb8⟩
                    have HB8 : Hid (Below w6.heap.size w6 w8) := HF.out.trans (hb8.mono HF.out.size)
                    have tx := HTX6.out.same (HB8.out.block b1 HTX6.out.lt)
                    have ty := HTY.out.same (HB8.out.block b2 HTY.out.lt)
                    obtain ⟨iz, oz, hiz⟩ := hiz.get
                    have HIZ := Lib.hid hiz
                    have HZ := Lib.hid hz
                    have dx := tx.cell hlt
                    have dy := ty.cell hlt
                    unfold marks at dx dy
                    have HTXX := Lib.hid tx
                    clear hiz hz hb8 tx ty g0 g1 hg7
                    go_wp2_with fail
                    go_loopw [20, 104] (fun h i wr => ∃ j : Nat, j ≤ zs.length ∧ i = .int .i64 j ∧ h = .bool ((zs.take j).any (fun x => decide (x ∈ XI))) ∧ wr = w8) (fun _ i _ => zs.length - (intOf i).toNat)
                    case atStart => exact ⟨0, Nat.zero_le _, rfl, by simp, rfl⟩
                    case round =>
                      obtain ⟨j, hj, rfl, rfl, rfl⟩ := hrel
                      by_cases hlj : j < zs.length
                      · obtain ⟨rfl, hbl, hat⟩ := HIZ.out (by omega)
                        have hlj' : (j : Int) < zs.length := by omega
                        have cz := hat j hlj
                        have HAT := Lib.hid (any_take (f := fun x => decide (x ∈ XI)) hlj)
                        obtain ⟨u, hun, hu, _, _⟩ := (HZ.out (zs.getD j 0)).1 (by simp [List.getD, List.getElem?_eq_getElem hlj])
                        rw [hu] at cz HAT
                        have hun' : (u : Int) < n := by omega
                        have du := HTXX.out.cell hun
                        unfold marks at du
                        clear hat hu
                        generalize (zs.take j).any (fun x => decide (x ∈ XI)) = hb at *
                        cases hb with
                        | true =>
                          go_wp2_with fail
                          exact ⟨⟨j + 1, by omega, by simp, by rw [HAT.out]; rfl, trivial⟩, by simp [intOf]; omega⟩
                        | false =>
                          go_wp2_with fail
                          exact ⟨⟨j + 1, by omega, by simp, by rw [HAT.out]; rfl, trivial⟩, by simp [intOf]; omega⟩
                      · obtain rfl : j = zs.length := by omega
                        have hlj' : ¬ (zs.length : Int) < zs.length := by omega
                        rw [List.take_length]
                        by_cases hin : (k : Int) ∈ XI
                        · rw [decide_eq_true hin] at dx
                          generalize zs.any (fun x => decide (x ∈ XI)) = hb at *
                          go_wp2_with fail
                          exact ⟨⟨k + 1, by omega, by simp, HB8⟩, by simp [intOf]; omega⟩
                        · rw [decide_eq_false hin] at dx
                          have HRH := Lib.hid (ring_has hlt HPO.out HZ.out hin)
                          rw [← HYE.out] at HRH
                          rw [← HRH.out] at dy
                          clear HRH
                          generalize zs.any (fun x => decide (x ∈ XI)) = hb at *
                          have hbb : (hb != hb) = false := by simp
                          go_wp2_with fail
                          exact ⟨⟨k + 1, by omega, by simp, HB8⟩, by simp [intOf]; omega⟩
                  · obtain rfl : k = n := by omega
                    have hlt' : ¬ (k : Int) < k := by omega
                    go_wp2_with fail
                    go_ret
                    exact ⟨rfl, HB7.out⟩
    · have he2 : (E != 0) = true := by simp [he]
      rw [if_neg he] at hx
      subst hx
      go_wp2_with fail
      go_ret
      exact ⟨rfl, HB3.out⟩
end Go.Proofs.Ytgkpmcpkobphpaa
