/-
  The contract of the reference's Most.
-/
import Derived.Test.YtpgadcacimjlaaaGreatFRPush
namespace Go.Proofs.YtpgadcacimjlaaaGreat.F6
open Go.RowKit
theorem capK_nonneg {n : Nat} {E : List Ed} (g : RN n E) (R : Nat → Bool) : ∀ k, k ≤ E.length → 0 ≤ capK E R k ∧ capK E R k ≤ k * 4294967295
  | 0, _ => ⟨Int.le_refl _, by simp [capK]⟩
  | k + 1, h => by
    have h1 := capK_nonneg g R k (by omega)
    have h2 := g.cap k (by omega)
    simp only [capK]
    split <;> omega
set_option maxHeartbeats 3200000 in
set_option maxRecDepth 100000 in
theorem rmost_any (n : Nat) (a : Option Addr) (l : List A) (cap : Nat) (w : World) (s t : Nat) (hr : Arcs w a l) (hO : Ok n l s t n s t) :
    Calls Tryz.prog 61 #[.agg #[.int .i64 n, .slice a l.length cap], .int .i64 s, .int .i64 t] w fun e w' => ∃ (fl rk : Nat → Int) (bS : Nat) (vf : Value), e = .returned (.tuple #[.int .u64 (net (edl l) fl s (edl l).length), vf, .slice (some ⟨bS, 0, none⟩) n n]) ∧ Flow n (edl l) s t fl ∧ Rk n l.length (edl l) fl 1 s t rk ∧ rk t = -1 ∧ TbV w' bS n 4 (fun v => .bool (side rk v)) ∧ w.heap.size ≤ bS ∧ Below w.heap.size w w' := by
  obtain ⟨i50, hi50, hz50, hs50, hby50⟩ := info_parts info50
  have hm : l.length ≤ 16384 := by have := hO.g.lb; rwa [edl_len] at this
  have hb0 : Below w.heap.size w (w.alloc (.cells #[.int .i64 n, .slice a l.length cap] 86)) := (Below.refl _ _).alloc (Nat.le_refl _) _
  have hg := heap_top w (.cells #[.int .i64 n, .slice a l.length cap] 86)
  have hsz : (w.alloc (.cells #[.int .i64 n, .slice a l.length cap] 86)).heap.size = w.heap.size + 1 := by simp
  have hmk : ∀ w, (Instr.makeSlice 93 (.int .i64 l.length) (.int .i64 l.length)).run Tryz.prog w = .ok (.slice (some ⟨w.heap.size, 0, none⟩) l.length l.length) (w.alloc (.cells ((List.range l.length).map (fun _ => Value.int .u32 0)).toArray 48)) := fun w => by
    have := run_make (P := Tryz.prog) w 93 48 i50 (.int .u32 0) Tryz.underlying93 hi50 hz50 .i64 .i64 l.length l.length (by omega) (by omega) (by rw [hby50]; omega) (by omega)
    rw [this, Int.toNat_natCast, hs50, made_u32]
  have HO := Lib.hid hO
  have HAR := Lib.hid hr
  clear hO hr hi50 hz50 hs50 hby50
  clear i50
  go_enter Tryz.func61, Tryz.ntmps61
  go_wp2_with fail
  generalize w.alloc (.cells #[.int .i64 n, .slice a l.length cap] 86) = W at *
  have hf0 : Fl (W.alloc (.cells ((List.range l.length).map (fun _ => Value.int .u32 0)).toArray 48)) (.slice (some ⟨W.heap.size, 0, none⟩) l.length l.length) l.length (fun _ => 0) :=
    ⟨W.heap.size, l.length, rfl, Nat.le_refl _, by simp, fun j hj => TbV.cell (show TbV _ W.heap.size l.length 48 (fun _ => .int .u32 0) from heap_top W _) hj⟩
  have HF0 := Lib.hid hf0
  have HB1 : Hid (Below (w.heap.size + 1) W (W.alloc (.cells ((List.range l.length).map (fun _ => Value.int .u32 0)).toArray 48))) := (Below.refl _ _).alloc (by omega) _
  have HB0 := Lib.hid hb0
  have HG := Lib.hid hg
  rw [hsz] at HF0
  clear hf0 hb0 hg hmk
  generalize W.alloc (.cells ((List.range l.length).map (fun _ => Value.int .u32 0)).toArray 48) = W1 at *
  generalize Value.slice (some ⟨w.heap.size + 1, 0, none⟩) l.length l.length = vf0 at *
  go_loopg [9, 10] ((capK (edl l) (fun v => v == s) (edl l).length).toNat) (fun gk vf tv wr => ∃ (fl : Nat → Int) (tot : Int), tv = .int .u64 tot ∧ Hid (gk = (capK (edl l) (fun v => v == s) (edl l).length - net (edl l) fl s (edl l).length).toNat) ∧ Hid (net (edl l) fl s (edl l).length = tot ∧ 0 ≤ tot) ∧ Hid (Flow n (edl l) s t fl) ∧ Hid (Fl wr vf l.length fl) ∧ Hid (Below (w.heap.size + 1) W wr))
  case atStart => exact ⟨fun _ => 0, 0, rfl, by show _ = _; rw [net_zero]; simp, ⟨net_zero _ _ _, Int.le_refl _⟩, Flow.zero HO.out.g s t, HF0, HB1⟩
  case round =>
    obtain ⟨fl, tot, rfl, HGK, HNT, HFL, HF, HB⟩ := hrel
    have hgr := (HB.out.block w.heap.size (by omega)).trans HG.out
    obtain ⟨⟨g0, g1⟩, gf0, gf1⟩ := two_cells hgr
    have hbw : Below w.heap.size w wr := HB0.out.trans (HB.out.mono (Nat.le_succ _))
    have hfb : ∀ j, j < l.length → 0 ≤ fl j ∧ fl j ≤ (ed (edl l) j).c := fun j hj => ⟨HFL.out.lo j (by rw [edl_len]; exact hj), HFL.out.hi j (by rw [edl_len]; exact hj)⟩
    have HR := Lib.hid (rreach_any n a l cap wr s u9 fl (HAR.out.on hbw) HO.out.g HO.out.po HO.out.un HF.out hfb)
    have HFB := Lib.hid hfb
    have HBW := Lib.hid hbw
    clear hfb hbw
    have hwr := lt_of_block hgr
    go_wp2_with fail
    refine HR.out.mono ?_
    rintro e w2 ⟨rk, by', bS, bB, rfl, hRk, hrn, hBy, hS, hB, hbS, hSB, hb2⟩
    have d := hS.cell HO.out.vn
    have htn : (t : Int) < n := by have := HO.out.vn; omega
    have hg2 := (hb2.block w.heap.size hwr).trans hgr
    clear g0 g1 gf0 gf1
    obtain ⟨⟨g0, g1⟩, gf0, gf1⟩ := two_cells hg2
    cases hst : side rk t with
    | false =>
      rw [hst] at d
      have HE := Lib.hid (And.intro (hRk.other (u := t) hrn) (side_false.1 hst))
      have HS := Lib.hid hS
      have HB2 : Hid (Below w.heap.size w w2) := HBW.out.trans (hb2.mono (Nat.le_of_lt hwr))
      have HBS : Hid (w.heap.size ≤ bS) := by show _ ≤ _; omega
      clear hRk hrn hBy hS hB hst hb2
      go_wp2_with fail
      go_ret3
      exact ⟨fl, rk, bS, _, by rw [HNT.out.1]; rfl, HFL.out, HE.out.1, HE.out.2, HS.out, HBS.out, HB2.out⟩
    | true =>
      rw [hst] at d
      have hpos : 0 ≤ rk t := by
        rcases hRk.pos t HO.out.vn with h | h
        · exact absurd h (side_true.1 hst)
        · exact h.1
      obtain ⟨p, hBw, hpk, _⟩ := hBy.way (by have := HO.out.g.steps; rwa [edl_len] at this) (rk t).toNat t HO.out.vn (side_true.1 hst) (by omega) hpos
      have hbw2 : Below w.heap.size w w2 := HBW.out.trans (hb2.mono (Nat.le_of_lt hwr))
      have HP := Lib.hid (rpush_any n a l cap w2 s t u9 fl rk by' bB p (HAR.out.on hbw2) HO.out.g HO.out.po HO.out.vn (HF.out.on hb2) HFB.out hB hBw (fun k hk => ⟨(hpk k hk).1, (hpk k hk).2.1⟩))
      have HCH := Lib.hid hBw.chn
      have HON := Lib.hid (once_rev hBw.once)
      have HPK := Lib.hid hpk
      have HB2 : Hid (Below (w.heap.size + 1) W w2) := HB.out.trans (hb2.mono (by omega))
      have hw2 := lt_of_block hg2
      clear hRk hrn hBy hS hB hst hb2 hBw hpk hbw2 hpos
      go_wp2_with fail
      refine HP.out.mono ?_
      rintro e w3 ⟨vo, x, rfl, hx1, hx2, hxr, hFo, hb3⟩
      obtain ⟨hF2, hN2⟩ := HFL.out.push (x := x) (by omega) HCH.out (fun e => HO.out.uv e) HON.out (fun k hk => by have := (HPK.out k (by simpa using hk)).1; rw [edl_len]; omega) (fun k hk => hxr k (by simpa using hk))
      have hcut := hF2.le_cut HO.out.g HO.out.un (R := fun v => v == s) (by simp) (by have := HO.out.uv; simp; omega)
      have hcl := capK_nonneg HO.out.g (fun v => v == s) (edl l).length (Nat.le_refl _)
      rw [edl_len] at hcl
      have hnt := HNT.out
      have hsm : 0 ≤ tot ∧ 0 ≤ x ∧ tot + x < 18446744073709551616 := by
        rw [edl_len] at hcut hN2 hnt
        have h5 : (l.length : Int) ≤ 16384 := by omega
        omega
      obtain ⟨hs1, hs2, hs3⟩ := hsm
      have HF2 := Lib.hid hF2
      have HN2 := Lib.hid hN2
      have HFO := Lib.hid hFo
      have HCU := Lib.hid hcut
      have HB3 : Hid (Below (w.heap.size + 1) W w3) := HB2.out.trans (hb3.mono (by omega))
      clear hF2 hN2 hFo hcut hcl hxr hb3 hnt
      go_wp2_with fail
      go_roundg ((capK (edl l) (fun v => v == s) (edl l).length - net (edl l) (pushAll fl x p.reverse) s (edl l).length).toNat)
      case measure => have h1 := HGK.out; have h2 := HCU.out; have h3 := HN2.out; omega
      case rel => exact ⟨pushAll fl x p.reverse, tot + x, rfl, rfl, ⟨by rw [HN2.out, HNT.out.1], by omega⟩, HF2, HFO, HB3⟩
end Go.Proofs.YtpgadcacimjlaaaGreat.F6
