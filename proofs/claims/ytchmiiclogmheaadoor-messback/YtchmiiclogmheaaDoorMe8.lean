/-
  A field of a message as an item.
-/
import Derived.Test.YtchmiiclogmheaaDoorMe7
namespace Go.Proofs.YtchmiiclogmheaaDoor.C2
open Go.RowKit
/-- An item that was stored in the four cells of a result. -/
theorem fin_item {w w2 : World} {B p : Nat} {t : T} {a b c d : Value} (hB : B ≤ p) (hr : w2.heap[p]? = some (.cells #[a, b, c, d] 54 (0, 0))) (hb : Below B w w2) (hI : ∀ f, InS (fun b => p < b ∧ b < w2.heap.size) w2 f t) :
    (((((w2.setCell ⟨p, 0, none⟩ (.int .i64 t.k)).setCell ⟨p, 1, none⟩ (.int .u64 t.n)).setCell ⟨p, 2, none⟩ (.string t.s)).setCell ⟨p, 3, none⟩ (.slice t.a t.l.length t.cap)).cell? ⟨p, 0, none⟩ = some (.int .i64 t.k) ∧ ((((w2.setCell ⟨p, 0, none⟩ (.int .i64 t.k)).setCell ⟨p, 1, none⟩ (.int .u64 t.n)).setCell ⟨p, 2, none⟩ (.string t.s)).setCell ⟨p, 3, none⟩ (.slice t.a t.l.length t.cap)).cell? ⟨p, 1, none⟩ = some (.int .u64 t.n) ∧ ((((w2.setCell ⟨p, 0, none⟩ (.int .i64 t.k)).setCell ⟨p, 1, none⟩ (.int .u64 t.n)).setCell ⟨p, 2, none⟩ (.string t.s)).setCell ⟨p, 3, none⟩ (.slice t.a t.l.length t.cap)).cell? ⟨p, 2, none⟩ = some (.string t.s) ∧ ((((w2.setCell ⟨p, 0, none⟩ (.int .i64 t.k)).setCell ⟨p, 1, none⟩ (.int .u64 t.n)).setCell ⟨p, 2, none⟩ (.string t.s)).setCell ⟨p, 3, none⟩ (.slice t.a t.l.length t.cap)).cell? ⟨p, 3, none⟩ = some (.slice t.a t.l.length t.cap)) ∧
    (∀ f, InS (fun b => p ≤ b ∧ b < ((((w2.setCell ⟨p, 0, none⟩ (.int .i64 t.k)).setCell ⟨p, 1, none⟩ (.int .u64 t.n)).setCell ⟨p, 2, none⟩ (.string t.s)).setCell ⟨p, 3, none⟩ (.slice t.a t.l.length t.cap)).heap.size) ((((w2.setCell ⟨p, 0, none⟩ (.int .i64 t.k)).setCell ⟨p, 1, none⟩ (.int .u64 t.n)).setCell ⟨p, 2, none⟩ (.string t.s)).setCell ⟨p, 3, none⟩ (.slice t.a t.l.length t.cap)) f t) ∧
    Below B w ((((w2.setCell ⟨p, 0, none⟩ (.int .i64 t.k)).setCell ⟨p, 1, none⟩ (.int .u64 t.n)).setCell ⟨p, 2, none⟩ (.string t.s)).setCell ⟨p, 3, none⟩ (.slice t.a t.l.length t.cap)) := by
  have hfin := four_set (a' := .int .i64 t.k) (b' := .int .u64 t.n) (c' := .string t.s) (d' := .slice t.a t.l.length t.cap) hr
  have hbel := four_below (p := B) (q := p) (a' := .int .i64 t.k) (b' := .int .u64 t.n) (c' := .string t.s) (d' := .slice t.a t.l.length t.cap) hb hB
  have hoth := fun b (h : b ≠ p) => four_oth (w := w2) (a' := .int .i64 t.k) (b' := .int .u64 t.n) (c' := .string t.s) (d' := .slice t.a t.l.length t.cap) h
  generalize ((((w2.setCell ⟨p, 0, none⟩ (.int .i64 t.k)).setCell ⟨p, 1, none⟩ (.int .u64 t.n)).setCell ⟨p, 2, none⟩ (.string t.s)).setCell ⟨p, 3, none⟩ (.slice t.a t.l.length t.cap)) = W4 at *
  refine ⟨(cells4 hfin).1, fun f => (hI f).same (fun b hb => ?_), hbel⟩
  have h2 := hoth b (by omega)
  refine ⟨⟨by omega, ?_⟩, h2⟩
  have h4 : w2.heap[b]? = some w2.heap[b] := Array.getElem?_eq_getElem hb.2
  rw [← h2] at h4
  exact lt_of_block h4
/-- An item is a field of a message. -/
def IsF (m : MM) (f : Nat) (t : T) : Prop := if f = 7 then ∃ a c, t = lT a c (m.ws.map nT) else if f = 8 then IsMs t m.ms else if f = 9 then ∃ a c, t = lT a c (m.ds.map nT) else t = nT (nF m f)
/-- What the fields lie between. -/
structure Ok (m : MM) : Prop where
  wl : m.ws.length ≤ 16384
  ml : m.ms.length ≤ 16384
  dl : m.ds.length ≤ 16384
  wb : ∀ j, j < m.ws.length → 0 ≤ m.ws.getD j 0 ∧ m.ws.getD j 0 ≤ 4294967295
  db : ∀ j, j < m.ds.length → 0 ≤ m.ds.getD j 0 ∧ m.ds.getD j 0 ≤ 18446744073709551615
theorem map_len (l : List Int) (a : Option Addr) (c : Nat) : (lT a c (l.map nT)).l.length = l.length := List.length_map ..
theorem insP {p : Nat} {W w' : World} {t : T} (h : p < W.heap.size) (hI : ∀ f, InS (fun b => W.heap.size ≤ b ∧ b < w'.heap.size) w' f t) : ∀ f, InS (fun b => p < b ∧ b < w'.heap.size) w' f t :=
  fun f => (hI f).same (fun b hb => ⟨⟨by omega, hb.2⟩, rfl⟩)
set_option maxRecDepth 100000 in
set_option maxHeartbeats 12800000 in
theorem itemOfField_any (m : MM) (p : Ad) (f : Nat) (hf : f ≤ 9) (w : World) (hm : MsIn w m p) (ho : Ok m) (h8 : f = 8 → MxOk m.ms) (h6 : f ≤ 6 → 0 ≤ nF m f ∧ nF m f ≤ 9223372036854775807) :
    Calls Tryd.prog 53 #[.agg (msC m p), .int .i64 f] w fun e w' => ∃ t : T, e = .returned t.val ∧ IsF m f t ∧ (∀ g, InS (fun b => w.heap.size ≤ b ∧ b < w'.heap.size) w' g t) ∧ Below w.heap.size w w' := by
  obtain ⟨q1, q2, hb0, hsz⟩ : ((w.alloc (.cells (msC m p) 26)).alloc (.cells #[.int .i64 0, .int .u64 0, .string ⟨#[]⟩, .slice none 0 0] 54)).heap[w.heap.size]? = some (.cells (msC m p) 26) ∧ ((w.alloc (.cells (msC m p) 26)).alloc (.cells #[.int .i64 0, .int .u64 0, .string ⟨#[]⟩, .slice none 0 0] 54)).heap[w.heap.size + 1]? = some (.cells #[.int .i64 0, .int .u64 0, .string ⟨#[]⟩, .slice none 0 0] 54) ∧ Below w.heap.size w ((w.alloc (.cells (msC m p) 26)).alloc (.cells #[.int .i64 0, .int .u64 0, .string ⟨#[]⟩, .slice none 0 0] 54)) ∧ ((w.alloc (.cells (msC m p) 26)).alloc (.cells #[.int .i64 0, .int .u64 0, .string ⟨#[]⟩, .slice none 0 0] 54)).heap.size = w.heap.size + 2 := by
    refine ⟨?_, ?_, ((Below.refl _ _).alloc (Nat.le_refl _) _).alloc (by simp) _, by simp⟩
    · rw [Below.heap_alloc _ _ _ (by simp), heap_top]
    · have := heap_top (w.alloc (.cells (msC m p) 26)) (.cells #[.int .i64 0, .int .u64 0, .string ⟨#[]⟩, .slice none 0 0] 54)
      rw [World.size_alloc] at this
      exact this
  have HB0 := Lib.hid hb0
  have HR0 := Lib.hid q2
  have HSZ := Lib.hid hsz
  by_cases h77 : f = 7
  · subst h77
    have HC : Hid (Calls Tryd.prog 84 #[.slice p.wa m.ws.length p.wc] ((w.alloc (.cells (msC m p) 26)).alloc (.cells #[.int .i64 0, .int .u64 0, .string ⟨#[]⟩, .slice none 0 0] 54)) fun e w' => ∃ t : T, e = .returned t.val ∧ IsF m 7 t ∧ (∀ g, InS (fun b => ((w.alloc (.cells (msC m p) 26)).alloc (.cells #[.int .i64 0, .int .u64 0, .string ⟨#[]⟩, .slice none 0 0] 54)).heap.size ≤ b ∧ b < w'.heap.size) w' g t) ∧ Below ((w.alloc (.cells (msC m p) 26)).alloc (.cells #[.int .i64 0, .int .u64 0, .string ⟨#[]⟩, .slice none 0 0] 54)).heap.size ((w.alloc (.cells (msC m p) 26)).alloc (.cells #[.int .i64 0, .int .u64 0, .string ⟨#[]⟩, .slice none 0 0] 54)) w') := Lib.hid (by
      refine (numbers84_any p.wa m.ws p.wc _ ho.wl ho.wb (hm.ws.on hb0)).mono ?_
      rintro e w' ⟨g, rfl, h2, h3⟩
      exact ⟨_, rfl, ⟨_, _, rfl⟩, h2, h3⟩)
    clear hb0 q1 q2 hm ho h8 h6 hf hsz
    unfold msC at *
    go_enter Tryd.func53, Tryd.ntmps53
    go_wp2_with fail
    refine HC.out.mono ?_
    rintro e w2 ⟨t, rfl, ht, hI, hb2⟩
    have HT := Lib.hid ht
    have HB2 := Lib.hid (HB0.out.trans (hb2.mono HB0.out.size))
    have HI := Lib.hid (insP (by have := HSZ.out; omega : w.heap.size + 1 < _) hI)
    have hr2 := (hb2.block _ (by have := HSZ.out; omega)).trans HR0.out
    have HR2 := Lib.hid hr2
    clear ht hI hb2 HC HR0
    obtain ⟨⟨z0, z1, z2, z3⟩, f0, f1, f2, f3⟩ := cells4 hr2
    clear hr2
    unfold T.val
    go_wp2_with fail
    obtain ⟨⟨y0, y1, y2, y3⟩, hI4, hb4⟩ := fin_item (w := w) (B := w.heap.size) (by omega) HR2.out HB2.out HI.out
    exact bodyPost_ret (v := t.val) (by simp [results, Tryd.results53, go_sem, T.val, y0, y1, y2, y3]) rfl ⟨t, rfl, HT.out, fun g => (hI4 g).same (fun b hb => ⟨⟨by omega, hb.2⟩, rfl⟩), hb4⟩
  by_cases h88 : f = 8
  · subst h88
    have HC : Hid (Calls Tryd.prog 85 #[.slice p.ma m.ms.length p.mc] ((w.alloc (.cells (msC m p) 26)).alloc (.cells #[.int .i64 0, .int .u64 0, .string ⟨#[]⟩, .slice none 0 0] 54)) fun e w' => ∃ t : T, e = .returned t.val ∧ IsF m 8 t ∧ (∀ g, InS (fun b => ((w.alloc (.cells (msC m p) 26)).alloc (.cells #[.int .i64 0, .int .u64 0, .string ⟨#[]⟩, .slice none 0 0] 54)).heap.size ≤ b ∧ b < w'.heap.size) w' g t) ∧ Below ((w.alloc (.cells (msC m p) 26)).alloc (.cells #[.int .i64 0, .int .u64 0, .string ⟨#[]⟩, .slice none 0 0] 54)).heap.size ((w.alloc (.cells (msC m p) 26)).alloc (.cells #[.int .i64 0, .int .u64 0, .string ⟨#[]⟩, .slice none 0 0] 54)) w') := Lib.hid (by
      refine (matrices_any p.ma m.ms p.mc _ ho.ml (h8 rfl) (hm.ms.on hb0)).mono ?_
      rintro e w' ⟨t, rfl, h1, h2, h3⟩
      exact ⟨t, rfl, h1, h2, h3⟩)
    clear hb0 q1 q2 hm ho h8 h6 hf hsz
    unfold msC at *
    go_enter Tryd.func53, Tryd.ntmps53
    go_wp2_with fail
    refine HC.out.mono ?_
    rintro e w2 ⟨t, rfl, ht, hI, hb2⟩
    have HT := Lib.hid ht
    have HB2 := Lib.hid (HB0.out.trans (hb2.mono HB0.out.size))
    have HI := Lib.hid (insP (by have := HSZ.out; omega : w.heap.size + 1 < _) hI)
    have hr2 := (hb2.block _ (by have := HSZ.out; omega)).trans HR0.out
    have HR2 := Lib.hid hr2
    clear ht hI hb2 HC HR0
    obtain ⟨⟨z0, z1, z2, z3⟩, f0, f1, f2, f3⟩ := cells4 hr2
    clear hr2
    unfold T.val
    go_wp2_with fail
    obtain ⟨⟨y0, y1, y2, y3⟩, hI4, hb4⟩ := fin_item (w := w) (B := w.heap.size) (by omega) HR2.out HB2.out HI.out
    exact bodyPost_ret (v := t.val) (by simp [results, Tryd.results53, go_sem, T.val, y0, y1, y2, y3]) rfl ⟨t, rfl, HT.out, fun g => (hI4 g).same (fun b hb => ⟨⟨by omega, hb.2⟩, rfl⟩), hb4⟩
  by_cases h99 : f = 9
  · subst h99
    have HC : Hid (Calls Tryd.prog 86 #[.slice p.da m.ds.length p.dc] ((w.alloc (.cells (msC m p) 26)).alloc (.cells #[.int .i64 0, .int .u64 0, .string ⟨#[]⟩, .slice none 0 0] 54)) fun e w' => ∃ t : T, e = .returned t.val ∧ IsF m 9 t ∧ (∀ g, InS (fun b => ((w.alloc (.cells (msC m p) 26)).alloc (.cells #[.int .i64 0, .int .u64 0, .string ⟨#[]⟩, .slice none 0 0] 54)).heap.size ≤ b ∧ b < w'.heap.size) w' g t) ∧ Below ((w.alloc (.cells (msC m p) 26)).alloc (.cells #[.int .i64 0, .int .u64 0, .string ⟨#[]⟩, .slice none 0 0] 54)).heap.size ((w.alloc (.cells (msC m p) 26)).alloc (.cells #[.int .i64 0, .int .u64 0, .string ⟨#[]⟩, .slice none 0 0] 54)) w') := Lib.hid (by
      refine (numbers86_any p.da m.ds p.dc _ ho.dl ho.db (hm.ds.on hb0)).mono ?_
      rintro e w' ⟨g, rfl, h2, h3⟩
      exact ⟨_, rfl, ⟨_, _, rfl⟩, h2, h3⟩)
    clear hb0 q1 q2 hm ho h8 h6 hf hsz
    unfold msC at *
    go_enter Tryd.func53, Tryd.ntmps53
    go_wp2_with fail
    refine HC.out.mono ?_
    rintro e w2 ⟨t, rfl, ht, hI, hb2⟩
    have HT := Lib.hid ht
    have HB2 := Lib.hid (HB0.out.trans (hb2.mono HB0.out.size))
    have HI := Lib.hid (insP (by have := HSZ.out; omega : w.heap.size + 1 < _) hI)
    have hr2 := (hb2.block _ (by have := HSZ.out; omega)).trans HR0.out
    have HR2 := Lib.hid hr2
    clear ht hI hb2 HC HR0
    obtain ⟨⟨z0, z1, z2, z3⟩, f0, f1, f2, f3⟩ := cells4 hr2
    clear hr2
    unfold T.val
    go_wp2_with fail
    obtain ⟨⟨y0, y1, y2, y3⟩, hI4, hb4⟩ := fin_item (w := w) (B := w.heap.size) (by omega) HR2.out HB2.out HI.out
    exact bodyPost_ret (v := t.val) (by simp [results, Tryd.results53, go_sem, T.val, y0, y1, y2, y3]) rfl ⟨t, rfl, HT.out, fun g => (hI4 g).same (fun b hb => ⟨⟨by omega, hb.2⟩, rfl⟩), hb4⟩
  have h66 : f ≤ 6 := by omega
  obtain ⟨x0, x1⟩ := h6 h66
  have HP := Lib.hid (place_any w.heap.size f h66 ((w.alloc (.cells (msC m p) 26)).alloc (.cells #[.int .i64 0, .int .u64 0, .string ⟨#[]⟩, .slice none 0 0] 54)))
  have HF : Hid (IsF m f (nT (nF m f))) := Lib.hid (by
    unfold IsF
    rw [if_neg h77, if_neg h88, if_neg h99])
  have HQ := Lib.hid q1
  have e7 : ((f : Int) == 7) = false := by simp; omega
  have e8 : ((f : Int) == 8) = false := by simp; omega
  have e9 : ((f : Int) == 9) = false := by simp; omega
  obtain ⟨X, HX⟩ := named (nF m f)
  have hcell : ((w.alloc (.cells (msC m p) 26)).alloc (.cells #[.int .i64 0, .int .u64 0, .string ⟨#[]⟩, .slice none 0 0] 54)).cell? ⟨w.heap.size, f + 1, none⟩ = some (.int .i64 X) := by
    rw [← HX.out]
    unfold msC at q1
    obtain ⟨q0, q1, q2, q3, q4, q5, q6, q7, q8, q9, q10⟩ := cells11 q1
    have h : f = 0 ∨ f = 1 ∨ f = 2 ∨ f = 3 ∨ f = 4 ∨ f = 5 ∨ f = 6 := by omega
    unfold msC
    rcases h with rfl | rfl | rfl | rfl | rfl | rfl | rfl
    · exact q1
    · exact q2
    · exact q3
    · exact q4
    · exact q5
    · exact q6
    · exact q7
  rw [HX.out] at HF x0 x1
  have hwx : IntKind.u64.wrap X = X := by rw [IntKind.wrap_u64]; omega
  have HN := Lib.hid (num_any X ((w.alloc (.cells (msC m p) 26)).alloc (.cells #[.int .i64 0, .int .u64 0, .string ⟨#[]⟩, .slice none 0 0] 54)))
  clear hb0 q1 q2 hm ho h8 h6 hf hsz
  unfold msC at *
  go_enter Tryd.func53, Tryd.ntmps53
  go_wp2_with fail
  refine HP.out.mono ?_
  rintro e w1 ⟨rfl, rfl⟩
  go_wp2_with fail
  refine HN.out.mono ?_
  rintro e w2 ⟨rfl, hb2⟩
  have HB2 := Lib.hid (HB0.out.trans (hb2.mono HB0.out.size))
  have hr2 := (hb2.block _ (by have := HSZ.out; omega)).trans HR0.out
  have HR2 := Lib.hid hr2
  clear hb2 HR0 hcell
  obtain ⟨⟨z0, z1, z2, z3⟩, f0, f1, f2, f3⟩ := cells4 hr2
  clear hr2
  go_wp2_with fail
  obtain ⟨⟨y0, y1, y2, y3⟩, hI4, hb4⟩ := fin_item (w := w) (B := w.heap.size) (t := nT X) (by omega) HR2.out HB2.out (fun f => inS_num x0 (by omega) f)
  have y0' : World.cell? _ _ = some (.int .i64 1) := y0
  have y1' : World.cell? _ _ = some (.int .u64 X) := y1
  have y2' : World.cell? _ _ = some (.string ⟨#[]⟩) := y2
  have y3' : World.cell? _ _ = some (.slice none 0 0) := y3
  have hb5 : Below w.heap.size w ((((w2.setCell ⟨w.heap.size + 1, 0, none⟩ (.int .i64 1)).setCell ⟨w.heap.size + 1, 1, none⟩ (.int .u64 X)).setCell ⟨w.heap.size + 1, 2, none⟩ (.string ⟨#[]⟩)).setCell ⟨w.heap.size + 1, 3, none⟩ (.slice none 0 0)) := hb4
  clear hI4 hb4 y0 y1 y2 y3
  change World.cell? ((((w2.setCell ⟨w.heap.size + 1, 0, none⟩ (.int .i64 1)).setCell ⟨w.heap.size + 1, 1, none⟩ (.int .u64 X)).setCell ⟨w.heap.size + 1, 2, none⟩ (.string ⟨#[]⟩)).setCell ⟨w.heap.size + 1, 3, none⟩ (.slice none 0 0)) _ = _ at y0' y1' y2' y3'
  generalize ((((w2.setCell ⟨w.heap.size + 1, 0, none⟩ (.int .i64 1)).setCell ⟨w.heap.size + 1, 1, none⟩ (.int .u64 X)).setCell ⟨w.heap.size + 1, 2, none⟩ (.string ⟨#[]⟩)).setCell ⟨w.heap.size + 1, 3, none⟩ (.slice none 0 0)) = W4 at *
  exact bodyPost_ret (v := .agg #[.int .i64 1, .int .u64 X, .string ⟨#[]⟩, .slice none 0 0]) (by simp [results, Tryd.results53, go_sem, y0', y1', y2', y3']) rfl ⟨nT X, rfl, HF.out, fun g => inS_num x0 (by omega) g, hb5⟩
end Go.Proofs.YtchmiiclogmheaaDoor.C2
