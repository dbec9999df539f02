/-
  Reading a field of a message.
-/
import Derived.Test.YtchmiiclogmheaaDoorRd3
import Derived.Test.YtchmiiclogmheaaDoorMe4
namespace Go.Proofs.YtchmiiclogmheaaDoor.C2
open Go.RowKit
def okF (f : Nat) (t : T) : Bool := if f = 7 then okN t 4294967295 else if f = 8 then okMs t else if f = 9 then okN t 18446744073709551615 else okS t (mo f)
def setN (M : MM) (f : Nat) (v : Int) : MM := if f = 0 then { M with ep := v } else if f = 1 then { M with lv := v } else if f = 2 then { M with ce := v } else if f = 3 then { M with qu := v } else if f = 4 then { M with ve := v } else if f = 5 then { M with ot := v } else { M with bk := v }
def setF (M : MM) (f : Nat) (t : T) : MM := if f = 7 then { M with ws := xN t } else if f = 8 then { M with ms := xMs t } else if f = 9 then { M with ds := xN t } else setN M f t.n
/-- A message's lists lie in new blocks. -/
structure LsS (B : Nat) (w : World) (m : MM) (p : Ad) : Prop where
  ws : NmsS B .u32 w p.wa m.ws
  ms : MtsS B w p.ma m.ms
  ds : NmsS B .u64 w p.da m.ds
theorem LsS.same {B B' : Nat} {w w' : World} {m : MM} {p : Ad} (h : LsS B w m p) (hs : ∀ b, B ≤ b → b < w.heap.size → B' ≤ b ∧ b < w'.heap.size ∧ w'.heap[b]? = w.heap[b]?) : LsS B' w' m p :=
  ⟨h.ws.same hs, h.ms.same hs, h.ds.same hs⟩
theorem LsS.ins {B : Nat} {w : World} {m : MM} {p : Ad} (h : LsS B w m p) : MsIn w m p := ⟨h.ws.nms, h.ms.mts, h.ds.nms⟩
/-- What an item's members must be for the reading calls. -/
structure Small (t : T) : Prop where
  l : t.l.length ≤ 16384
  m : ∀ j, j < t.l.length → (t.m j).l.length = 4 → ((t.m j).m 3).l.length ≤ 16384
theorem frz {w : World} {b i : Nat} {cs : Array Value} {t : TypeId} (h : w.heap[b]? = some (.cells cs t (0, 0))) : w.frozen? ⟨b, i, none⟩ = false := by
  simp [World.frozen?, h]
/-- What stands behind a field that was read. -/
structure FdO (b f : Nat) (t : T) (M : MM) (w : World) (e : Ending) (w' : World) : Prop where
  ex : ∃ M' p', e = .returned (.bool (okF f t)) ∧ w'.heap[b]? = some (.cells (msC M' p') 26) ∧ (okF f t = true → M' = setF M f t ∧ LsS (b + 1) w' M' p')
  ot : ∀ c, c < w.heap.size → c ≠ b → w'.heap[c]? = w.heap[c]?
  be : Below b w w'
/-- A cell of the message is set. -/
theorem fdo_of {b f i : Nat} {t : T} {M M' : MM} {p p' : Ad} {w w2 : World} {v : Value} {e : Ending} (he : e = .returned (.bool (okF f t))) (hb : w2.heap[b]? = some (.cells (msC M p) 26)) (hv : (msC M p).setIfInBounds i v = msC M' p') (h2 : Below w.heap.size w w2) (hbw : b < w.heap.size)
    (hl : okF f t = true → M' = setF M f t ∧ LsS (b + 1) w2 M' p') : FdO b f t M w e (w2.setCell ⟨b, i, none⟩ v) := by
  have hs := heap_setCell_same w2 b i _ _ v hb
  rw [hv] at hs
  have ho : ∀ c, c ≠ b → (w2.setCell ⟨b, i, none⟩ v).heap[c]? = w2.heap[c]? := fun c hc => Below.heap_setCell _ _ _ _ hc
  refine ⟨⟨M', p', he, hs, fun h => ⟨(hl h).1, (hl h).2.same (fun c hc hc2 => ⟨hc, ?_, ho c (by omega)⟩)⟩⟩, fun c hc hn => (ho c hn).trans (h2.block c hc), (h2.mono (by omega)).setCell (p := ⟨b, i, none⟩) (by show b ≤ b; omega) _⟩
  have h4 : w2.heap[c]? = some w2.heap[c] := Array.getElem?_eq_getElem hc2
  rw [← ho c (by omega)] at h4
  exact lt_of_block h4
set_option maxRecDepth 100000 in
set_option maxHeartbeats 6400000 in
theorem readF7_any (b : Nat) (t : T) (M : MM) (p : Ad) (w : World) (hb : w.heap[b]? = some (.cells (msC M p) 26)) (hL : LsS (b + 1) w M p) (h : ∀ f, InF w f t) (hs : Small t) : Calls Tryd.prog 65 #[.pointer (some ⟨b, 0, none⟩), .int .i64 7, t.val] w fun e w' => FdO b 7 t M w e w' := by
  have hbw : b < w.heap.size := lt_of_block hb
  have hba : Below w.heap.size w (w.alloc (.cells #[.int .i64 t.k, .int .u64 t.n, .string t.s, .slice t.a t.l.length t.cap] 54)) := (Below.refl _ _).alloc (Nat.le_refl _) _
  have HBA := Lib.hid hba
  have HBX := Lib.hid hb
  have HLL := Lib.hid hL
  have HC : Hid (Calls Tryd.prog 88 #[.agg #[.int .i64 t.k, .int .u64 t.n, .string t.s, .slice t.a t.l.length t.cap], .int .u64 4294967295] (w.alloc (.cells #[.int .i64 t.k, .int .u64 t.n, .string t.s, .slice t.a t.l.length t.cap] 54)) fun e w' => (okN t 4294967295 = true → ∃ a c, e = .returned (.tuple #[.slice a (xN t).length c, .bool true]) ∧ NmsS (w.alloc (.cells #[.int .i64 t.k, .int .u64 t.n, .string t.s, .slice t.a t.l.length t.cap] 54)).heap.size .u32 w' a (xN t)) ∧ (okN t 4294967295 = false → e = .returned (.tuple #[.slice none 0 0, .bool false])) ∧ Below (w.alloc (.cells #[.int .i64 t.k, .int .u64 t.n, .string t.s, .slice t.a t.l.length t.cap] 54)).heap.size (w.alloc (.cells #[.int .i64 t.k, .int .u64 t.n, .string t.s, .slice t.a t.l.length t.cap] 54)) w') := Lib.hid (rdn88_any t _ (fun f => (h f).on hba) hs.l)
  have HO : Hid (okF 7 t = okN t 4294967295) := Lib.hid rfl
  have HSF : Hid (setF M 7 t = { M with ws := xN t }) := Lib.hid rfl
  clear hb hba h hs hL
  unfold T.val
  go_enter Tryd.func65, Tryd.ntmps65
  go_wp2_with fail
  refine HC.out.mono ?_
  rintro e w2 ⟨hy, hn, hb2⟩
  have hbw2 := bstep HBA.out hb2
  have hx := (hbw2.block _ hbw).trans HBX.out
  have HX := Lib.hid hx
  have HB2 := Lib.hid hbw2
  have HLS : LsS (b + 1) w2 M p := HLL.out.same (fun c hc hc2 => ⟨hc, by have := hbw2.size; omega, hbw2.block c hc2⟩)
  have f0 := frz (i := 8) hx
  have hx2 := hx
  unfold msC at hx2
  obtain ⟨z0, z1, z2, z3, z4, z5, z6, z7, z8, z9, z10⟩ := cells11 hx2
  have hsz : b + 1 ≤ (w.alloc (.cells #[.int .i64 t.k, .int .u64 t.n, .string t.s, .slice t.a t.l.length t.cap] 54)).heap.size := by rw [World.size_alloc]; omega
  have HLSH := Lib.hid HLS
  clear HC hb2 hbw2 hx hx2 HLL HLS
  by_cases hO : okN t 4294967295 = true
  · obtain ⟨ra, rc, rfl, hN⟩ := hy hO
    have HN := Lib.hid hN
    have HOT : Hid (okF 7 t = true) := Lib.hid (by rw [HO.out]; exact hO)
    clear hy hn hN hO
    obtain ⟨XX, hXX⟩ := named (xN t)
    rw [hXX.out] at HN ⊢
    go_wp2_with fail
    refine bodyPost_ret (v := .bool true) (by simp [results, Tryd.results65, go_sem]) rfl ?_
    refine fdo_of (p' := ⟨ra, rc, p.ma, p.mc, p.da, p.dc⟩) (M' := { M with ws := XX }) (by rw [HOT.out]) HX.out rfl HB2.out hbw (fun _ => ⟨by rw [HSF.out, hXX.out], ?_⟩)
    have hN := HN.out
    have HLS := HLSH.out
    exact ⟨hN.same (fun c hc hc2 => ⟨by omega, hc2, rfl⟩), HLS.ms, HLS.ds⟩
  · have hO' : okN t 4294967295 = false := by simpa using hO
    obtain rfl := hn hO'
    have HOT : Hid (okF 7 t = false) := Lib.hid (by rw [HO.out]; exact hO')
    clear hy hn hO hO'
    go_wp2_with fail
    refine bodyPost_ret (v := .bool false) (by simp [results, Tryd.results65, go_sem]) rfl ?_
    exact fdo_of (p' := ⟨none, 0, p.ma, p.mc, p.da, p.dc⟩) (M' := { M with ws := [] }) (by rw [HOT.out]) HX.out rfl HB2.out hbw (fun h => by rw [HOT.out] at h; cases h)
set_option maxRecDepth 100000 in
set_option maxHeartbeats 6400000 in
theorem readF8_any (b : Nat) (t : T) (M : MM) (p : Ad) (w : World) (hb : w.heap[b]? = some (.cells (msC M p) 26)) (hL : LsS (b + 1) w M p) (h : ∀ f, InF w f t) (hs : Small t) : Calls Tryd.prog 65 #[.pointer (some ⟨b, 0, none⟩), .int .i64 8, t.val] w fun e w' => FdO b 8 t M w e w' := by
  have hbw : b < w.heap.size := lt_of_block hb
  have hba : Below w.heap.size w (w.alloc (.cells #[.int .i64 t.k, .int .u64 t.n, .string t.s, .slice t.a t.l.length t.cap] 54)) := (Below.refl _ _).alloc (Nat.le_refl _) _
  have HBA := Lib.hid hba
  have HBX := Lib.hid hb
  have HLL := Lib.hid hL
  have HC : Hid (Calls Tryd.prog 89 #[.agg #[.int .i64 t.k, .int .u64 t.n, .string t.s, .slice t.a t.l.length t.cap]] (w.alloc (.cells #[.int .i64 t.k, .int .u64 t.n, .string t.s, .slice t.a t.l.length t.cap] 54)) fun e w' => (okMs t = true → ∃ a c, e = .returned (.tuple #[.slice a (xMs t).length c, .bool true]) ∧ MtsS (w.alloc (.cells #[.int .i64 t.k, .int .u64 t.n, .string t.s, .slice t.a t.l.length t.cap] 54)).heap.size  w' a (xMs t)) ∧ (okMs t = false → e = .returned (.tuple #[.slice none 0 0, .bool false])) ∧ Below (w.alloc (.cells #[.int .i64 t.k, .int .u64 t.n, .string t.s, .slice t.a t.l.length t.cap] 54)).heap.size (w.alloc (.cells #[.int .i64 t.k, .int .u64 t.n, .string t.s, .slice t.a t.l.length t.cap] 54)) w') := Lib.hid (readMs_any t _ (fun f => (h f).on hba) hs.l hs.m)
  have HO : Hid (okF 8 t = okMs t) := Lib.hid rfl
  have HSF : Hid (setF M 8 t = { M with ms := xMs t }) := Lib.hid rfl
  clear hb hba h hs hL
  unfold T.val
  go_enter Tryd.func65, Tryd.ntmps65
  go_wp2_with fail
  refine HC.out.mono ?_
  rintro e w2 ⟨hy, hn, hb2⟩
  have hbw2 := bstep HBA.out hb2
  have hx := (hbw2.block _ hbw).trans HBX.out
  have HX := Lib.hid hx
  have HB2 := Lib.hid hbw2
  have HLS : LsS (b + 1) w2 M p := HLL.out.same (fun c hc hc2 => ⟨hc, by have := hbw2.size; omega, hbw2.block c hc2⟩)
  have f0 := frz (i := 9) hx
  have hx2 := hx
  unfold msC at hx2
  obtain ⟨z0, z1, z2, z3, z4, z5, z6, z7, z8, z9, z10⟩ := cells11 hx2
  have hsz : b + 1 ≤ (w.alloc (.cells #[.int .i64 t.k, .int .u64 t.n, .string t.s, .slice t.a t.l.length t.cap] 54)).heap.size := by rw [World.size_alloc]; omega
  have HLSH := Lib.hid HLS
  clear HC hb2 hbw2 hx hx2 HLL HLS
  by_cases hO : okMs t = true
  · obtain ⟨ra, rc, rfl, hN⟩ := hy hO
    have HN := Lib.hid hN
    have HOT : Hid (okF 8 t = true) := Lib.hid (by rw [HO.out]; exact hO)
    clear hy hn hN hO
    obtain ⟨XX, hXX⟩ := named (xMs t)
    rw [hXX.out] at HN ⊢
    go_wp2_with fail
    refine bodyPost_ret (v := .bool true) (by simp [results, Tryd.results65, go_sem]) rfl ?_
    refine fdo_of (p' := ⟨p.wa, p.wc, ra, rc, p.da, p.dc⟩) (M' := { M with ms := XX }) (by rw [HOT.out]) HX.out rfl HB2.out hbw (fun _ => ⟨by rw [HSF.out, hXX.out], ?_⟩)
    have hN := HN.out
    have HLS := HLSH.out
    exact ⟨HLS.ws, hN.same (fun c hc hc2 => ⟨by omega, hc2, rfl⟩), HLS.ds⟩
  · have hO' : okMs t = false := by simpa using hO
    obtain rfl := hn hO'
    have HOT : Hid (okF 8 t = false) := Lib.hid (by rw [HO.out]; exact hO')
    clear hy hn hO hO'
    go_wp2_with fail
    refine bodyPost_ret (v := .bool false) (by simp [results, Tryd.results65, go_sem]) rfl ?_
    exact fdo_of (p' := ⟨p.wa, p.wc, none, 0, p.da, p.dc⟩) (M' := { M with ms := [] }) (by rw [HOT.out]) HX.out rfl HB2.out hbw (fun h => by rw [HOT.out] at h; cases h)
set_option maxRecDepth 100000 in
set_option maxHeartbeats 6400000 in
theorem readF9_any (b : Nat) (t : T) (M : MM) (p : Ad) (w : World) (hb : w.heap[b]? = some (.cells (msC M p) 26)) (hL : LsS (b + 1) w M p) (h : ∀ f, InF w f t) (hs : Small t) : Calls Tryd.prog 65 #[.pointer (some ⟨b, 0, none⟩), .int .i64 9, t.val] w fun e w' => FdO b 9 t M w e w' := by
  have hbw : b < w.heap.size := lt_of_block hb
  have hba : Below w.heap.size w (w.alloc (.cells #[.int .i64 t.k, .int .u64 t.n, .string t.s, .slice t.a t.l.length t.cap] 54)) := (Below.refl _ _).alloc (Nat.le_refl _) _
  have HBA := Lib.hid hba
  have HBX := Lib.hid hb
  have HLL := Lib.hid hL
  have HC : Hid (Calls Tryd.prog 90 #[.agg #[.int .i64 t.k, .int .u64 t.n, .string t.s, .slice t.a t.l.length t.cap], .int .u64 18446744073709551615] (w.alloc (.cells #[.int .i64 t.k, .int .u64 t.n, .string t.s, .slice t.a t.l.length t.cap] 54)) fun e w' => (okN t 18446744073709551615 = true → ∃ a c, e = .returned (.tuple #[.slice a (xN t).length c, .bool true]) ∧ NmsS (w.alloc (.cells #[.int .i64 t.k, .int .u64 t.n, .string t.s, .slice t.a t.l.length t.cap] 54)).heap.size .u64 w' a (xN t)) ∧ (okN t 18446744073709551615 = false → e = .returned (.tuple #[.slice none 0 0, .bool false])) ∧ Below (w.alloc (.cells #[.int .i64 t.k, .int .u64 t.n, .string t.s, .slice t.a t.l.length t.cap] 54)).heap.size (w.alloc (.cells #[.int .i64 t.k, .int .u64 t.n, .string t.s, .slice t.a t.l.length t.cap] 54)) w') := Lib.hid (rdn90_any t _ (fun f => (h f).on hba) hs.l)
  have HO : Hid (okF 9 t = okN t 18446744073709551615) := Lib.hid rfl
  have HSF : Hid (setF M 9 t = { M with ds := xN t }) := Lib.hid rfl
  clear hb hba h hs hL
  unfold T.val
  go_enter Tryd.func65, Tryd.ntmps65
  go_wp2_with fail
  refine HC.out.mono ?_
  rintro e w2 ⟨hy, hn, hb2⟩
  have hbw2 := bstep HBA.out hb2
  have hx := (hbw2.block _ hbw).trans HBX.out
  have HX := Lib.hid hx
  have HB2 := Lib.hid hbw2
  have HLS : LsS (b + 1) w2 M p := HLL.out.same (fun c hc hc2 => ⟨hc, by have := hbw2.size; omega, hbw2.block c hc2⟩)
  have f0 := frz (i := 10) hx
  have hx2 := hx
  unfold msC at hx2
  obtain ⟨z0, z1, z2, z3, z4, z5, z6, z7, z8, z9, z10⟩ := cells11 hx2
  have hsz : b + 1 ≤ (w.alloc (.cells #[.int .i64 t.k, .int .u64 t.n, .string t.s, .slice t.a t.l.length t.cap] 54)).heap.size := by rw [World.size_alloc]; omega
  have HLSH := Lib.hid HLS
  clear HC hb2 hbw2 hx hx2 HLL HLS
  by_cases hO : okN t 18446744073709551615 = true
  · obtain ⟨ra, rc, rfl, hN⟩ := hy hO
    have HN := Lib.hid hN
    have HOT : Hid (okF 9 t = true) := Lib.hid (by rw [HO.out]; exact hO)
    clear hy hn hN hO
    obtain ⟨XX, hXX⟩ := named (xN t)
    rw [hXX.out] at HN ⊢
    go_wp2_with fail
    refine bodyPost_ret (v := .bool true) (by simp [results, Tryd.results65, go_sem]) rfl ?_
    refine fdo_of (p' := ⟨p.wa, p.wc, p.ma, p.mc, ra, rc⟩) (M' := { M with ds := XX }) (by rw [HOT.out]) HX.out rfl HB2.out hbw (fun _ => ⟨by rw [HSF.out, hXX.out], ?_⟩)
    have hN := HN.out
    have HLS := HLSH.out
    exact ⟨HLS.ws, HLS.ms, hN.same (fun c hc hc2 => ⟨by omega, hc2, rfl⟩)⟩
  · have hO' : okN t 18446744073709551615 = false := by simpa using hO
    obtain rfl := hn hO'
    have HOT : Hid (okF 9 t = false) := Lib.hid (by rw [HO.out]; exact hO')
    clear hy hn hO hO'
    go_wp2_with fail
    refine bodyPost_ret (v := .bool false) (by simp [results, Tryd.results65, go_sem]) rfl ?_
    exact fdo_of (p' := ⟨p.wa, p.wc, p.ma, p.mc, none, 0⟩) (M' := { M with ds := [] }) (by rw [HOT.out]) HX.out rfl HB2.out hbw (fun h => by rw [HOT.out] at h; cases h)
end Go.Proofs.YtchmiiclogmheaaDoor.C2
