/-
  A call of both nets: Set. A call of both nets: Send. A call of both nets: Copy. A call of both nets: Lose.
-/
import Derived.Test.YtfhlfklgngpklaaS7
import Derived.Deep.RegionHeld3
namespace Go.Proofs.Ytfhlfklgngpklaa
open Go.RowKit Go.Maps
section
variable {w w' : World} {n r : Nat} {P D : Nat → Prop} {S : NS} {R : RS} {c : Nat}
theorem bx_pto {W W1 : World} {S' : NS} {R' : RS} {g : Nat} {o : Obj} (h : W.heap[g]? = some o) (hp : ¬ P g) (hg : ¬ D g) (f : PTo W W1 n r S' R' P D) : W1.heap[g]? = some o := by
  obtain ⟨_, _, _, _, _, _, _, f⟩ := f
  exact (f.block g (lt_of_block h) (fun h => h.elim hp hg)).trans h
set_option maxRecDepth 100000 in
set_option maxHeartbeats 12800000 in
theorem step_send (hd : NT w n P S) (hr : RK w r R D) (hj : ∀ k, P k → ¬ D k) (h : Rel S R c) (hc : c ≤ 300) (x : Ac) (hk : amg x.kd 9 = 0) :
    Calls Try.prog 11 #[.pointer (some ⟨n, 0, none⟩), .pointer (some ⟨r, 0, none⟩), .agg #[.int .i64 x.kd, .int .i64 x.fr, .int .i64 x.to_, .int .i64 x.k, .string x.s]] w fun e w' => e = .returned (.bool true) ∧ PTo w w' n r (sdS S ⟨x.fr, x.to_⟩ x.s) (rsS R ⟨x.fr, x.to_⟩ x.s) P D := by
  have HR0 := Lib.hid ((h.b.send h.sh ⟨x.fr, x.to_⟩ x.s).1)
  have HRI : Hid (Rising S.tm) := Lib.hid (by rw [h.t.tm]; exact srt_rising _)
  have hl : R.ls.length ≤ 999999 := by have := h.few.1; omega
  have hl2 : R.tm.length ≤ 999999 := by have := h.few.2; omega
  obtain ⟨kd, fr, to_, k, s⟩ := x
  have HA := Lib.hid (fun W : World => among_any kd 9 (by omega) (by omega) W)
  rw [show amg kd 9 = 0 from hk] at HA
  obtain ⟨E, HE⟩ := named (sdE S ⟨fr, to_⟩ s)
  have HR : Hid (rsE R ⟨fr, to_⟩ s = E) := Lib.hid (HR0.out.trans HE.out)
  have HDK := Lib.hid hd
  have HRK := Lib.hid hr
  have HJ := Lib.hid hj
  have hb0 : Below w.heap.size w (w.alloc (.cells #[.int .i64 kd, .int .i64 fr, .int .i64 to_, .int .i64 k, .string s] 33)) := (Below.refl _ _).alloc (Nat.le_refl _) _
  have HB0 := Lib.hid hb0
  have HBX := Lib.hid (heap_top w (.cells #[.int .i64 kd, .int .i64 fr, .int .i64 to_, .int .i64 k, .string s] 33))
  obtain ⟨q0, q1, q2, q3, q4⟩ := cells5 HBX.out
  clear hd hr hj hk hb0 h HR0 hc
  go_enter Try.func11, Try.ntmps11
  go_wp2_with fail
  refine (HA.out _).mono ?_
  rintro e w1 ⟨rfl, rfl⟩
  go_wp2_with fail
  have HOG : Hid (¬ P w.heap.size) := fun h => by have := NT.lt HDK.out h; omega
  have HDG : Hid (¬ D w.heap.size) := fun h => by have := HRK.out.lt _ h; omega
  have HX := Lib.hid (both (E := .int .i64 E) (ap := #[.pointer (some ⟨n, 0, none⟩), .int .i64 fr, .int .i64 to_, .string s]) (ar := #[.pointer (some ⟨r, 0, none⟩), .int .i64 fr, .int .i64 to_, .string s]) (HDK.out.on HB0.out) (HRK.out.on HB0.out) HJ.out (fun W h => by obtain ⟨_, _, _, _, _, _, h⟩ := h; have := Send_any h ⟨fr, to_⟩ s; rw [HE.out] at this; exact this) (fun W h => by have := RSend_any h hl ⟨fr, to_⟩ s; rw [HR.out] at this; exact this))
  generalize hW0 : w.alloc (.cells #[.int .i64 kd, .int .i64 fr, .int .i64 to_, .int .i64 k, .string s] 33) = W0 at *
  clear HA hW0 HE HR hl hl2 HRI
  go_region_held3 (fun w' : World => w'.cell? ⟨w.heap.size, 0, none⟩ = some (.int .i64 kd) ∧ w'.cell? ⟨w.heap.size, 1, none⟩ = some (.int .i64 fr) ∧ w'.cell? ⟨w.heap.size, 2, none⟩ = some (.int .i64 to_) ∧ w'.cell? ⟨w.heap.size, 3, none⟩ = some (.int .i64 k) ∧ w'.cell? ⟨w.heap.size, 4, none⟩ = some (.string s)) (first | exact ⟨y0, y1, y2, y3, y4⟩ | exact ⟨x0, x1, x2, x3, x4⟩ | exact ⟨q0, q1, q2, q3, q4⟩ | go_keep) (first
    | (go_at_call 26; refine (HX.out.2.1 _ HT.out _ (by first | exact Below.refl _ _ | exact ⟨rfl, rfl, rfl, Nat.le_refl _, fun _ _ => rfl⟩)).mono ?_; rintro e w4 ⟨rfl, h4⟩; have HF := Lib.hid h4; obtain ⟨y0, y1, y2, y3, y4⟩ := cells5 (bx_pto HBX.out HOG.out HDG.out h4); clear h4)
    | (go_at_call 14; refine (HX.out.2.2.2 _ HTR.out _ (by first | exact Below.refl _ _ | exact ⟨rfl, rfl, rfl, Nat.le_refl _, fun _ _ => rfl⟩)).mono ?_; rintro e w4 ⟨rfl, h4⟩; have HF := Lib.hid h4; obtain ⟨y0, y1, y2, y3, y4⟩ := cells5 (bx_pto HBX.out HOG.out HDG.out h4); clear h4)
    | (go_at_call 14; refine (HX.out.1 _ (by first | exact Below.refl _ _ | exact ⟨rfl, rfl, rfl, Nat.le_refl _, fun _ _ => rfl⟩)).mono ?_; rintro e w3 ⟨rfl, h3⟩; have HT := Lib.hid h3; obtain ⟨x0, x1, x2, x3, x4⟩ := cells5 (bx_to HBX.out HOG.out h3); clear h3)
    | (go_at_call 26; refine (HX.out.2.2.1 _ (by first | exact Below.refl _ _ | exact ⟨rfl, rfl, rfl, Nat.le_refl _, fun _ _ => rfl⟩)).mono ?_; rintro e w3 ⟨rfl, h3⟩; have HTR := Lib.hid h3; obtain ⟨x0, x1, x2, x3, x4⟩ := cells5 (bx_rto HBX.out HDG.out h3); clear h3))
  all_goals
    go_wp2_with fail
    go_ret
    exact ⟨rfl, (HF.out.same (by first | exact Below.refl _ _ | exact ⟨rfl, rfl, rfl, Nat.le_refl _, fun _ _ => rfl⟩)).after HB0.out⟩
end
end Go.Proofs.Ytfhlfklgngpklaa
namespace Go.Proofs.Ytfhlfklgngpklaa
open Go.RowKit Go.Maps
section
variable {w w' : World} {n r : Nat} {P D : Nat → Prop} {S : NS} {R : RS} {c : Nat}
set_option maxRecDepth 100000 in
set_option maxHeartbeats 12800000 in
theorem step_copy (hd : NT w n P S) (hr : RK w r R D) (hj : ∀ k, P k → ¬ D k) (h : Rel S R c) (hc : c ≤ 300) (x : Ac) (hk : amg x.kd 9 = 2) :
    Calls Try.prog 11 #[.pointer (some ⟨n, 0, none⟩), .pointer (some ⟨r, 0, none⟩), .agg #[.int .i64 x.kd, .int .i64 x.fr, .int .i64 x.to_, .int .i64 x.k, .string x.s]] w fun e w' => e = .returned (.bool true) ∧ PTo w w' n r (cpS S ⟨x.fr, x.to_⟩ x.k) (rcS R ⟨x.fr, x.to_⟩ x.k) P D := by
  have HR0 := Lib.hid ((h.b.copy h.sh ⟨x.fr, x.to_⟩ x.k).1)
  have HRI : Hid (Rising S.tm) := Lib.hid (by rw [h.t.tm]; exact srt_rising _)
  have hl : R.ls.length ≤ 999999 := by have := h.few.1; omega
  have hl2 : R.tm.length ≤ 999999 := by have := h.few.2; omega
  obtain ⟨kd, fr, to_, k, s⟩ := x
  have HA := Lib.hid (fun W : World => among_any kd 9 (by omega) (by omega) W)
  rw [show amg kd 9 = 2 from hk] at HA
  obtain ⟨E, HE⟩ := named (cpE S ⟨fr, to_⟩ k)
  have HR : Hid (rcE R ⟨fr, to_⟩ k = E) := Lib.hid (HR0.out.trans HE.out)
  have HDK := Lib.hid hd
  have HRK := Lib.hid hr
  have HJ := Lib.hid hj
  have hb0 : Below w.heap.size w (w.alloc (.cells #[.int .i64 kd, .int .i64 fr, .int .i64 to_, .int .i64 k, .string s] 33)) := (Below.refl _ _).alloc (Nat.le_refl _) _
  have HB0 := Lib.hid hb0
  have HBX := Lib.hid (heap_top w (.cells #[.int .i64 kd, .int .i64 fr, .int .i64 to_, .int .i64 k, .string s] 33))
  obtain ⟨q0, q1, q2, q3, q4⟩ := cells5 HBX.out
  clear hd hr hj hk hb0 h HR0 hc
  go_enter Try.func11, Try.ntmps11
  go_wp2_with fail
  refine (HA.out _).mono ?_
  rintro e w1 ⟨rfl, rfl⟩
  go_wp2_with fail
  have HOG : Hid (¬ P w.heap.size) := fun h => by have := NT.lt HDK.out h; omega
  have HDG : Hid (¬ D w.heap.size) := fun h => by have := HRK.out.lt _ h; omega
  have HX := Lib.hid (both (E := .int .i64 E) (ap := #[.pointer (some ⟨n, 0, none⟩), .int .i64 fr, .int .i64 to_, .int .i64 k]) (ar := #[.pointer (some ⟨r, 0, none⟩), .int .i64 fr, .int .i64 to_, .int .i64 k]) (HDK.out.on HB0.out) (HRK.out.on HB0.out) HJ.out (fun W h => by obtain ⟨_, _, _, _, _, _, h⟩ := h; have := Copy_any h ⟨fr, to_⟩ k; rw [HE.out] at this; exact this) (fun W h => by have := RCopy_any h hl ⟨fr, to_⟩ k; rw [HR.out] at this; exact this))
  generalize hW0 : w.alloc (.cells #[.int .i64 kd, .int .i64 fr, .int .i64 to_, .int .i64 k, .string s] 33) = W0 at *
  clear HA hW0 HE HR hl hl2 HRI
  go_region_held3 (fun w' : World => w'.cell? ⟨w.heap.size, 0, none⟩ = some (.int .i64 kd) ∧ w'.cell? ⟨w.heap.size, 1, none⟩ = some (.int .i64 fr) ∧ w'.cell? ⟨w.heap.size, 2, none⟩ = some (.int .i64 to_) ∧ w'.cell? ⟨w.heap.size, 3, none⟩ = some (.int .i64 k) ∧ w'.cell? ⟨w.heap.size, 4, none⟩ = some (.string s)) (first | exact ⟨y0, y1, y2, y3, y4⟩ | exact ⟨x0, x1, x2, x3, x4⟩ | exact ⟨q0, q1, q2, q3, q4⟩ | go_keep) (first
    | (go_at_call 28; refine (HX.out.2.1 _ HT.out _ (by first | exact Below.refl _ _ | exact ⟨rfl, rfl, rfl, Nat.le_refl _, fun _ _ => rfl⟩)).mono ?_; rintro e w4 ⟨rfl, h4⟩; have HF := Lib.hid h4; obtain ⟨y0, y1, y2, y3, y4⟩ := cells5 (bx_pto HBX.out HOG.out HDG.out h4); clear h4)
    | (go_at_call 15; refine (HX.out.2.2.2 _ HTR.out _ (by first | exact Below.refl _ _ | exact ⟨rfl, rfl, rfl, Nat.le_refl _, fun _ _ => rfl⟩)).mono ?_; rintro e w4 ⟨rfl, h4⟩; have HF := Lib.hid h4; obtain ⟨y0, y1, y2, y3, y4⟩ := cells5 (bx_pto HBX.out HOG.out HDG.out h4); clear h4)
    | (go_at_call 15; refine (HX.out.1 _ (by first | exact Below.refl _ _ | exact ⟨rfl, rfl, rfl, Nat.le_refl _, fun _ _ => rfl⟩)).mono ?_; rintro e w3 ⟨rfl, h3⟩; have HT := Lib.hid h3; obtain ⟨x0, x1, x2, x3, x4⟩ := cells5 (bx_to HBX.out HOG.out h3); clear h3)
    | (go_at_call 28; refine (HX.out.2.2.1 _ (by first | exact Below.refl _ _ | exact ⟨rfl, rfl, rfl, Nat.le_refl _, fun _ _ => rfl⟩)).mono ?_; rintro e w3 ⟨rfl, h3⟩; have HTR := Lib.hid h3; obtain ⟨x0, x1, x2, x3, x4⟩ := cells5 (bx_rto HBX.out HDG.out h3); clear h3))
  all_goals
    go_wp2_with fail
    go_ret
    exact ⟨rfl, (HF.out.same (by first | exact Below.refl _ _ | exact ⟨rfl, rfl, rfl, Nat.le_refl _, fun _ _ => rfl⟩)).after HB0.out⟩
end
end Go.Proofs.Ytfhlfklgngpklaa
namespace Go.Proofs.Ytfhlfklgngpklaa
open Go.RowKit Go.Maps
section
variable {w w' : World} {n r : Nat} {P D : Nat → Prop} {S : NS} {R : RS} {c : Nat}
set_option maxRecDepth 100000 in
set_option maxHeartbeats 12800000 in
theorem step_lose (hd : NT w n P S) (hr : RK w r R D) (hj : ∀ k, P k → ¬ D k) (h : Rel S R c) (hc : c ≤ 300) (x : Ac) (hk : amg x.kd 9 = 3) :
    Calls Try.prog 11 #[.pointer (some ⟨n, 0, none⟩), .pointer (some ⟨r, 0, none⟩), .agg #[.int .i64 x.kd, .int .i64 x.fr, .int .i64 x.to_, .int .i64 x.k, .string x.s]] w fun e w' => e = .returned (.bool true) ∧ PTo w w' n r (loS S ⟨x.fr, x.to_⟩ x.k) (rlS R ⟨x.fr, x.to_⟩ x.k) P D := by
  have HR0 := Lib.hid ((h.b.lose ⟨x.fr, x.to_⟩ x.k).1)
  have HRI : Hid (Rising S.tm) := Lib.hid (by rw [h.t.tm]; exact srt_rising _)
  have hl : R.ls.length ≤ 999999 := by have := h.few.1; omega
  have hl2 : R.tm.length ≤ 999999 := by have := h.few.2; omega
  obtain ⟨kd, fr, to_, k, s⟩ := x
  have HA := Lib.hid (fun W : World => among_any kd 9 (by omega) (by omega) W)
  rw [show amg kd 9 = 3 from hk] at HA
  obtain ⟨E, HE⟩ := named (loE S ⟨fr, to_⟩ k)
  have HR : Hid (rfE R ⟨fr, to_⟩ k = E) := Lib.hid (HR0.out.trans HE.out)
  have HDK := Lib.hid hd
  have HRK := Lib.hid hr
  have HJ := Lib.hid hj
  have hb0 : Below w.heap.size w (w.alloc (.cells #[.int .i64 kd, .int .i64 fr, .int .i64 to_, .int .i64 k, .string s] 33)) := (Below.refl _ _).alloc (Nat.le_refl _) _
  have HB0 := Lib.hid hb0
  have HBX := Lib.hid (heap_top w (.cells #[.int .i64 kd, .int .i64 fr, .int .i64 to_, .int .i64 k, .string s] 33))
  obtain ⟨q0, q1, q2, q3, q4⟩ := cells5 HBX.out
  clear hd hr hj hk hb0 h HR0 hc
  go_enter Try.func11, Try.ntmps11
  go_wp2_with fail
  refine (HA.out _).mono ?_
  rintro e w1 ⟨rfl, rfl⟩
  go_wp2_with fail
  have HOG : Hid (¬ P w.heap.size) := fun h => by have := NT.lt HDK.out h; omega
  have HDG : Hid (¬ D w.heap.size) := fun h => by have := HRK.out.lt _ h; omega
  have HX := Lib.hid (both (E := .int .i64 E) (ap := #[.pointer (some ⟨n, 0, none⟩), .int .i64 fr, .int .i64 to_, .int .i64 k]) (ar := #[.pointer (some ⟨r, 0, none⟩), .int .i64 fr, .int .i64 to_, .int .i64 k]) (HDK.out.on HB0.out) (HRK.out.on HB0.out) HJ.out (fun W h => by obtain ⟨_, _, _, _, _, _, h⟩ := h; have := Lose_any h ⟨fr, to_⟩ k; rw [HE.out] at this; exact this) (fun W h => by have := RLose_any h (by omega) ⟨fr, to_⟩ k; rw [HR.out] at this; exact this))
  generalize hW0 : w.alloc (.cells #[.int .i64 kd, .int .i64 fr, .int .i64 to_, .int .i64 k, .string s] 33) = W0 at *
  clear HA hW0 HE HR hl hl2 HRI
  go_region_held3 (fun w' : World => w'.cell? ⟨w.heap.size, 0, none⟩ = some (.int .i64 kd) ∧ w'.cell? ⟨w.heap.size, 1, none⟩ = some (.int .i64 fr) ∧ w'.cell? ⟨w.heap.size, 2, none⟩ = some (.int .i64 to_) ∧ w'.cell? ⟨w.heap.size, 3, none⟩ = some (.int .i64 k) ∧ w'.cell? ⟨w.heap.size, 4, none⟩ = some (.string s)) (first | exact ⟨y0, y1, y2, y3, y4⟩ | exact ⟨x0, x1, x2, x3, x4⟩ | exact ⟨q0, q1, q2, q3, q4⟩ | go_keep) (first
    | (go_at_call 29; refine (HX.out.2.1 _ HT.out _ (by first | exact Below.refl _ _ | exact ⟨rfl, rfl, rfl, Nat.le_refl _, fun _ _ => rfl⟩)).mono ?_; rintro e w4 ⟨rfl, h4⟩; have HF := Lib.hid h4; obtain ⟨y0, y1, y2, y3, y4⟩ := cells5 (bx_pto HBX.out HOG.out HDG.out h4); clear h4)
    | (go_at_call 18; refine (HX.out.2.2.2 _ HTR.out _ (by first | exact Below.refl _ _ | exact ⟨rfl, rfl, rfl, Nat.le_refl _, fun _ _ => rfl⟩)).mono ?_; rintro e w4 ⟨rfl, h4⟩; have HF := Lib.hid h4; obtain ⟨y0, y1, y2, y3, y4⟩ := cells5 (bx_pto HBX.out HOG.out HDG.out h4); clear h4)
    | (go_at_call 18; refine (HX.out.1 _ (by first | exact Below.refl _ _ | exact ⟨rfl, rfl, rfl, Nat.le_refl _, fun _ _ => rfl⟩)).mono ?_; rintro e w3 ⟨rfl, h3⟩; have HT := Lib.hid h3; obtain ⟨x0, x1, x2, x3, x4⟩ := cells5 (bx_to HBX.out HOG.out h3); clear h3)
    | (go_at_call 29; refine (HX.out.2.2.1 _ (by first | exact Below.refl _ _ | exact ⟨rfl, rfl, rfl, Nat.le_refl _, fun _ _ => rfl⟩)).mono ?_; rintro e w3 ⟨rfl, h3⟩; have HTR := Lib.hid h3; obtain ⟨x0, x1, x2, x3, x4⟩ := cells5 (bx_rto HBX.out HDG.out h3); clear h3))
  all_goals
    go_wp2_with fail
    go_ret
    exact ⟨rfl, (HF.out.same (by first | exact Below.refl _ _ | exact ⟨rfl, rfl, rfl, Nat.le_refl _, fun _ _ => rfl⟩)).after HB0.out⟩
end
end Go.Proofs.Ytfhlfklgngpklaa
namespace Go.Proofs.Ytfhlfklgngpklaa
open Go.RowKit Go.Maps
section
variable {w w' : World} {n r : Nat} {P D : Nat → Prop} {S : NS} {R : RS} {c : Nat}
set_option maxRecDepth 100000 in
set_option maxHeartbeats 12800000 in
theorem step_set (hd : NT w n P S) (hr : RK w r R D) (hj : ∀ k, P k → ¬ D k) (h : Rel S R c) (hc : c ≤ 300) (x : Ac) (hk : amg x.kd 9 = 7) :
    Calls Try.prog 11 #[.pointer (some ⟨n, 0, none⟩), .pointer (some ⟨r, 0, none⟩), .agg #[.int .i64 x.kd, .int .i64 x.fr, .int .i64 x.to_, .int .i64 x.k, .string x.s]] w fun e w' => e = .returned (.bool true) ∧ PTo w w' n r (seS S x.fr x.k x.to_) (rzS R x.fr x.k x.to_) P D := by
  have HR0 := Lib.hid ((Rel.set_ h.b h.t (by have := h.few.2; omega) x.fr x.k x.to_).1)
  have HRI : Hid (Rising S.tm) := Lib.hid (by rw [h.t.tm]; exact srt_rising _)
  have hl : R.ls.length ≤ 999999 := by have := h.few.1; omega
  have hl2 : R.tm.length ≤ 999999 := by have := h.few.2; omega
  obtain ⟨kd, fr, to_, k, s⟩ := x
  have HA := Lib.hid (fun W : World => among_any kd 9 (by omega) (by omega) W)
  rw [show amg kd 9 = 7 from hk] at HA
  obtain ⟨E, HE⟩ := named (seE S fr k)
  have HR : Hid (rzE R fr k = E) := Lib.hid (HR0.out.trans HE.out)
  have HDK := Lib.hid hd
  have HRK := Lib.hid hr
  have HJ := Lib.hid hj
  have hb0 : Below w.heap.size w (w.alloc (.cells #[.int .i64 kd, .int .i64 fr, .int .i64 to_, .int .i64 k, .string s] 33)) := (Below.refl _ _).alloc (Nat.le_refl _) _
  have HB0 := Lib.hid hb0
  have HBX := Lib.hid (heap_top w (.cells #[.int .i64 kd, .int .i64 fr, .int .i64 to_, .int .i64 k, .string s] 33))
  obtain ⟨q0, q1, q2, q3, q4⟩ := cells5 HBX.out
  clear hd hr hj hk hb0 h HR0 hc
  go_enter Try.func11, Try.ntmps11
  go_wp2_with fail
  refine (HA.out _).mono ?_
  rintro e w1 ⟨rfl, rfl⟩
  go_wp2_with fail
  have HOG : Hid (¬ P w.heap.size) := fun h => by have := NT.lt HDK.out h; omega
  have HDG : Hid (¬ D w.heap.size) := fun h => by have := HRK.out.lt _ h; omega
  have HX := Lib.hid (both (E := .int .i64 E) (ap := #[.pointer (some ⟨n, 0, none⟩), .int .i64 fr, .int .i64 k, .int .i64 to_]) (ar := #[.pointer (some ⟨r, 0, none⟩), .int .i64 fr, .int .i64 k, .int .i64 to_]) (HDK.out.on HB0.out) (HRK.out.on HB0.out) HJ.out (fun W h => by obtain ⟨_, _, _, _, _, _, h⟩ := h; have := Set_any h HRI.out fr k to_; rw [HE.out] at this; exact this) (fun W h => by have := RSet_any h hl2 fr k to_; rw [HR.out] at this; exact this))
  generalize hW0 : w.alloc (.cells #[.int .i64 kd, .int .i64 fr, .int .i64 to_, .int .i64 k, .string s] 33) = W0 at *
  clear HA hW0 HE HR hl hl2 HRI
  go_region_held3 (fun w' : World => w'.cell? ⟨w.heap.size, 0, none⟩ = some (.int .i64 kd) ∧ w'.cell? ⟨w.heap.size, 1, none⟩ = some (.int .i64 fr) ∧ w'.cell? ⟨w.heap.size, 2, none⟩ = some (.int .i64 to_) ∧ w'.cell? ⟨w.heap.size, 3, none⟩ = some (.int .i64 k) ∧ w'.cell? ⟨w.heap.size, 4, none⟩ = some (.string s)) (first | exact ⟨y0, y1, y2, y3, y4⟩ | exact ⟨x0, x1, x2, x3, x4⟩ | exact ⟨q0, q1, q2, q3, q4⟩ | go_keep) (first
    | (go_at_call 34; refine (HX.out.2.1 _ HT.out _ (by first | exact Below.refl _ _ | exact ⟨rfl, rfl, rfl, Nat.le_refl _, fun _ _ => rfl⟩)).mono ?_; rintro e w4 ⟨rfl, h4⟩; have HF := Lib.hid h4; obtain ⟨y0, y1, y2, y3, y4⟩ := cells5 (bx_pto HBX.out HOG.out HDG.out h4); clear h4)
    | (go_at_call 23; refine (HX.out.2.2.2 _ HTR.out _ (by first | exact Below.refl _ _ | exact ⟨rfl, rfl, rfl, Nat.le_refl _, fun _ _ => rfl⟩)).mono ?_; rintro e w4 ⟨rfl, h4⟩; have HF := Lib.hid h4; obtain ⟨y0, y1, y2, y3, y4⟩ := cells5 (bx_pto HBX.out HOG.out HDG.out h4); clear h4)
    | (go_at_call 23; refine (HX.out.1 _ (by first | exact Below.refl _ _ | exact ⟨rfl, rfl, rfl, Nat.le_refl _, fun _ _ => rfl⟩)).mono ?_; rintro e w3 ⟨rfl, h3⟩; have HT := Lib.hid h3; obtain ⟨x0, x1, x2, x3, x4⟩ := cells5 (bx_to HBX.out HOG.out h3); clear h3)
    | (go_at_call 34; refine (HX.out.2.2.1 _ (by first | exact Below.refl _ _ | exact ⟨rfl, rfl, rfl, Nat.le_refl _, fun _ _ => rfl⟩)).mono ?_; rintro e w3 ⟨rfl, h3⟩; have HTR := Lib.hid h3; obtain ⟨x0, x1, x2, x3, x4⟩ := cells5 (bx_rto HBX.out HDG.out h3); clear h3))
  all_goals
    go_wp2_with fail
    go_ret
    exact ⟨rfl, (HF.out.same (by first | exact Below.refl _ _ | exact ⟨rfl, rfl, rfl, Nat.le_refl _, fun _ _ => rfl⟩)).after HB0.out⟩
end
end Go.Proofs.Ytfhlfklgngpklaa
