/-
  The reference's net: contracts of Take and Lose.
-/
import Derived.Test.YtfhlfklgngpklaaR4
namespace Go.Proofs.Ytfhlfklgngpklaa
open Go.RowKit Go.Maps
def lz : Lt := ⟨⟨0, 0⟩, ⟨#[]⟩⟩
def RS.cut (R : RS) (i : Nat) : RS := { R with ls := R.ls.take i ++ R.ls.drop (i + 1) }
def rtE (R : RS) (p : Pr) (k : Int) : Int := if rfE R p k = 0 then (if upB R p.b = true then 0 else 191) else rfE R p k
def rtT (R : RS) (p : Pr) (k : Int) : ByteArray := if rtE R p k = 0 then (R.ls.getD (rfP R p k) lz).s else ⟨#[]⟩
def rtS (R : RS) (p : Pr) (k : Int) : RS := if rtE R p k = 0 then R.cut (rfP R p k) else R
def rlS (R : RS) (p : Pr) (k : Int) : RS := if rfE R p k = 0 then R.cut (rfP R p k) else R
section
variable {w w' : World} {r : Nat} {uv lv tv : Value} {R : RS} {D : Nat → Prop}
theorem rthen {w1 : World} (hb : Below w.heap.size w w1) {R' : RS} (k : RTo w1 w' r R' D) : RTo w w' r R' D := k.after (fun _ e => Or.inl e) (Fr.of hb)
set_option maxRecDepth 100000 in
set_option maxHeartbeats 1600000 in
theorem RLose_any (h : RK w r R D) (hl : R.ls.length ≤ 1000000) (p : Pr) (k : Int) :
    Calls Try.prog 29 #[.pointer (some ⟨r, 0, none⟩), .int .i64 p.a, .int .i64 p.b, .int .i64 k] w fun e w' => e = .returned (.int .i64 (rfE R p k)) ∧ RTo w w' r (rlS R p k) D := by
  have HK := Lib.hid h
  obtain ⟨uv, lv, tv, h, rfl⟩ := h
  have HF := Lib.hid (find_any h hl p k)
  unfold rlS
  by_cases hE : rfE R p k = 0
  · obtain ⟨hI, h0, hk, he, hlt⟩ := rf_place hE
    rw [if_pos hE]
    rw [hE] at HF ⊢
    clear he hk h0 hI
    generalize rfP R p k = i at *
    have HDR := Lib.hid (fun w1 (hb : Below w.heap.size w w1) => rdrop_any (h.on hb) hl i hlt)
    obtain ⟨x, y⟩ := p
    clear h hE
    go_enter Try.func29, Try.ntmps29
    go_wp2_with fail
    refine HF.out.mono ?_
    rintro e w2 ⟨rfl, hb2⟩
    have HB2 := Lib.hid hb2
    have HD := Lib.hid (HDR.out w2 hb2)
    clear hb2
    go_wp2_with fail
    refine HD.out.mono ?_
    rintro e w3 ⟨rfl, h3⟩
    have H3 := Lib.hid h3
    clear h3
    go_wp2_with fail
    go_ret
    exact ⟨rfl, rthen HB2.out H3.out⟩
  · rw [if_neg hE]
    obtain ⟨E, HE⟩ := named (rfE R p k)
    rw [HE.out] at HF hE ⊢
    have hE' : (E == 0) = false := by simp [hE]
    have hE2 : (E != 0) = true := by simp [hE]
    generalize rfP R p k = i at *
    obtain ⟨x, y⟩ := p
    clear h
    go_enter Try.func29, Try.ntmps29
    go_wp2_with fail
    refine HF.out.mono ?_
    rintro e w2 ⟨rfl, hb2⟩
    have HB2 := Lib.hid hb2
    clear hb2
    go_wp2_with fail
    go_ret
    exact ⟨rfl, HK.out.to HB2.out⟩
set_option maxRecDepth 100000 in
set_option maxHeartbeats 3200000 in
theorem RTake_any (h : RK w r R D) (hl : R.ls.length ≤ 1000000) (p : Pr) (k : Int) :
    Calls Try.prog 27 #[.pointer (some ⟨r, 0, none⟩), .int .i64 p.a, .int .i64 p.b, .int .i64 k] w fun e w' => e = .returned (.tuple #[.string (rtT R p k), .int .i64 (rtE R p k)]) ∧ RTo w w' r (rtS R p k) D := by
  have HK := Lib.hid h
  obtain ⟨uv, lv, tv, h, rfl⟩ := h
  have HF := Lib.hid (find_any h hl p k)
  unfold rtT rtS
  by_cases hE : rfE R p k = 0
  · obtain ⟨hI, h0, hk, he, hlt⟩ := rf_place hE
    have hT : rtE R p k = if upB R p.b = true then 0 else 191 := by unfold rtE; rw [if_pos hE]
    rw [hT]
    rw [hE] at HF
    clear he hk h0 hT hE
    generalize rfP R p k = i at *
    have HDR := Lib.hid (fun w1 (hb : Below w.heap.size w w1) => rdrop_any (h.on hb) hl i hlt)
    obtain ⟨m, hm⟩ := Int.eq_ofNat_of_zero_le hI.2.2.1
    have hmN : m < R.up.length := by have := hI.2.2.2.1; omega
    have HU : Hid (∀ w1, Below w.heap.size w w1 → ∃ g c, uv = .slice (some ⟨g, 0, none⟩) R.up.length c ∧ w1.cell? ⟨g, m, none⟩ = some (.bool (upB R p.b))) := Lib.hid (fun w1 hb => by
      obtain ⟨g, c, e1, _, e2⟩ := (h.on hb).upc p.b hI.2.2.1 hI.2.2.2.1
      rw [show p.b.toNat = m by omega] at e2
      exact ⟨g, c, e1, e2⟩)
    have HG : Hid (R.ls.getD i lz = R.ls[i]) := Lib.hid (by simp [List.getD, hlt])
    have HLT : Hid (∀ w1, Below w.heap.size w w1 → ∃ g c, lv = .slice (some ⟨g, 0, none⟩) R.ls.length c ∧ w1.cell? ⟨g, i * 3 + 2, none⟩ = some (.string (R.ls.getD i lz).s)) := Lib.hid (fun w1 hb => by
      obtain ⟨g, c, e1, _, _, e2⟩ := (h.on hb).letter i hlt
      rw [HG.out]
      exact ⟨g, c, e1, e2⟩)
    have HC : Hid (∀ w1, Below w.heap.size w w1 → w1.cell? ⟨r, 0, none⟩ = some uv ∧ w1.cell? ⟨r, 1, none⟩ = some lv) := Lib.hid (fun w1 hb => by
      obtain ⟨c0, c1, _, _⟩ := (cells4 (h.on hb).hd).1
      exact ⟨c0, c1⟩)
    clear h hI HG
    obtain ⟨N, HN⟩ := named R.up.length
    rw [HN.out] at hmN
    obtain ⟨L, HL⟩ := named R.ls.length
    rw [HL.out] at hlt
    generalize (R.ls.getD i lz).s = body at *
    obtain ⟨x, y⟩ := p
    have hm : y = (m : Int) := hm
    subst hm
    have HUU : Hid (upB R (m : Int) = upB R (⟨x, (m : Int)⟩ : Pr).b) := Lib.hid rfl
    cases hup : upB R (m : Int) with
    | false =>
      rw [show upB R (⟨x, (m : Int)⟩ : Pr).b = false from hup] at HU
      rw [show (if false = true then (0 : Int) else 191) = 191 from rfl, if_neg (by decide), if_neg (by decide)]
      go_enter Try.func27, Try.ntmps27
      go_wp2_with fail
      refine HF.out.mono ?_
      rintro e w2 ⟨rfl, hb2⟩
      have HB2 := Lib.hid hb2
      obtain ⟨gu, uc, hu, hcu⟩ := HU.out w2 hb2
      obtain ⟨c0, c1⟩ := HC.out w2 hb2
      rw [hu, HN.out] at c0
      clear hb2 hu c1
      go_wp2_with fail
      go_ret2
      exact ⟨rfl, HK.out.to HB2.out⟩
    | true =>
      rw [show upB R (⟨x, (m : Int)⟩ : Pr).b = true from hup] at HU
      rw [show (if true = true then (0 : Int) else 191) = 0 from rfl, if_pos rfl, if_pos rfl]
      go_enter Try.func27, Try.ntmps27
      go_wp2_with fail
      refine HF.out.mono ?_
      rintro e w2 ⟨rfl, hb2⟩
      have HB2 := Lib.hid hb2
      have HD := Lib.hid (HDR.out w2 hb2)
      obtain ⟨gu, uc, hu, hcu⟩ := HU.out w2 hb2
      obtain ⟨gl, lc, hlv, hcl⟩ := HLT.out w2 hb2
      obtain ⟨c0, c1⟩ := HC.out w2 hb2
      rw [hu, HN.out] at c0
      rw [hlv, HL.out] at c1
      clear hb2 hu hlv
      go_wp2_with fail
      refine HD.out.mono ?_
      rintro e w3 ⟨rfl, h3⟩
      have H3 := Lib.hid h3
      clear h3
      go_wp2_with fail
      go_ret2
      exact ⟨rfl, rthen HB2.out H3.out⟩
  · have hT : rtE R p k = rfE R p k := by unfold rtE; rw [if_neg hE]
    rw [hT]
    rw [if_neg hE, if_neg hE]
    clear hT
    obtain ⟨E, HE⟩ := named (rfE R p k)
    rw [HE.out] at HF hE ⊢
    have hE' : (E == 0) = false := by simp [hE]
    have hE2 : (E != 0) = true := by simp [hE]
    generalize rfP R p k = i at *
    obtain ⟨x, y⟩ := p
    clear h
    go_enter Try.func27, Try.ntmps27
    go_wp2_with fail
    refine HF.out.mono ?_
    rintro e w2 ⟨rfl, hb2⟩
    have HB2 := Lib.hid hb2
    clear hb2
    go_wp2_with fail
    go_ret2
    exact ⟨rfl, HK.out.to HB2.out⟩
end
end Go.Proofs.Ytfhlfklgngpklaa
