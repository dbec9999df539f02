/-
  The statement on frames found again answers true at every input; nothing that was there is turned.
-/
import Derived.Test.YtgcnpmjpdhgikaaDoorFrames
import Derived.Test.YtgcnpmjpdhgikaaDoorWorks
namespace Go.Proofs.YtgcnpmjpdhgikaaDoor
open Go.RowKit
/-- Frames one behind the other. -/
def catF (l : List (List UInt8)) : List UInt8 := (l.map frameD).flatten
theorem catF_cons (b : List UInt8) (l : List (List UInt8)) : catF (b :: l) = frameD b ++ catF l := rfl
theorem catF_snoc (l : List (List UInt8)) (b : List UInt8) : catF (l ++ [b]) = catF l ++ frameD b := by unfold catF; simp
theorem catF_len (l : List (List UInt8)) : l.length * 8 ≤ (catF l).length := by
  induction l with
  | nil => simp [catF]
  | cons b l ih => rw [catF_cons, List.length_append, frameD_len]; simp; omega
theorem frames_cat (rest : List UInt8) (hr : (bodyD rest).2 ≠ 0) (bs : List (List UInt8)) (hb : ∀ b ∈ bs, b.length ≤ 262144) : ∀ (f : Nat) (pre : List UInt8), bs.length < f → framesF f (pre ++ (catF bs ++ rest)) pre.length = (bs, pre.length + (catF bs).length) := by
  induction bs with
  | nil =>
    intro f pre hf
    have e : (pre ++ (catF [] ++ rest)).drop pre.length = rest := by simp [catF]
    rw [framesF_stop f (by rw [e]; exact hr)]
    simp [catF]
  | cons b bs ih =>
    intro f pre hf
    obtain ⟨f, rfl⟩ : ∃ g, f = g + 1 := ⟨f - 1, by omega⟩
    have e : (pre ++ (catF (b :: bs) ++ rest)).drop pre.length = frameD b ++ (catF bs ++ rest) := by rw [List.drop_left, catF_cons, List.append_assoc]
    have hbd := body_frame b (catF bs ++ rest) (hb b (by simp))
    rw [← e] at hbd
    rw [framesF_go f (by rw [hbd])]
    rw [hbd]
    have h := ih (fun x hx => hb x (by simp [hx])) f (pre ++ frameD b) (by simp at hf; omega)
    have e2 : (pre ++ frameD b) ++ (catF bs ++ rest) = pre ++ (catF (b :: bs) ++ rest) := by rw [catF_cons]; simp
    have e3 : (pre ++ frameD b).length = pre.length + 8 + b.length := by rw [List.length_append, frameD_len]; omega
    rw [e2, e3] at h
    dsimp only
    rw [h, catF_cons, List.length_append, frameD_len]
    refine Prod.ext rfl ?_
    show _ + _ = _ + _
    omega
/-- What the walks are told of a list of texts that came in. -/
structure Texts (w : World) (a : Option Addr) (n : Nat) (L : List (List UInt8)) (b o : Nat) : Prop where
  len : L.length = n
  addr : 0 < n → a = some ⟨b, o, none⟩
  cell : ∀ j, j < n → w.cell? ⟨b, o + j, none⟩ = some (.string ⟨(L.getD j []).toArray⟩)
theorem Texts.on {w w' : World} {a : Option Addr} {n : Nat} {L : List (List UInt8)} {b o : Nat} (h : Texts w a n L b o) (hb : Below w.heap.size w w') : Texts w' a n L b o :=
  ⟨h.len, h.addr, fun j hj => (hb.cell (p := ⟨b, o + j, none⟩) (World.block_lt_of_cell? w _ (h.cell j hj))).trans (h.cell j hj)⟩
theorem own_same {w w0 : World} {base : Nat} {v : Value} {bs : List (List UInt8)} {a : Option Addr} {n cap b o : Nat} (hown : OwnT w base v bs) (hl : Texts w0 a n bs b o) (hb : Below w0.heap.size w0 w) (hn : n ≤ 1000000000) :
    Calls Tryd.prog 25 #[v, .slice a n cap] w fun e w' => e = .returned (.bool true) ∧ Below w.heap.size w w' := by
  have hl' := hl.on hb
  have hlen := hl.len
  rcases hown.2 with ⟨h', h0⟩ | ⟨g, c, cur, h', hbs, hg, rest⟩
  · subst h'
    have hn0 : n = 0 := by omega
    subst hn0
    exact same_any none a 0 0 0 cap (fun _ => ⟨#[]⟩) (fun _ => ⟨#[]⟩) (by decide) (by decide) true (by simp) 0 0 0 0 (by omega) (by omega) w (by omega) (by omega)
  · subst h'
    have hc : ∀ j, j < bs.length → w.cell? ⟨g, 0 + j, none⟩ = some (.string ⟨(bs.getD j []).toArray⟩) := by
      intro j hj
      have h1 := World.ownsRow.cells hown (g := g) rfl j (.string ⟨(bs.getD j []).toArray⟩) (by
        unfold textsC
        simp [List.getElem?_eq_getElem hj, List.getD])
      have e1 : (⟨g, 0, none⟩ : Addr).add j = ⟨g, 0 + j, none⟩ := by
        simp [Addr.add]
        intro h; exact h.symm
      rw [← e1]; exact h1
    rw [hlen]
    rw [hlen] at hc
    exact same_any (some ⟨g, 0, none⟩) a n n c cap (fun j => ⟨(bs.getD j []).toArray⟩) (fun j => ⟨(bs.getD j []).toArray⟩) hn hn true (by simp) g 0 b o (fun _ => rfl) hl'.addr w hc hl'.cell
set_option maxHeartbeats 400000 in
theorem framed_out (a : Option Addr) (n cap : Nat) (A C : ByteArray) (hA : A.size ≤ 140737488351232) (hC : C.size ≤ 140737488351232) (hn : n ≤ 140737488351232) (h : 50 < n ∨ 262144 < A.size + C.size) (w : World) (hh : Halves w) :
    Calls Tryd.prog 7 #[.slice a n cap, .string A, .string C] w fun e w' => e = .returned (.bool true) ∧ Below w.heap.size w w' := by
  by_cases h50 : 50 < n
  · have h50' : (50 : Int) < n := by omega
    go_enter Tryd.func7, Tryd.ntmps7
    go_wp2_with fail
    refine (works_any _ hh).mono ?_
    rintro e w1 ⟨rfl, hb1⟩
    go_wp2_with fail
    go_ret
    exact ⟨rfl, hb1⟩
  · have h50' : ¬ (50 : Int) < n := by omega
    have hac : (262144 : Int) < (A.size : Int) + C.size := by omega
    clear h
    go_enter Tryd.func7, Tryd.ntmps7
    go_wp2_with fail
    refine (works_any _ hh).mono ?_
    rintro e w1 ⟨rfl, hb1⟩
    go_wp2_with fail
    go_ret
    exact ⟨rfl, hb1⟩
theorem str_cat (A B : ByteArray) : (A ++ B).data.toList = A.data.toList ++ B.data.toList := by simp
theorem str_cat_size (A B : ByteArray) : (A ++ B).size = A.size + B.size := by simp
/-- A frame is found wherever it stands. -/
theorem un_at (A C : ByteArray) (b : List UInt8) (hb : b.length ≤ 262144) (F : ByteArray) (hF : F.data.toList = frameD b) : unD ((A ++ F) ++ C).data.toList (A.size : Int) = .tuple #[.string ⟨b.toArray⟩, .int .i64 ((A.size : Int) + 8 + b.length), .agg #[.int .i64 0, .int .i64 0]] := by
  have e : (((A ++ F) ++ C).data.toList).drop A.size = frameD b ++ C.data.toList := by
    rw [str_cat, str_cat, hF, List.append_assoc, List.drop_append]
    simp
  have hbd := body_frame b C.data.toList hb
  rw [← e] at hbd
  have hl : A.size ≤ (((A ++ F) ++ C).data.toList).length := by rw [str_cat, str_cat]; simp
  rw [unD_ok hl (by rw [hbd]), hbd]
set_option maxHeartbeats 2000000 in
set_option maxRecDepth 100000 in
theorem framed_in (a : Option Addr) (n cap : Nat) (L : List (List UInt8)) (bk o : Nat) (A C : ByteArray) (hLs : ∀ j, j < n → (L.getD j []).length ≤ 9223372036854775807) (hn : n ≤ 50) (hac : A.size + C.size ≤ 262144) (w : World) (hl : Texts w a n L bk o) (hh : Halves w) :
    Calls Tryd.prog 7 #[.slice a n cap, .string A, .string C] w fun e w' => e = .returned (.bool true) ∧ Below w.heap.size w w' := by
  have h50' : ¬ (50 : Int) < n := by omega
  have hac' : ¬ (262144 : Int) < (A.size : Int) + C.size := by omega
  have HL := Lib.hid hl
  have HLS := Lib.hid hLs
  have hpos := hh.size
  have HH := Lib.hid hh
  clear hh hl hLs
  go_enter Tryd.func7, Tryd.ntmps7
  go_wp2_with fail
  refine (works_any _ HH.out).mono ?_
  rintro e w1 ⟨rfl, hb1⟩
  go_wp2_with fail
  go_loopw [7, 34] (fun all i wr => ∃ (k : Nat) (S : ByteArray), k ≤ n ∧ i = .int .i64 k ∧ all = .string S ∧ S.size ≤ 524296 ∧ Hid (S.data.toList = catF (L.take k) ∧ ∀ b ∈ L.take k, b.length ≤ 262144) ∧ Below w.heap.size w wr) (fun _ i _ => n - (intOf i).toNat)
  case atStart => exact ⟨0, ⟨#[]⟩, Nat.zero_le _, rfl, rfl, by decide, ⟨by simp [catF], by intro b hb; simp at hb⟩, hb1⟩
  case round =>
    obtain ⟨k, S, hk, rfl, rfl, hS, HS, hb⟩ := hrel
    have hsz := hb.size
    by_cases hlt : k < n
    · have c1 := (HL.out.on hb).cell k hlt
      have ha' := HL.out.addr (by omega)
      subst ha'
      have hbs := HLS.out k hlt
      have HTK : Hid (L.take (k + 1) = L.take k ++ [L.getD k []]) := by
        show _ = _
        have hkl : k < L.length := by rw [HL.out.len]; exact hlt
        rw [List.take_succ_eq_append_getElem hkl]
        simp [List.getD, List.getElem?_eq_getElem hkl]
      generalize L.getD k [] = B at *
      obtain ⟨bb, HB⟩ := named (⟨B.toArray⟩ : ByteArray)
      have HBD : Hid (bb.data.toList = B) := by show _ = _; rw [← HB.out]
      have HBS : Hid (bb.size = B.length) := by show _ = _; rw [← HB.out]; rfl
      have hbs' : bb.size ≤ 9223372036854775807 := by rw [HBS.out]; exact hbs
      rw [HB.out] at c1
      by_cases hlong : 262144 < bb.size
      · have hlong' : (262144 : Int) < bb.size := by omega
        go_wp2_with fail
        refine (frame_long bb hlong (by omega) _).mono ?_
        rintro e w2 ⟨rfl, rfl⟩
        go_wp2_with fail
        go_ret
        exact ⟨rfl, hb⟩
      · have hlong' : ¬ (262144 : Int) < bb.size := by omega
        go_wp2_with fail
        refine (frame_any bb (by omega) _ (HH.out.on hb hpos)).mono ?_
        rintro e w2 ⟨rfl, hb2⟩
        have hbw := hb.trans (hb2.mono hsz)
        clear hb2
        rw [HBD.out]
        obtain ⟨F, HF⟩ := named (⟨(frameD B).toArray⟩ : ByteArray)
        have HFD : Hid (F.data.toList = frameD B) := by show _ = _; rw [← HF.out]
        have HFS : Hid (F.size = bb.size + 8) := by show _ = _; rw [← HF.out, HBS.out]; exact frameD_len B
        have hF1 : F.size ≤ bb.size + 8 := by rw [HFS.out]; exact Nat.le_refl _
        rw [HF.out]
        by_cases hSl : 262144 < S.size
        · have hSl' : (262144 : Int) < S.size := by omega
          go_wp2_with fail
          go_ret
          exact ⟨rfl, hbw⟩
        · have hSl' : ¬ (262144 : Int) < S.size := by omega
          have HU := Lib.hid (un_at A C B (by rw [← HBS.out]; omega) F HFD.out)
          have hs1 : (A ++ F).size ≤ 600000 := by rw [str_cat_size]; omega
          have hs2 : ((A ++ F) ++ C).size ≤ 900000 := by rw [str_cat_size, str_cat_size]; omega
          have HEND : Hid ((A.size : Int) + 8 + B.length = (A.size : Int) + F.size) := by show _ = _; rw [HFS.out, HBS.out]; omega
          have hbeq : (bb.toList == bb.toList) = true := by rw [beq_iff_eq]
          have hs3 : S.size + F.size ≤ 524296 := by omega
          go_wp2_with fail
          refine (unframe_any _ _ (by omega) _ (HH.out.on hbw hpos)).mono ?_
          rintro e w3 ⟨rfl, hb3⟩
          rw [HU.out, HB.out, HEND.out]
          have hbw3 := hbw.trans (hb3.mono hbw.size)
          have hsz3 := hbw3.size
          clear hb3
          go_wp2_with fail
          refine ⟨⟨k + 1, S ++ F, by omega, by go_num, rfl, by rw [str_cat_size]; exact hs3, ⟨?_, ?_⟩, hbw3.alloc (by omega) _⟩, by simp [intOf]; omega⟩
          · rw [str_cat, HS.out.1, HTK.out, catF_snoc, HFD.out]
          · rw [HTK.out]
            intro b hb
            rcases List.mem_append.1 hb with h | h
            · exact HS.out.2 b h
            · have : b = B := by simpa using h
              rw [this, ← HBS.out]; omega
    · have hkn : k = n := by omega
      have HT : Hid (L.take k = L) := by show _ = _; rw [List.take_of_length_le (by rw [HL.out.len]; omega)]
      have hcat := HS.out
      rw [HT.out] at hcat
      have HL8 := catF_len L
      have HLn := HL.out.len
      have hSl : S.size = (catF L).length := by rw [← hcat.1]; simp
      have hf1 : Hid (framesF (S.size + 1) S.data.toList 0 = (L, S.size)) := by
        have h := frames_cat [] (by decide) L hcat.2 (S.size + 1) [] (by omega)
        rw [← hcat.1] at h
        have e : ([] : List UInt8) ++ (S.data.toList ++ []) = S.data.toList := by simp
        rw [e] at h
        show _ = _
        rw [show ([] : List UInt8).length = 0 from rfl] at h
        rw [h]; simp
      have hf2 : Hid ((framesF ((S ++ (⟨#[255, 255, 255, 255]⟩ : ByteArray)).size + 1) (S ++ (⟨#[255, 255, 255, 255]⟩ : ByteArray)).data.toList 0).1 = L) := by
        have h := frames_cat [255, 255, 255, 255] (by decide) L hcat.2 ((S ++ (⟨#[255, 255, 255, 255]⟩ : ByteArray)).size + 1) [] (by rw [str_cat_size]; omega)
        rw [← hcat.1] at h
        have e : ([] : List UInt8) ++ (S.data.toList ++ [255, 255, 255, 255]) = (S ++ (⟨#[255, 255, 255, 255]⟩ : ByteArray)).data.toList := by rw [str_cat]; simp
        rw [e, show ([] : List UInt8).length = 0 from rfl] at h
        show _ = _
        rw [h]
      clear hcat hSl HL8 HLn
      have h255 : (S ++ (⟨#[255, 255, 255, 255]⟩ : ByteArray)).size ≤ 600000 := by rw [str_cat_size]; show S.size + 4 ≤ _; omega
      have h255' : (⟨#[255, 255, 255, 255]⟩ : ByteArray).size ≤ 4 := Nat.le_refl 4
      have HF1 := frames_any S (by omega) wr (HH.out.on hb hpos)
      rw [hf1.out] at HF1
      have HF1' := Lib.hid HF1
      clear HF1
      go_wp2_with fail
      refine HF1'.out.mono ?_
      rintro e w2 ⟨v2, rfl, hown2, hb2⟩
      have hbw := hb.trans (hb2.mono hb.size)
      have HO2 := Lib.hid hown2
      clear hown2 hb2
      go_wp2_with fail
      refine (frames_any _ (by omega) _ (HH.out.on hbw hpos)).mono ?_
      rintro e w3 ⟨v3, rfl, hown3, hb3⟩
      rw [hf2.out] at hown3
      have HO3 := Lib.hid hown3
      have HO2' : Hid (OwnT w3 wr.heap.size v2 L) := HO2.out.on hb3
      have hbw3 := hbw.trans (hb3.mono hbw.size)
      clear hown3 hb3
      generalize (framesF ((S ++ (⟨#[255, 255, 255, 255]⟩ : ByteArray)).size + 1) (S ++ (⟨#[255, 255, 255, 255]⟩ : ByteArray)).data.toList 0).2 = e3 at *
      have heq : ((S.size : Int) == (S.size : Int)) = true := by rw [beq_iff_eq]
      go_wp2_with fail
      refine (own_same HO2'.out HL.out hbw3 (by omega)).mono ?_
      rintro e w4 ⟨rfl, hb4⟩
      have HO4 : Hid (OwnT w4 w2.heap.size v3 L) := HO3.out.on hb4
      have hbw4 := hbw3.trans (hb4.mono hbw3.size)
      clear hb4
      go_wp2_with fail
      refine (own_same HO4.out HL.out hbw4 (by omega)).mono ?_
      rintro e w5 ⟨rfl, hb5⟩
      go_wp2_with fail
      go_ret
      exact ⟨rfl, hbw4.trans (hb5.mono hbw4.size)⟩
end Go.Proofs.YtgcnpmjpdhgikaaDoor
