/-
  Contract of (*queue).put.
-/
import Derived.Test.YtpmjbeiclmllmaaGreatNHFrame
import Derived.BigRegion
namespace Go.Proofs.YtpmjbeiclmllmaaGreat.N5.Hp
open Go.RowKit
set_option maxRecDepth 100000 in
set_option maxHeartbeats 1600000 in
theorem put_any {w : World} {h p : Nat} {v : Value} {n : Nat} {ms : List M} {pl : List Int} (r : Rep w h p v n ms pl) (k : Nat) (hk : k < ms.length) (m : M) (hm : m.id < n) (hl : ms.length ≤ 16384) :
    Calls Tryz.prog 161 #[.pointer (some ⟨h, 0, none⟩), .int .i64 k, .agg #[.int .i64 m.id, .int .u64 m.key]] w fun e w' => e = .returned (.tuple #[]) ∧ Rep w' h p v n (ms.set k m) (pl.set m.id (k + 1)) ∧ Fr (Dof h p v) w w' := by
  obtain ⟨g, c, rfl, hc1, hg1, hc2⟩ := own_shape r.own (by omega)
  obtain ⟨⟨c0, c1, c2⟩, f0, f1, f2⟩ := cells3 r.hd
  obtain ⟨⟨d0, d1⟩, e0, e1⟩ := r.member k hk
  obtain ⟨p0, q0⟩ := r.place m.id hm
  have s0 := lt_of_block r.hd
  have s1 := lt_of_block r.pb
  have n1 : g ≠ h := fun e => r.hv (by rw [e]; rfl)
  have n2 : g ≠ p := fun e => r.pv (by rw [e]; rfl)
  have n3 := r.hp
  have R1 := Lib.hid (r.setM k m hk)
  have F1 := Lib.hid (((Fr.refl (Dof h p (.slice (some ⟨g, 0, none⟩) ms.length c)) w).setCell ⟨g, k * 2, none⟩ (.int .i64 m.id) (Or.inl (Or.inr (Or.inr rfl)))).setCell ⟨g, k * 2 + 1, none⟩ (.int .u64 m.key) (Or.inl (Or.inr (Or.inr rfl))))
  go_enter Tryz.func161, Tryz.ntmps161
  go_wp2_with fail
  go_region
  go_wp2_with fail
  go_region
  go_wp2_with fail
  go_end0
  exact ⟨rfl, (((R1.out.setP m.id ((k : Int) + 1)).alloc _).drew).drew, (((F1.out.setCell ⟨p, m.id, none⟩ _ (Or.inl (Or.inr (Or.inl rfl)))).alloc _).drew).drew⟩
end Go.Proofs.YtpmjbeiclmllmaaGreat.N5.Hp
