/-
  A region that draws its order and whose last operation waits for all others: it may be walked with an idle operation in that one's place, which is carried out behind it. The cells in memory, whole: rows that may be written, and what lies apart.
-/
import Derived.Test.YtgpaoiddjlpcmaaZAM
import Derived.Lib.OwnKind
import Derived.Deep.RegionHeld3
namespace Go.Proofs.Ytgpaoiddjlpcmaa
open Go.RowKit Go.Maps
theorem own_fr {D : Nat → Prop} {w w' : World} {base : Nat} {e : TypeId} {size : Nat} {v : Value} {k : Nat} {xs : List Value} (h : w.ownsRow base e size v k xs) (hf : Fr D w w') (hn : ∀ g, v.ownBlock = some g → ¬ D g) : w'.ownsRow base e size v k xs := by
  refine ⟨h.1, ?_⟩
  rcases h.2 with h' | ⟨g, c, cur, h1, h2, h3, h4⟩
  · exact Or.inl h'
  · exact Or.inr ⟨g, c, cur, h1, h2, (hf.block g (lt_of_block h3) (hn g (by rw [h1]; rfl))).trans h3, h4⟩
/-- A row of numbers that may be written. -/
def OwI (w : World) (g c : Nat) (l : List Int) : Prop := w.ownsRow 0 3 1 (.slice (some ⟨g, 0, none⟩) l.length c) l.length (cellsI l)
theorem OwI.lt {w : World} {g c : Nat} {l : List Int} (h : OwI w g c l) : g < w.heap.size := (World.ownsRow.lt h g rfl).2
theorem OwI.cell {w : World} {g c : Nat} {l : List Int} (h : OwI w g c l) {k : Nat} (hk : k < l.length) : w.cell? ⟨g, k, none⟩ = some (.int .i64 (l.getD k 0)) := by
  rw [World.ownsRow.cellAt h k (by omega), cellsI_getD l k hk]
theorem OwI.free {w : World} {g c : Nat} {l : List Int} (h : OwI w g c l) (k : Nat) : w.frozen? ⟨g, k, none⟩ = false := World.ownsRow.frozenAt h k
theorem OwI.fr {D : Nat → Prop} {w w' : World} {g c : Nat} {l : List Int} (h : OwI w g c l) (hf : Fr D w w') (hn : ¬ D g) : OwI w' g c l := own_fr h hf (fun g' e => by injection e with e; rw [← e]; exact hn)
theorem OwI.set {w : World} {g c : Nat} {l : List Int} (h : OwI w g c l) (k : Nat) (x : Int) : OwI (w.setCell ⟨g, k, none⟩ (.int .i64 x)) g c (l.set k x) := by
  have h1 := (World.ownsRow.stored h k (.int .i64 x)).1
  have e : (cellsI l).set k (.int .i64 x) = cellsI (l.set k x) := by
    unfold cellsI
    rw [List.map_set]
  rw [e] at h1
  unfold OwI
  rw [List.length_set]
  exact h1
theorem OwI.kind {w : World} {g c : Nat} {l : List Int} (h : OwI w g c l) : ∃ cs fz, w.heap[g]? = some (.cells cs 3 fz) := Lib.ownsRow_kind h g rfl
theorem OwI.ne {w : World} {g c b : Nat} {l : List Int} (h : OwI w g c l) {cs : Array Value} {t : TypeId} {fz : Nat × Nat} (hb : w.heap[b]? = some (.cells cs t fz)) (ht : t ≠ 3) : g ≠ b := fun e => by
  obtain ⟨cs', fz', h1⟩ := h.kind
  rw [e, hb] at h1
  injection h1 with h1
  injection h1 with _ h1 _
  exact ht h1
theorem MapI.kind {w : World} {b nn k : Nat} {F : Nat → Nat} (h : MapI w b nn k F) : ∃ es ck, w.heap[b]? = some (.map es ck) := by
  obtain ⟨D, ⟨es, ck, h1, _⟩, _⟩ := h
  exact ⟨es, ck, h1⟩
theorem MapI.ne {w : World} {b nn k b' : Nat} {F : Nat → Nat} (h : MapI w b nn k F) {cs : Array Value} {t : TypeId} {fz : Nat × Nat} (hb : w.heap[b']? = some (.cells cs t fz)) : b ≠ b' := fun e => by
  obtain ⟨es, ck, h1⟩ := h.kind
  rw [e, hb] at h1
  injection h1 with h1
  cases h1
/-- The cells, but labels, sizes and least vertices. -/
structure CX (w : World) (cb n k : Nat) (bd : Int) (lg lc sg sc eg ec bg pg fg : Nat) (mb nn : Nat → Nat) (rv : Nat → Value) (R : Nat → List Nat) (F : Nat → Nat → Nat) (Fi : Nat → M) : Prop where
  ob : w.heap[cb]? = some (cellsO bd n k lg lc sg sc eg ec bg n pg n fg n)
  be : TbV w bg n 25 rv
  ro : ∀ v, v < n → w.ownsRow 0 3 1 (rv v) (R v).length (cellsI (ints (R v)))
  pa : TbV w pg n 81 (fun v => .map (some (mb v)))
  mi : ∀ v, v < n → MapI w (mb v) (nn v) k (F v)
  ft : FT w fg n Fi
theorem CX.fr {D : Nat → Prop} {w w' : World} {cb n k : Nat} {bd : Int} {lg lc sg sc eg ec bg pg fg : Nat} {mb nn : Nat → Nat} {rv : Nat → Value} {R : Nat → List Nat} {F : Nat → Nat → Nat} {Fi : Nat → M} (h : CX w cb n k bd lg lc sg sc eg ec bg pg fg mb nn rv R F Fi) (hf : Fr D w w') (h0 : ¬ D cb) (h1 : ¬ D bg) (h2 : ¬ D pg) (h3 : ¬ D fg) (h4 : ∀ v, v < n → ¬ D (mb v)) (h5 : ∀ v, v < n → ∀ g, (rv v).ownBlock = some g → ¬ D g) : CX w' cb n k bd lg lc sg sc eg ec bg pg fg mb nn rv R F Fi :=
  ⟨(hf.block cb (lt_of_block h.ob) h0).trans h.ob, h.be.fr hf h1, fun v hv => own_fr (h.ro v hv) hf (h5 v hv), h.pa.fr hf h2, fun v hv => (h.mi v hv).fr hf (h4 v hv), TbV.fr h.ft hf h3⟩
theorem CX.on {w w' : World} {cb n k : Nat} {bd : Int} {lg lc sg sc eg ec bg pg fg : Nat} {mb nn : Nat → Nat} {rv : Nat → Value} {R : Nat → List Nat} {F : Nat → Nat → Nat} {Fi : Nat → M} (h : CX w cb n k bd lg lc sg sc eg ec bg pg fg mb nn rv R F Fi) (hb : Below w.heap.size w w') : CX w' cb n k bd lg lc sg sc eg ec bg pg fg mb nn rv R F Fi :=
  h.fr (D := fun _ => False) ⟨hb.os, hb.tape, hb.output, hb.size, fun j hj _ => hb.block j hj⟩ id id id id (fun _ _ => id) (fun _ _ _ _ => id)
theorem OwI.on {w w' : World} {g c : Nat} {l : List Int} (h : OwI w g c l) (hb : Below w.heap.size w w') : OwI w' g c l := own_on h hb
/-- A row of numbers that lies apart from all the others. -/
def Far (cb n bg pg fg : Nat) (mb : Nat → Nat) (rv : Nat → Value) (g : Nat) : Prop := g ≠ cb ∧ g ≠ bg ∧ g ≠ pg ∧ g ≠ fg ∧ ∀ v, v < n → mb v ≠ g ∧ (rv v).ownBlock ≠ some g
structure St (cb n k lg sg eg bg pg fg : Nat) (mb : Nat → Nat) (rv : Nat → Value) : Prop where
  n2 : n ≤ 1024
  k0 : 0 < k
  k2 : k ≤ 1024
  fl : Far cb n bg pg fg mb rv lg
  fs : Far cb n bg pg fg mb rv sg
  fe : Far cb n bg pg fg mb rv eg
  ls : lg ≠ sg
  le : lg ≠ eg
  se : sg ≠ eg
  fc : fg ≠ cb
  fb : fg ≠ bg
  fp : fg ≠ pg
  fr : ∀ v, v < n → (rv v).ownBlock ≠ some fg
  mc : ∀ v, v < n → mb v ≠ cb ∧ mb v ≠ bg ∧ mb v ≠ pg ∧ mb v ≠ fg ∧ ∀ u, u < n → (rv u).ownBlock ≠ some (mb v)
  mj : ∀ u v, u < n → v < n → mb u = mb v → u = v
theorem own_ne {w : World} {base size n b : Nat} {v : Value} {xs : List Value} (h : w.ownsRow base 3 size v n xs) {o : Obj} (hb : w.heap[b]? = some o) (ho : ∀ cs fz, o ≠ .cells cs 3 fz) : v.ownBlock ≠ some b := fun e => by
  obtain ⟨cs', fz', h1⟩ := Lib.ownsRow_kind h b e
  rw [hb] at h1
  injection h1 with h1
  exact ho _ _ h1
theorem St.of {w : World} {cb n k : Nat} {bd : Int} {lg lc sg sc eg ec bg pg fg : Nat} {mb nn : Nat → Nat} {rv : Nat → Value} {R : Nat → List Nat} {F : Nat → Nat → Nat} {Fi : Nat → M} {l1 l2 l3 : List Int} (h : CX w cb n k bd lg lc sg sc eg ec bg pg fg mb nn rv R F Fi) (h1 : OwI w lg lc l1) (h2 : OwI w sg sc l2) (h3 : OwI w eg ec l3) (hn : n ≤ 1024) (k0 : 0 < k) (k2 : k ≤ 1024) (ls : lg ≠ sg) (le : lg ≠ eg) (se : sg ≠ eg) (hr : ∀ v, v < n → (rv v).ownBlock ≠ some lg ∧ (rv v).ownBlock ≠ some sg ∧ (rv v).ownBlock ≠ some eg) (mj : ∀ u v, u < n → v < n → mb u = mb v → u = v) : St cb n k lg sg eg bg pg fg mb rv := by
  have o1 := h.ob
  have o2 : w.heap[bg]? = _ := h.be
  have o3 : w.heap[pg]? = _ := h.pa
  have o4 : w.heap[fg]? = _ := h.ft
  have nb : fg ≠ bg := fun e => by rw [e, o2] at o4; injection o4 with o4; injection o4 with _ o4 _; cases o4
  have np : fg ≠ pg := fun e => by rw [e, o3] at o4; injection o4 with o4; injection o4 with _ o4 _; cases o4
  have nc : fg ≠ cb := fun e => by rw [e, o1] at o4; injection o4 with o4; injection o4 with _ o4 _; cases o4
  have far : ∀ g c l, OwI w g c l → (∀ v, v < n → (rv v).ownBlock ≠ some g) → Far cb n bg pg fg mb rv g := fun g c l hg hq => by
    obtain ⟨cs, fz, hk⟩ := hg.kind
    exact ⟨hg.ne o1 (by decide), hg.ne o2 (by decide), hg.ne o3 (by decide), hg.ne o4 (by decide), fun v hv => ⟨(h.mi v hv).ne hk, hq v hv⟩⟩
  refine ⟨hn, k0, k2, far _ _ _ h1 (fun v hv => (hr v hv).1), far _ _ _ h2 (fun v hv => (hr v hv).2.1), far _ _ _ h3 (fun v hv => (hr v hv).2.2), ls, le, se, nc, nb, np, fun v hv => own_ne (h.ro v hv) o4 (fun cs fz e => by injection e with _ e _; cases e), fun v hv => ⟨(h.mi v hv).ne o1, (h.mi v hv).ne o2, (h.mi v hv).ne o3, (h.mi v hv).ne o4, fun u hu => ?_⟩, mj⟩
  obtain ⟨es, ck, hm⟩ := (h.mi v hv).kind
  exact own_ne (h.ro u hu) hm (fun cs fz e => by cases e)
theorem St.apt {cb n k lg sg eg bg pg fg : Nat} {mb : Nat → Nat} {rv : Nat → Value} (h : St cb n k lg sg eg bg pg fg mb rv) (hcp : pg ≠ cb) : Apt cb n lg sg eg pg fg mb :=
  ⟨h.fl.1, h.fs.1, h.fe.1, hcp, h.fc, h.fl.2.2.2.1, h.fs.2.2.2.1, h.fe.2.2.2.1, h.fp.symm, fun v hv => (h.mc v hv).1, fun v hv => (h.mc v hv).2.2.2.1⟩
theorem CX.cp {w : World} {cb n k : Nat} {bd : Int} {lg lc sg sc eg ec bg pg fg : Nat} {mb nn : Nat → Nat} {rv : Nat → Value} {R : Nat → List Nat} {F : Nat → Nat → Nat} {Fi : Nat → M} (h : CX w cb n k bd lg lc sg sc eg ec bg pg fg mb nn rv R F Fi) : pg ≠ cb := fun e => by
  have o1 := h.ob
  have o3 : w.heap[pg]? = _ := h.pa
  rw [e, o1] at o3
  injection o3 with o3
  injection o3 with _ o3 _
  cases o3
theorem getD_ints (L : List Nat) (v : Nat) : (ints L).getD v 0 = ((L.getD v 0 : Nat) : Int) := by
  rcases Nat.lt_or_ge v L.length with h | h
  · exact ints_getD h
  · have e1 : (ints L)[v]? = none := List.getElem?_eq_none (by rw [ints_len]; exact h)
    have e2 : L[v]? = none := List.getElem?_eq_none h
    unfold List.getD
    rw [e1, e2]
    rfl
theorem CX.cv {w : World} {cb n k : Nat} {bd : Int} {lg lc sg sc eg ec bg pg fg : Nat} {mb nn : Nat → Nat} {rv : Nat → Value} {R : Nat → List Nat} {F : Nat → Nat → Nat} {Fi : Nat → M} {L S : List Nat} {Le : List Int} (h : CX w cb n k bd lg lc sg sc eg ec bg pg fg mb nn rv R F Fi) (h1 : OwI w lg lc (ints L)) (h2 : OwI w sg sc (ints S)) (h3 : OwI w eg ec Le) (Ln : L.length = n) (Sn : S.length = k) (En : Le.length = k) (k0 : 0 < k) (k2 : k ≤ 1024) (lb : ∀ v, v < n → L.getD v 0 < k) (fb : ∀ v y, F v y ≤ 100000000) : CV w cb n k bd lg lc sg sc eg ec pg n (fun v => L.getD v 0) (fun y => S.getD y 0) (fun y => Le.getD y 0) mb nn F :=
  ⟨cellsO_hd h.ob h1.lt h2.lt h3.lt h.pa.lt, fun v hv => (h1.cell (by rw [ints_len]; omega)).trans (by rw [getD_ints]), fun v hv => h.pa.cell hv, h.mi, fun y hy => (h2.cell (by rw [ints_len]; omega)).trans (by rw [getD_ints]), fun y hy => h3.cell (by omega), k0, k2, lb, fb⟩
theorem ints_set (L : List Nat) (v x : Nat) : (ints L).set v (x : Int) = ints (L.set v x) := by unfold ints; rw [List.map_set]
/-- The counts, when a vertex has gone over from a label to another, at the neighbours that were gone through. -/
def mvF (F : Nat → Nat → Nat) (l : List Nat) (x fr : Nat) (t y : Nat) : Nat := F t y + (if y = x then l.count t else 0) - (if y = fr then l.count t else 0)
theorem mvF_nil (F : Nat → Nat → Nat) (x fr : Nat) : mvF F [] x fr = F := by funext t y; simp [mvF]
theorem mvF_far {F : Nat → Nat → Nat} {l : List Nat} {u x fr t : Nat} (h : t ≠ u) : mvF F (l ++ [u]) x fr t = mvF F l x fr t := by
  funext y
  have : (l ++ [u]).count t = l.count t := by rw [List.count_append]; simp [List.count_cons, List.count_nil]; exact fun e => h e.symm
  unfold mvF
  rw [this]
theorem mvF_at {F : Nat → Nat → Nat} {l : List Nat} {u x fr : Nat} (hne : x ≠ fr) (hc : l.count u + 1 ≤ F u fr) : mvF F (l ++ [u]) x fr u = updN (updN (mvF F l x fr u) x (mvF F l x fr u x + 1)) fr (mvF F l x fr u fr - 1) := by
  funext y
  have e : (l ++ [u]).count u = l.count u + 1 := by rw [List.count_append]; simp
  unfold mvF updN
  rw [e]
  by_cases h1 : y = fr
  · subst h1
    have h2 : ¬ y = x := fun e => hne e.symm
    simp [h2]
    omega
  · by_cases h2 : y = x
    · subst h2
      simp [h1]
      omega
    · simp [h1, h2]
theorem mvF_le {F : Nat → Nat → Nat} {l : List Nat} {x fr t y : Nat} : mvF F l x fr t y ≤ F t y + l.length := by
  have := List.count_le_length (a := t) (l := l)
  unfold mvF
  split <;> split <;> omega
end Go.Proofs.Ytgpaoiddjlpcmaa
namespace Go.Proofs.Ytgpaoiddjlpcmaa
open Go
/-- What is asked behind the region without its last operation. -/
def lastQ (P : Program) (o : Oper) (Q : Exit → Act → World → Prop) : Exit → Act → World → Prop
  | .normal, a, w => o.wp P a w (fun a' w' => Q .normal a' w') Q
  | e, a, w => Q e a w
/-- The idle operation. -/
def idle (o : Oper) : Oper := { o with op := .move (.const (.bool true)) }
section
variable {P : Program} {Q Q' : Exit → Act → World → Prop} {md : Region.Mode}
theorem wp_turn {o : Oper} {a : Act} {w : World} {K K' : Act → World → Prop} (hK : ∀ a w, K a w → K' a w) (hQ : ∀ e a w, e ≠ .normal → Q e a w → Q' e a w) (h : o.wp P a w K Q) : o.wp P a w K' Q' := by
  have hL : LetsOut Q → LetsOut Q' := fun ⟨a, w, h⟩ => ⟨a, w, hQ _ _ _ (by simp) h⟩
  unfold Oper.wp at *
  generalize (execOp a.eval o).run P w = r at *
  cases r with
  | ok n w' =>
    cases n <;> simp only [Oper.upon] at h ⊢ <;>
      first
        | exact hK _ _ h
        | exact Calls.mono h (fun e w'' he => by cases e <;> first | exact hK _ _ he | exact hL he | exact hQ _ _ _ (by simp) he)
        | exact Rows.mono h (fun _ _ he => hK _ _ he)
        | exact h
  | halt x w' => cases x <;> simp only [Oper.upon] at h ⊢ <;> first | exact hQ _ _ _ (by simp) h | exact h
theorem idle_run (o : Oper) (a : Act) (w : World) : (execOp a.eval (idle o)).run P w = .ok (.value (.bool true)) w := by
  simp [execOp, idle, Act.eval]
theorem idle_asks (o : Oper) (a : Act) (w : World) : ¬ (idle o).asks P a w := by
  intro h
  have h1 := h.1
  simp [execOp, idle, Act.eval] at h1
  cases (Array.not_mem_empty _ h1 : False)
/-- Every operation waits for earlier ones alone; the last one for all. -/
def lastOK (md : Region.Mode) (ops : Array Oper) (m : Nat) : Bool :=
  ops.size == m + 1 && (List.range ops.size).all (fun j => (ops[j]?).all (fun o => o.after.all (fun e => !Region.binds md e || decide (e.on < j)))) && ((ops[m]?).all (fun o => o.guard.isNone && o.dst.isNone && (List.range m).all (fun j => o.after.any (fun e => Region.binds md e && (e.on == j || (ops[e.on]?).any (fun o' => o'.after.any (fun e' => Region.binds md e' && e'.on == j)))))))
theorem ready_some {ops : Array Oper} {m : Nat} (hok : lastOK md ops m = true) {listed : Array Bool} : ∀ j, j < ops.size → listed.getD j true = false → (∀ i, i < j → listed.getD i false = true) → j ∈ Region.ready md ops listed := by
  intro j hj hl hb
  simp only [lastOK, Bool.and_eq_true, List.all_eq_true, List.mem_range] at hok
  refine mem_ready.2 ⟨hl, ops[j], by simp [hj], fun e he hbi => hb _ ?_⟩
  have := hok.1.2 j hj
  rw [Array.getElem?_eq_getElem hj] at this
  simp only [Option.all_some, Array.all_eq_true] at this
  obtain ⟨i, hi, rfl⟩ := Array.mem_iff_getElem.1 he
  have h := this i hi
  rw [hbi] at h
  simpa using h
theorem getD_set_same {l : Array Bool} {i : Nat} {b : Bool} (h : i < l.size) : (l.setIfInBounds i true).getD i b = true := by simp [h]
theorem getD_set_other {l : Array Bool} {i j : Nat} {b : Bool} (h : i ≠ j) : (l.setIfInBounds i true).getD j b = l.getD j b := by
  simp [h]
/-- Something may come up as long as something has not. -/
theorem ready_ne {ops : Array Oper} {m : Nat} (hok : lastOK md ops m = true) {listed : Array Bool} (hs : listed.size = ops.size) (j : Nat) (hj : j < ops.size) (hl : listed.getD j true = false) : Region.ready md ops listed ≠ [] := by
  induction j using Nat.strongRecOn with
  | ind j ih =>
    by_cases h : ∀ i, i < j → listed.getD i false = true
    · intro e
      have := ready_some hok j hj hl h
      rw [e] at this
      cases this
    · simp only [Classical.not_forall] at h
      obtain ⟨i, hi, hn⟩ := h
      refine ih i hi (by omega) ?_
      have hi' : i < listed.size := by omega
      simp [hi'] at hn ⊢
      exact hn
/-- What has come has all that it waits for. -/
def shutL (md : Region.Mode) (ops : Array Oper) (listed : Array Bool) : Prop := ∀ j oj, ops[j]? = some oj → listed.getD j false = true → ∀ e, e ∈ oj.after → Region.binds md e = true → listed.getD e.on false = true
theorem shutL_set {ops : Array Oper} {listed : Array Bool} {i : Nat} (h : shutL md ops listed) (hi : i ∈ Region.ready md ops listed) : shutL md ops (listed.setIfInBounds i true) := by
  obtain ⟨h1, o, h2, h3⟩ := mem_ready.1 hi
  have up : ∀ j, listed.getD j false = true → (listed.setIfInBounds i true).getD j false = true := fun j hj => by
    by_cases e : i = j
    · subst e
      have hs : i < listed.size := by
        by_cases c : i < listed.size
        · exact c
        · simp [c] at hj
      exact getD_set_same hs
    · rw [getD_set_other e]; exact hj
  intro j oj hj hl e he hb
  by_cases c : i = j
  · subst c
    rw [h2] at hj
    injection hj with hj
    subst hj
    exact up _ (h3 e he hb)
  · rw [getD_set_other c] at hl
    exact up _ (h j oj hj hl e he hb)
theorem ready_last {ops : Array Oper} {m : Nat} (hok : lastOK md ops m = true) {listed : Array Bool} (hsh : shutL md ops listed) (h : m ∈ Region.ready md ops listed) : ∀ j, j < m → listed.getD j false = true := by
  intro j hj
  obtain ⟨_, o, ho, ha⟩ := mem_ready.1 h
  simp only [lastOK, Bool.and_eq_true, List.all_eq_true, List.mem_range] at hok
  have := hok.2
  rw [ho] at this
  simp only [Option.all_some, Bool.and_eq_true, List.all_eq_true, List.mem_range] at this
  have h2 := this.2 j hj
  rw [Array.any_eq_true] at h2
  obtain ⟨i, hi, h3⟩ := h2
  simp only [Bool.and_eq_true, Bool.or_eq_true, beq_iff_eq] at h3
  have h4 := ha _ (Array.getElem_mem hi) h3.1
  rcases h3.2 with h5 | h5
  · rw [h5] at h4
    exact h4
  · cases ho' : ops[(o.after[i]).on]? with
    | none => rw [ho'] at h5; simp at h5
    | some o' =>
      rw [ho'] at h5
      simp only [Option.any_some] at h5
      rw [Array.any_eq_true] at h5
      obtain ⟨i', hi', h6⟩ := h5
      simp only [Bool.and_eq_true, beq_iff_eq] at h6
      have h7 := hsh _ o' ho' h4 _ (Array.getElem_mem hi') h6.1
      rw [h6.2] at h7
      exact h7
/-- The region with the idle operation in the last one's place. -/
def idled (ops : Array Oper) (m : Nat) : Array Oper := ops.modify m idle
theorem idled_get (ops : Array Oper) (m j : Nat) : (idled ops m)[j]? = if j = m then (ops[j]?).map idle else ops[j]? := by
  unfold idled
  rw [Array.getElem?_modify]
  by_cases h : m = j
  · subst h; simp
  · rw [if_neg h, if_neg (fun e => h e.symm)]
theorem idled_ready (ops : Array Oper) (m : Nat) (listed : Array Bool) : Region.ready md (idled ops m) listed = Region.ready md ops listed := by
  unfold Region.ready
  rw [show (idled ops m).size = ops.size by simp [idled]]
  congr 1
  funext i
  rw [idled_get]
  split
  · cases ops[i]? <;> rfl
  · rfl
theorem idled_yielded (ops : Array Oper) (m : Nat) (tmps : Array Value) : yielded (idled ops m) tmps = yielded ops tmps := by
  funext j
  have h : ((idled ops m)[j]?).bind (·.dst) = (ops[j]?).bind (·.dst) := by
    rw [idled_get]
    split
    · cases ops[j]? <;> rfl
    · rfl
  unfold yielded
  rw [h]
theorem any_end {ops : Array Oper} {fuel : Nat} {listed : Array Bool} {a : Act} {w : World} (hr : Region.ready md ops listed = []) : wpAny P md ops Q fuel listed a w ↔ Q .normal a w := by
  cases fuel with
  | zero => simp [wpAny, hr]
  | succ n => simp [wpAny, hr]
theorem any_last {ops : Array Oper} {m : Nat} {o : Oper} (hok : lastOK md ops m = true) (hm : ops[m]? = some o) : ∀ (fuel : Nat) (listed : Array Bool) (a : Act) (w : World), listed.size = ops.size → shutL md ops listed → listed.getD m true = false →
    wpAny P md (idled ops m) (lastQ P o Q) fuel listed a w → wpAny P md ops Q fuel listed a w := by
  have hms : m < ops.size := (Array.getElem?_eq_some_iff.1 hm).1
  have hpa := hok
  simp only [lastOK, Bool.and_eq_true, beq_iff_eq] at hpa
  have hog : o.guard = none ∧ o.dst = none := by
    have h2 := hpa.2
    rw [hm] at h2
    simp only [Option.all_some, Bool.and_eq_true, Option.isNone_iff_eq_none] at h2
    exact ⟨h2.1.1, h2.1.2⟩
  intro fuel
  induction fuel with
  | zero =>
    intro listed a w hs hsh hl h
    have h1 := h.1
    rw [idled_ready] at h1
    exact absurd h1 (ready_ne hok hs m hms hl)
  | succ fuel ih =>
    intro listed a w hs hsh hl h
    refine ⟨fun h1 => absurd h1 (ready_ne hok hs m hms hl), fun i hi => ?_⟩
    have h2 := h.2 i (by rw [idled_ready]; exact hi)
    by_cases him : i = m
    · subst him
      have hall := ready_last hok hsh hi
      have hend : Region.ready md ops (listed.setIfInBounds i true) = [] := by
        rw [List.eq_nil_iff_forall_not_mem]
        intro j hj
        obtain ⟨h3, oj, h4, _⟩ := mem_ready.1 hj
        have hjs : j < ops.size := (Array.getElem?_eq_some_iff.1 h4).1
        by_cases hji : i = j
        · subst hji
          rw [getD_set_same (by omega)] at h3
          cases h3
        · rw [getD_set_other hji] at h3
          have h5 := hall j (by omega)
          have h6 : j < listed.size := by omega
          simp [h6] at h3 h5
          rw [h3] at h5
          cases h5
      unfold wpOp at h2 ⊢
      rw [idled_get, if_pos rfl, hm] at h2
      rw [hm]
      simp only [Option.map_some] at h2 ⊢
      have hw1 : Region.wanted (idle o) (yielded (idled ops i) a.tmps) = true := by simp [Region.wanted, idle, hog.1]
      have hw2 : Region.wanted o (yielded ops a.tmps) = true := by simp [Region.wanted, hog.1]
      rw [if_pos hw1] at h2
      rw [if_pos hw2]
      rcases h2 with h2 | h2
      · left
        unfold Oper.wp at h2
        rw [idle_run] at h2
        simp only [Oper.upon] at h2
        rw [show (idle o).dst = none from hog.2, any_end (by rw [idled_ready]; exact hend)] at h2
        exact wp_turn (fun a' w' hq => (any_end hend).2 hq) (fun _ _ _ _ hq => hq) h2
      · exact absurd h2.1 (idle_asks o a w)
    · have hx : ops[i]? = (idled ops m)[i]? := by rw [idled_get, if_neg him]
      have hK : ∀ a' w', wpAny P md (idled ops m) (lastQ P o Q) fuel (listed.setIfInBounds i true) a' w' → wpAny P md ops Q fuel (listed.setIfInBounds i true) a' w' := fun a' w' hh =>
        ih _ a' w' (by simpa using hs) (shutL_set hsh hi) (by rw [getD_set_other him]; exact hl) hh
      have hQ : ∀ e a w, e ≠ .normal → lastQ P o Q e a w → Q e a w := fun e a w he hq => by cases e <;> first | exact hq | exact absurd rfl he
      unfold wpOp at h2 ⊢
      rw [idled_yielded, ← hx] at h2
      cases ho : ops[i]? with
      | none => rw [ho] at h2; exact hK _ _ h2
      | some oi =>
        rw [ho] at h2
        simp only at h2 ⊢
        split at h2
        · rename_i hw
          rw [if_pos hw]
          rcases h2 with h2 | h2
          · exact Or.inl (wp_turn hK hQ h2)
          · exact Or.inr ⟨h2.1, by obtain ⟨a, w, h3⟩ := h2.2; exact ⟨a, w, h3⟩⟩
        · rename_i hw
          rw [if_neg hw]
          exact hK _ _ h2
/-- THE LAW: the last operation is carried out behind the region. -/
theorem wp_region_last {id : Nat} {ops : Array Oper} {a : Act} {w : World} {S : World → Prop} (m : Nat) (o : Oper) (hf : P.follows .mixedOrders = true) (hok : lastOK .any ops m = true) (hm : ops[m]? = some o) (ops' : Array Oper) (ho : idled ops m = ops')
    (hS : S w.drew) (h : S w.drew → wpAnyH P .any ops' (lastQ P o Q) S ops'.size (Array.replicate ops'.size false) a w.drew) : (Code.region id ops true).wp P Q a w := by
  have hms : m < ops.size := (Array.getElem?_eq_some_iff.1 hm).1
  have hsz : ops'.size = ops.size := by rw [← ho]; simp [idled]
  refine wp_region_any hf (any_last hok hm _ _ _ _ (by simp) (fun j oj hj hl => ?_) (by simp [hms]) ?_)
  · have hjs : j < ops.size := (Array.getElem?_eq_some_iff.1 hj).1
    simp [hjs] at hl
  have h1 := wpAny_of_held _ _ _ _ (h hS)
  rw [hsz] at h1
  rw [ho]
  exact h1
end
end Go.Proofs.Ytgpaoiddjlpcmaa
