/- The program's TyPut. -/
import Derived.Test.YtciohamonmmciaaPutI
import Derived.Test.YtciohamonmmciaaCanJ
import Derived.RegionTactic
import Derived.BigRegion
import Derived.Deep.RegionWith
namespace Go.Proofs.Ytciohamonmmciaa
set_option linter.unusedVariables false
set_option maxRecDepth 100000
open Go.ChangeShapes Go.WideShapes Go.ChangeAt Go.RowKit

noncomputable def resTyPut (x : List TyI) (l : List Sb) : List TyI × Bool :=
  if (tyOkB x && subsOkB l) = true then (if (putX l x).length ≤ 200 then (putX l x, true) else ([], false)) else ([], false)
def TyPutPost (r : List TyI × Bool) (w : World) (e : Ending) (w' : World) : Prop :=
  ∃ (u0 : Value) (F0 : List Nat), e = .returned (.tuple #[.agg #[u0], .bool r.2]) ∧ RowOwn 3 TyIOwn w' u0 r.1 F0 ∧ (∀ g ∈ F0, w.heap.size ≤ g) ∧ F0.Nodup ∧ Below w.heap.size w w'
theorem subsOk_of {l : List Sb} (h : subsOkB l = true) : SubsP l := by
  by_cases hp : SubsP l
  · exact hp
  · rw [subsOkB, propB_f hp] at h; cases h
theorem putV_len {l : List Sb} (hz : bulkL bSb l ≤ 1048576) (n : Int) : (putV l n).length ≤ 1048576 := by
  unfold putV
  split
  · next s h =>
    obtain ⟨i, hi, rfl⟩ := List.getElem_of_mem (List.mem_of_find?_eq_some h)
    have h1 := bulkL_mem bSb l i hi
    have h2 : l[i].ty.length ≤ bTy l[i].ty := bulkL_len _ _
    simp only [bSb] at h1
    omega
  · simp
theorem putX_len {l : List Sb} (hz : bulkL bSb l ≤ 1048576) (x : List TyI) : (putX l x).length ≤ x.length * 1048576 := by
  induction x with
  | nil => simp [putX]
  | cons t x ih =>
    have h1 := putV_len hz t.var
    unfold putX at ih ⊢
    rw [List.flatMap_cons, List.length_append, List.length_cons]
    by_cases h : t.name.toList = []
    · rw [if_pos h]; omega
    · rw [if_neg h]; simp only [List.length_cons, List.length_nil]; omega
theorem tyOk_len {x : List TyI} (h : tyOkB x = true) : x.length ≤ 200 := by
  unfold tyOkB at h
  simp only [Bool.and_eq_true, decide_eq_true_eq] at h
  exact h.1
theorem iTyOfTree2 {A : Nat → Prop} {w0 : World} {u : Value} {t : List TyI} (h : TreeRd A w0 u t) (hl : t.length ≤ 1073741824) (W : World) (hB : Below w0.heap.size w0 W) : Calls Try.prog 23 #[u] W fun e w' =>
    ∃ (u0 : Value) (F0 : List Nat), e = .returned (.agg #[u0]) ∧ RowOwn 3 TyIOwn w' u0 t F0 ∧ (∀ g ∈ F0, w0.heap.size ≤ g) ∧ F0.Nodup ∧ Below W.heap.size W w' ∧ Below w0.heap.size w0 w' :=
  (iTyOfTree h W (fun k _ hk => ⟨Nat.lt_of_lt_of_le hk hB.size, hB.block k hk⟩) hl).mono fun e w' hp => by
    obtain ⟨u0, F0, h1, h2, h3, h4, h5⟩ := hp
    exact ⟨u0, F0, h1, h2, fun g hg => Nat.le_trans hB.size (h3 g hg), h4, h5, hB.trans (h5.mono hB.size)⟩
theorem iPutsOf2 (v : Value) (hv : ∃ a n c, v = .slice a n c) (w : World) : Calls Try.prog 34 #[v] w fun e w' => ∃ b1 b2 : Nat, e = .returned (.func (.func 55) #[] #[.pointer (some ⟨b1, 0, none⟩), .pointer (some ⟨b2, 0, none⟩)]) ∧ w'.cell? ⟨b1, 0, none⟩ = some v ∧ w'.cell? ⟨b2, 0, none⟩ = some (.func (.func 54) #[] #[]) ∧ b1 < w'.heap.size ∧ b2 < w'.heap.size ∧ Below w.heap.size w w' :=
  (iPutsOf v hv w).mono fun e w' ⟨h1, h2, h3, h4, h5⟩ => ⟨_, _, h1, h2, h3, Nat.lt_trans (Nat.lt_succ_self _) h4, h4, h5⟩
theorem box_new {W w' : World} {T : TypeId} {v : Value} (h : Below (W.alloc (.cells #[v] T)).heap.size (W.alloc (.cells #[v] T)) w') : w'.cell? ⟨W.heap.size, 0, none⟩ = some v ∧ w'.frozen? ⟨W.heap.size, 0, none⟩ = false :=
  ⟨(h.cell (p := ⟨W.heap.size, 0, none⟩) (by simp)).trans (by simp), (h.frozen (p := ⟨W.heap.size, 0, none⟩) (by simp)).trans (by simp)⟩
theorem box_newd {W w' : World} {T : TypeId} {v : Value} (h : Below (W.alloc (.cells #[v] T)).drew.heap.size (W.alloc (.cells #[v] T)).drew w') : w'.cell? ⟨W.heap.size, 0, none⟩ = some v ∧ w'.frozen? ⟨W.heap.size, 0, none⟩ = false :=
  ⟨(h.cell (p := ⟨W.heap.size, 0, none⟩) (by simp)).trans (by simp), (h.frozen (p := ⟨W.heap.size, 0, none⟩) (by simp)).trans (by simp)⟩
end Go.Proofs.Ytciohamonmmciaa
