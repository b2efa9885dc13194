/- The model's check of a node of an expression. -/
import Derived.Test.YtilincaedjhnpaaGreatOkN
namespace Go.Proofs.YtilincaedjhnpaaGreat
set_option linter.unusedVariables false
set_option maxRecDepth 100000
open Go.ChangeShapes Go.WideShapes Go.ChangeAt Go.RowKit

/-- A node by value, its rows as slices. -/
def ndV (kd at_ n : Int) (s : ByteArray) (uk up : Value) : Value := .agg #[.int .i64 kd, .int .i64 at_, .int .i64 n, .string s, uk, up]
set_option maxHeartbeats 4000000 in
theorem sNode_head (vt vn : Value) (kd at_ n : Int) (s : ByteArray) (kids : List Int) (pats : List (List PN)) (nodes : List Nd) (uk up : Value) (w : World)
    (ht : ∃ pt nt ct, vt = .slice pt nt ct) (hn : ∃ pt nt ct, vn = .slice pt nt ct) (hk : ∃ pt nt ct, uk = .slice pt nt ct) (hp : ∃ pt nt ct, up = .slice pt nt ct) (h : ¬ NdHead ⟨kd, at_, n, s, kids, pats⟩) :
    Calls Tryz.prog 27 #[.agg #[vt, vn], .agg #[.int .i64 kd, .int .i64 at_, .int .i64 n, .string s, uk, up]] w fun e w' => e = .returned (.bool false) ∧ Below w.heap.size w w' := by
  obtain ⟨p1, n1, c1, rfl⟩ := ht
  obtain ⟨p2, n2, c2, rfl⟩ := hn
  obtain ⟨p3, n3, c3, rfl⟩ := hk
  obtain ⟨p4, n4, c4, rfl⟩ := hp
  simp only [NdHead] at h
  have hc : kd < 1 ∨ (1 ≤ kd ∧ 19 < kd) ∨ (1 ≤ kd ∧ kd ≤ 19 ∧ at_ < 0) ∨ (1 ≤ kd ∧ kd ≤ 19 ∧ 0 ≤ at_ ∧ kd ≠ 1 ∧ n ≠ 0) ∨ (kd = 1 ∧ 0 ≤ at_ ∧ n < 0) ∨ (kd = 1 ∧ 0 ≤ at_ ∧ 0 ≤ n ∧ 4611686018427387903 < n) := by omega
  clear h
  rcases hc with h1 | ⟨h1, h2⟩ | ⟨h1, h2, h3⟩ | ⟨h1, h2, h3, h4, h5⟩ | ⟨rfl, h3, h4⟩ | ⟨rfl, h3, h4, h5⟩
  · go_enter Tryz.func27, Tryz.ntmps27
    go_wp2
    go_ret
    exact ⟨rfl, Joins.below_alloc2 w _ _⟩
  · go_enter Tryz.func27, Tryz.ntmps27
    go_wp2
    go_ret
    exact ⟨rfl, Joins.below_alloc2 w _ _⟩
  · go_enter Tryz.func27, Tryz.ntmps27
    go_wp2
    go_ret
    exact ⟨rfl, Joins.below_alloc2 w _ _⟩
  · have b1 : (kd != 1) = true := by simpa using h4
    have b2 : (n != 0) = true := by simpa using h5
    clear h4 h5
    go_enter Tryz.func27, Tryz.ntmps27
    go_wp2
    go_ret
    exact ⟨rfl, Joins.below_alloc2 w _ _⟩
  · go_enter Tryz.func27, Tryz.ntmps27
    go_wp2
    go_ret
    exact ⟨rfl, Joins.below_alloc2 w _ _⟩
  · go_enter Tryz.func27, Tryz.ntmps27
    go_wp2
    go_ret
    exact ⟨rfl, Joins.below_alloc2 w _ _⟩
end Go.Proofs.YtilincaedjhnpaaGreat
