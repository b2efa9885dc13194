/- Contracts of SignOf of the program and of its model, and of the law's own readers. -/
import Derived.Test.YtjflnpcmjibcpaaRows
import Derived.Test.YtjflnpcmjibcpaaArg
import Derived.WalkKit
import Derived.ProofKit
import Derived.OpenShut
import Derived.Lib.Hide
namespace Go.Proofs.Ytjflnpcmjibcpaa
set_option linter.unusedVariables false
open Go.ChangeShapes Go.WideShapes Go.ChangeAt Go.RowKit

/-- A token's value. -/
def tokV (k n : Int) (s : ByteArray) (a : Int) : Value := .agg #[.int .i64 k, .int .i64 n, .string s, .int .i64 a]
theorem open_tok {w : World} {v : Value} (h : ArgIn Try.prog 23 w v) : ∃ (k n a : Int) (s : ByteArray), v = .agg #[.int .i64 k, .int .i64 n, .string s, .int .i64 a] ∧ s.size ≤ maxLen := by
  obtain ⟨H, enc, base, d, ps, ho, hr⟩ := h
  obtain ⟨v0, v1, v2, v3, y0, y1, y2, y3, n, rfl, rfl, rfl, h0, h1, h2, h3⟩ := Joins.open_agg4 Try.underlying23 (by kernel_rfl) (by kernel_rfl) ho hr
  obtain ⟨k, e0, _, _⟩ := DataW.trod_int Try.underlying3 h0
  obtain ⟨m, e1, _, _⟩ := DataW.trod_int Try.underlying3 h1
  obtain ⟨s, e2, _, hs⟩ := DataW.trod_string Try.underlying9 h2
  obtain ⟨a, e3, _, _⟩ := DataW.trod_int Try.underlying3 h3
  simp only [List.cons.injEq, and_true] at e0 e1 e2 e3
  subst e0 e1 e2 e3
  exact ⟨k, m, a, s, rfl, hs⟩

def signS (k : Int) (s : ByteArray) : ByteArray := if k = 6 then s else ⟨#[]⟩
theorem iSignOf (k n a : Int) (s : ByteArray) (w : World) :
    Calls Try.prog 7 #[.agg #[.int .i64 k, .int .i64 n, .string s, .int .i64 a]] w fun e w' => e = .returned (.string (signS k s)) ∧ Below w.heap.size w w' := by
  by_cases h : k = 6
  · subst h
    go_enter Try.func7, Try.ntmps7
    go_wp2
    go_ret
    exact ⟨rfl, (Below.refl _ _).alloc (Nat.le_refl _) _⟩
  · have h1 : (k == 6) = false := by simpa using h
    have h2 : (k != 6) = true := by simpa using h
    have H := Lib.hid h
    clear h
    go_enter Try.func7, Try.ntmps7
    go_wp2
    go_ret
    exact ⟨by rw [signS, if_neg H.out]; rfl, (Below.refl _ _).alloc (Nat.le_refl _) _⟩
theorem sSignOf (k n a : Int) (s : ByteArray) (w : World) :
    Calls Try.prog 5 #[.agg #[.int .i64 k, .int .i64 n, .string s, .int .i64 a]] w fun e w' => e = .returned (.string (signS k s)) ∧ Below w.heap.size w w' := by
  by_cases h : k = 6
  · subst h
    go_enter Try.func5, Try.ntmps5
    go_wp2
    go_ret
    exact ⟨rfl, (Below.refl _ _).alloc (Nat.le_refl _) _⟩
  · have h1 : (k == 6) = false := by simpa using h
    have h2 : (k != 6) = true := by simpa using h
    have H := Lib.hid h
    clear h
    go_enter Try.func5, Try.ntmps5
    go_wp2
    go_ret
    exact ⟨by rw [signS, if_neg H.out]; rfl, (Below.refl _ _).alloc (Nat.le_refl _) _⟩
theorem toTok (k n a : Int) (s : ByteArray) (w : World) :
    Calls Try.prog 6 #[.agg #[.int .i64 k, .int .i64 n, .string s, .int .i64 a]] w fun e w' => e = .returned (.agg #[.int .i64 k, .int .i64 n, .string s, .int .i64 a]) ∧ Below w.heap.size w w' := by
  go_enter Try.func6, Try.ntmps6
  go_wp2
  refine bodyPost_ret (v := .agg #[.int .i64 k, .int .i64 n, .string s, .int .i64 a]) (by simp [results, Try.results6, go_sem]) rfl ⟨rfl, ?_⟩
  exact Joins.below_alloc3 w _ _ _
def szI (s : ByteArray) (l : Int) : Int := if l - s.size < 0 then -1 else l - s.size
theorem szTok (k n a l : Int) (s : ByteArray) (w : World) (hs : s.size ≤ maxLen) (hl : 0 ≤ l ∧ l ≤ 1048576) :
    Calls Try.prog 4 #[.agg #[.int .i64 k, .int .i64 n, .string s, .int .i64 a], .int .i64 l] w fun e w' => e = .returned (.int .i64 (szI s l)) ∧ Below w.heap.size w w' := by
  unfold maxLen at hs
  by_cases h : l - s.size < 0
  · go_enter Try.func4, Try.ntmps4
    go_wp2
    go_ret
    exact ⟨by rw [szI, if_pos h]; rfl, Joins.below_alloc1 w _⟩
  · go_enter Try.func4, Try.ntmps4
    go_wp2
    go_ret
    exact ⟨by rw [szI, if_neg (Int.not_lt.2 h)]; rfl, Joins.below_alloc1 w _⟩
theorem box4 {w w1 : World} {c0 c1 c2 c3 : Value} {T : TypeId} (hb : Below (w.heap.size + 1) (w.alloc (.cells #[c0, c1, c2, c3] T)) w1) :
    w1.cell? ⟨w.heap.size, 0, none⟩ = some c0 ∧ w1.cell? ⟨w.heap.size, 1, none⟩ = some c1 ∧ w1.cell? ⟨w.heap.size, 2, none⟩ = some c2 ∧ w1.cell? ⟨w.heap.size, 3, none⟩ = some c3 := by
  refine ⟨?_, ?_, ?_, ?_⟩ <;> (rw [hb.cell (by simp), World.cell?_alloc_new]; rfl)
end Go.Proofs.Ytjflnpcmjibcpaa
