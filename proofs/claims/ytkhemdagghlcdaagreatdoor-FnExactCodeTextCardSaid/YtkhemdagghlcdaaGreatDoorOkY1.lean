/- The program's check of patterns: plain mathematics, a node by itself, names that occur twice. -/
import Derived.Test.YtkhemdagghlcdaaGreatDoorOkW3
import Derived.Maps.Own
import Derived.Maps.OwnSet
import Derived.Maps.Views
import Derived.Maps.Keyed
import Derived.Deep.QuietTactic
import Derived.BigQuiet
import Derived.Deep.RegionHeld3
import Derived.Deep.RegionWith
import Derived.Outline
namespace Go.Proofs.YtkhemdagghlcdaaGreatDoor
set_option linter.unusedVariables false
set_option maxRecDepth 100000
open Go.ChangeShapes Go.WideShapes Go.ChangeAt Go.RowKit Go.Maps Go.WideMaps

theorem any_yes {α : Type} (ok : α → Bool) (l : List α) (k : Nat) (h : k < l.length) (hx : ok l[k] = true) : l.any ok = true := List.any_eq_true.2 ⟨_, List.getElem_mem h, hx⟩
theorem any_snoc {α : Type} (ok : α → Bool) (l : List α) (k : Nat) (h : k < l.length) (ha : (l.take k).any ok = false) (hx : ok l[k] = false) : (l.take (k + 1)).any ok = false := by
  rw [List.take_succ_eq_append_getElem h, List.any_append, ha]
  simp [hx]
theorem all_any {α : Type} (ok : α → Bool) (l : List α) : l.all ok = !(l.any fun x => !ok x) := by
  induction l with
  | nil => rfl
  | cons x l ih => simp only [List.all_cons, List.any_cons, ih]; cases ok x <;> simp
theorem vPre_end (l : List (List Int)) (a : Nat) (h : a < l.length) (n : Int) : (vPre l () a l[a].length n).1 = true := by
  simp [vPre, List.getElem?_eq_getElem h]
theorem vPre_at (l : List (List Int)) (a d : Nat) (h : a < l.length) (hd : d < l[a].length) (n : Int) : (vPre l () a d n).1 = decide (l[a][d] = n) := by
  have h1 : ¬ d = l[a].length := by omega
  simp [vPre, List.getElem?_eq_getElem h, List.getElem?_eq_getElem hd, h1]
/-- A name that one of the nodes binds. -/
def seenB (l : List PN) (s : ByteArray) : Bool := l.any fun x => decide (x.kind = 2) && decide (x.s = s)
theorem seen_snoc (q : List PN) (k : Nat) (h : k < q.length) (s : ByteArray) : seenB (q.take (k + 1)) s = (seenB (q.take k) s || (decide (q[k].kind = 2) && decide (q[k].s = s))) := by
  unfold seenB
  rw [List.take_succ_eq_append_getElem h, List.any_append]
  simp
theorem twice_yes (q : List PN) (k : Nat) (h : k < q.length) (hk : q[k].kind = 2) (hs : seenB (q.take k) q[k].s = true) : TwiceP q := by
  unfold seenB at hs
  obtain ⟨x, hx, h2⟩ := List.any_eq_true.1 hs
  obtain ⟨i, hi, rfl⟩ := List.getElem_of_mem hx
  simp only [List.length_take] at hi
  simp only [List.getElem_take, Bool.and_eq_true, decide_eq_true_eq] at h2
  exact ⟨k, i, h, by omega, hk, h2.1, h2.2⟩
def onceP (q : List PN) (k : Nat) : Prop := ∀ i j, ∀ (hi : i < q.length) (hj : j < i), i < k → ¬ clash q[i] q[j]
theorem once_step (q : List PN) (k : Nat) (h : k < q.length) (ho : onceP q k) (hx : ¬ (q[k].kind = 2 ∧ seenB (q.take k) q[k].s = true)) : onceP q (k + 1) := by
  intro i j hi hj hik hc
  by_cases h1 : i < k
  · exact ho i j hi hj h1 hc
  · obtain rfl : i = k := by omega
    apply hx
    refine ⟨hc.1, List.any_eq_true.2 ⟨q[j], ?_, ?_⟩⟩
    · rw [List.mem_iff_getElem]
      exact ⟨j, by simp; omega, by simp⟩
    · simp [hc.2.1, hc.2.2]
theorem once_end (q : List PN) (ho : onceP q q.length) : ¬ TwiceP q := by
  rintro ⟨i, k, hi, hk, hc⟩
  exact ho i k hi hk hi hc
/-! ### A set of names, as a map -/
theorem plain_bool_inv {H : Type} {P : Program} {e : TypeId} (he : P.underlying e = some .bool) {v : Value} {z : DataW H × List MemPlace} (h : plainElem P e v = some z) : ∃ a, v = .bool a ∧ z = (.lit (.bool a), []) := by
  unfold plainElem at h
  rw [he] at h
  cases v <;> simp at h
  exact ⟨_, rfl, h.symm⟩
theorem look_bool {H : Type} {P : Program} {k t e : TypeId} {w : World} {b n : Nat} {D : DataW H} (h : w.ownsMap P k (plainElem P e) b n D) (K : Keyed P k) (ht : P.underlying t = some (.map k e)) (he : P.underlying e = some .bool) (hz : (zeroValue e).run P w = .ok (.bool false) w)
    {key : Value} {kl : Lit} (hkey : keyOf P k key = some kl) : ∃ c, (Instr.lookup t (.map (some b)) key false).run P w = .ok (.bool c) w ∧ D.atKey kl (.lit (.bool false)) = .lit (.bool c) := by
  obtain ⟨v, ps, hrun, hv⟩ := h.lookup K ht hz (plainElem_bool he false) hkey
  obtain ⟨c, rfl, hc⟩ := plain_bool_inv he hv
  simp only [Prod.mk.injEq] at hc
  exact ⟨c, hrun, hc.1⟩
/-- The map's datum holds the names that the first k nodes bind. -/
def namesD (q : List PN) (k : Nat) (D : DataW Unit) : Prop := ∀ s : ByteArray, D.atKey (.string s.data.toList) (.lit (.bool false)) = .lit (.bool (seenB (q.take k) s))
theorem names_zero (q : List PN) : namesD q 0 (.map []) := fun s => rfl
theorem names_skip {q : List PN} {k : Nat} {D : DataW Unit} (h : namesD q k D) (hk : k < q.length) (h2 : ¬ q[k].kind = 2) : namesD q (k + 1) D := by
  intro s
  rw [h s, seen_snoc q k hk]
  simp [h2]
theorem names_put {q : List PN} {k : Nat} {D : DataW Unit} (h : namesD q k D) (hD : IsMap D) (hk : k < q.length) (h2 : q[k].kind = 2) : namesD q (k + 1) (D.put (.string q[k].s.data.toList) (.lit (.bool true))) := by
  intro s
  rw [seen_snoc q k hk, h2]
  by_cases hs : q[k].s = s
  · rw [← hs, atKey_put_same hD (by simp [WideAt.IsKeyLit])]
    simp
  · rw [atKey_put_other, h s]
    · simp [hs]
    · intro e
      apply hs
      simp only [Lit.string.injEq] at e
      cases hq : q[k].s
      cases s
      rw [hq] at e
      simp at e
      rw [e]
theorem zero_bool (w : World) : (zeroValue 4).run Tryz.prog w = .ok (.bool false) w := by kernel_rfl
theorem key_str {s : ByteArray} (hs : s.size ≤ maxLen) : keyOf Tryz.prog 9 (.string s) = some (.string s.data.toList) := keyOf_string_mk Tryz.underlying9 hs
end Go.Proofs.YtkhemdagghlcdaaGreatDoor
