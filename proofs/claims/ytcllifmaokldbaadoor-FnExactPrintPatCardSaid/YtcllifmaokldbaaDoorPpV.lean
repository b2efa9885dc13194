/- The program's rows of texts: what the loop over the nodes does to them. -/
import Derived.Test.YtcllifmaokldbaaDoorPpW
namespace Go.Proofs.YtcllifmaokldbaaDoor
set_option linter.unusedVariables false
set_option maxRecDepth 100000
open Go.ChangeShapes Go.WideShapes Go.ChangeAt Go.RowKit

theorem PatV.noSub {q : List PN} (hv : PatV q) {k : Nat} (hk : k < q.length) (hc : isConsB q[k] = true) : ∀ j (hj : j < q.length), isConsB q[j] = true → q[j].kids.head? ≠ some (k : Int) := by
  intro j hj hcj hh
  have hf := hv.cons j hj hcj
  cases hq : q[j].kids with
  | nil => rw [hq] at hh; simp at hh
  | cons y ys =>
    rw [hq] at hh hf
    simp only [List.head?_cons, Option.some.injEq] at hh
    subst hh
    simp only [firstPK, Int.toNat_natCast, List.getElem?_eq_getElem hk] at hf
    simp only [isConsB, Bool.and_eq_true, decide_eq_true_eq] at hc
    omega
/-- A node's texts when the first t nodes have been asked. -/
def patAt (nt : Int → List UInt8) (q : List PN) (t i : Nat) (n : PN) : List (List UInt8) :=
  if consK q t i = true then [[40], [32, 58, 58, 32], [41]] else if isConsB n = true ∧ i < t then [[], []] else pTexts nt n
theorem patAt_0 (nt : Int → List UInt8) (q : List PN) (i : Nat) (n : PN) : patAt nt q 0 i n = pTexts nt n := by simp [patAt, consK]
theorem patAt_no {nt : Int → List UInt8} {q : List PN} {k : Nat} (hk : k < q.length) (hc : isConsB q[k] = false) (i : Nat) (hi : i < q.length) : patAt nt q (k + 1) i q[i] = patAt nt q k i q[i] := by
  unfold patAt
  rw [consK_succ hk, hc]
  simp only [Bool.false_and, Bool.or_false]
  by_cases h : i = k
  · subst h; simp [hc]
  · have : i < k + 1 ↔ i < k := by omega
    simp only [this]
theorem patAt_yes {nt : Int → List UInt8} {q : List PN} {k kn : Nat} (hv : PatV q) (hk : k < q.length) (hc : isConsB q[k] = true) (hkk : q[k].kids = [(kn : Int)]) (i : Nat) (hi : i < q.length) :
    patAt nt q (k + 1) i q[i] = if i = kn then [[40], [32, 58, 58, 32], [41]] else if i = k then [[], []] else patAt nt q k i q[i] := by
  unfold patAt
  rw [consK_succ hk, hc, hkk]
  by_cases h1 : i = kn
  · subst h1; simp
  · have e1 : decide ([(kn : Int)].head? = some (i : Int)) = false := by simp; omega
    rw [e1]
    simp only [Bool.and_false, Bool.or_false, if_neg h1]
    by_cases h2 : i = k
    · subst h2; rw [consK_no (hv.noSub hk hc)]; simp [hc]
    · rw [if_neg h2]
      have : i < k + 1 ↔ i < k := by omega
      simp only [this]
/-- The loop: the first k nodes have been asked. -/
structure LI (q : List PN) (g : Nat) (wb : World) (k : Nat) (us : List Value) (wr : World) : Prop where
  len : us.length = q.length
  cell : ∀ i (h : i < us.length), wr.cell? ⟨g, i, none⟩ = some us[i]
  frz : ∀ i, wr.frozen? ⟨g, i, none⟩ = false
  tx : ∀ i (h : i < us.length) (hq : i < q.length), TxAt g wr us[i] (patAt numL q k i q[i])
  but : ButF [g] wb wr
  lt : g < wr.heap.size
theorem LI.kept {q : List PN} {g k : Nat} {us : List Value} {wb wr w' : World} (h : LI q g wb k us wr) (hb : Below wr.heap.size wr w') : LI q g wb k us w' :=
  ⟨h.len, fun i hi => (hb.cell (p := ⟨g, i, none⟩) h.lt).trans (h.cell i hi), fun i => (hb.frozen (p := ⟨g, i, none⟩) h.lt).trans (h.frz i), fun i hi hq => (h.tx i hi hq).but (ButF.of_below hb), h.but.trans (ButF.of_below hb), Nat.lt_of_lt_of_le h.lt hb.size⟩
theorem LI.no {q : List PN} {g k : Nat} {us : List Value} {wb wr w' : World} (h : LI q g wb k us wr) (hk : k < q.length) (hc : isConsB q[k] = false) (hb : Below wr.heap.size wr w') : LI q g wb (k + 1) us w' := by
  have h' := h.kept hb
  exact ⟨h'.len, h'.cell, h'.frz, fun i hi hq => by rw [patAt_no hk hc]; exact h'.tx i hi hq, h'.but, h'.lt⟩
theorem set_but (g i : Nat) (v : Value) (w : World) : ButF [g] w (w.setCell ⟨g, i, none⟩ v) :=
  ⟨rfl, rfl, rfl, by simp [World.setCell], fun k hk hn => Below.heap_setCell _ _ _ _ (fun e => hn (by rw [e]; simp))⟩
theorem LI.yes {q : List PN} {g k kn : Nat} {us : List Value} {wb wr wA : World} {v1 v2 : Value} (hv : PatV q) (h : LI q g wb k us wr) (hk : k < q.length) (hc : isConsB q[k] = true) (hkk : q[k].kids = [(kn : Int)]) (hkn : kn < q.length) (hne : k ≠ kn)
    (hb : Below wr.heap.size wr wA) (t1 : TxAt g wA v1 [[], []]) (t2 : TxAt g wA v2 [[40], [32, 58, 58, 32], [41]]) :
    LI q g wb (k + 1) ((us.set k v1).set kn v2) ((wA.setCell ⟨g, k, none⟩ v1).setCell ⟨g, kn, none⟩ v2) := by
  have h' := h.kept hb
  have hB := (set_but g k v1 wA).trans (set_but g kn v2 _)
  have hlen := h'.len
  refine ⟨by simp [hlen], fun i hi => ?_, fun i => ?_, fun i hi hq => ?_, h'.but.trans hB, Nat.lt_of_lt_of_le h'.lt hB.size⟩
  · have hi' : i < us.length := by simpa using hi
    by_cases h1 : i = kn
    · subst h1
      rw [List.getElem_set_self]
      exact World.cell?_setCell_same _ _ _ ((cell_off (fun e => hne e)).trans (h'.cell i hi'))
    · rw [List.getElem_set_ne (fun e => h1 e.symm), cell_off (fun e => h1 e.symm)]
      by_cases h2 : i = k
      · subst h2
        rw [List.getElem_set_self]
        exact World.cell?_setCell_same _ _ _ (h'.cell i hi')
      · rw [List.getElem_set_ne (fun e => h2 e.symm), cell_off (fun e => h2 e.symm)]
        exact h'.cell i hi'
  · rw [World.frozen?_setCell, World.frozen?_setCell]; exact h'.frz i
  · have hi' : i < us.length := by simpa using hi
    rw [patAt_yes hv hk hc hkk i hq]
    by_cases h1 : i = kn
    · subst h1
      rw [List.getElem_set_self, if_pos rfl]
      exact t2.but hB
    · rw [List.getElem_set_ne (fun e => h1 e.symm), if_neg h1]
      by_cases h2 : i = k
      · subst h2
        rw [List.getElem_set_self, if_pos rfl]
        exact t1.but hB
      · rw [List.getElem_set_ne (fun e => h2 e.symm), if_neg h2]
        exact (h'.tx i hi' hq).but hB
theorem LI.fin {q : List PN} {g cap : Nat} {us : List Value} {wb wr : World} (h : LI q g wb q.length us wr) (hm : q.length ≤ maxLen) (hcap : q.length ≤ cap) : RowRd 1 (RowEl 1 StrEl) wr (.slice (some ⟨g, 0, none⟩) ((patL numL q q.length).map strs).length cap) ((patL numL q q.length).map strs) := by
  have hl : ((patL numL q q.length).map strs).length = q.length := by rw [List.length_map, patL_len]
  refine RowRd.mk (by omega) (by omega) fun h0 => ⟨g, 0, rfl, h.lt, fun i hi => ?_⟩
  have hq : i < q.length := by omega
  have hu : i < us.length := by rw [h.len]; exact hq
  have hp : (patL numL q q.length)[i]'(by rw [patL_len]; exact hq) = patAt numL q q.length i q[i] := by
    have := patL_get numL q q.length i hq
    rw [List.getElem?_eq_getElem (by rw [patL_len]; exact hq)] at this
    injection this
  rw [Nat.mul_one, Nat.zero_add, List.getElem_map, hp]
  exact ⟨us[i], h.cell i hu, (h.tx i hu hq).r⟩
end Go.Proofs.YtcllifmaokldbaaDoor
