/- The model's check of a node of an expression, whole. -/
import Derived.Test.YtilincaedjhnpaaGreatOkO
namespace Go.Proofs.YtilincaedjhnpaaGreat
set_option linter.unusedVariables false
set_option maxRecDepth 100000
open Go.ChangeShapes Go.WideShapes Go.ChangeAt Go.RowKit

theorem still_more {P : Program} {f : FuncId} {args : Array Value} {w : World} {a n : Nat} {v : Value} (h : Calls P f args (w.drewN (a + n)) fun e w' => e = .returned v ∧ w.drewN (a + n) = w') :
    Calls P f args (w.drewN (a + n)) fun e w'' => e = .returned v ∧ ∃ m, w'' = w.drewN (a + m) := h.mono fun e w' hh => ⟨hh.1, n, hh.2.symm⟩
theorem still_one {P : Program} {f : FuncId} {args : Array Value} {w : World} {n : Nat} {v : Value} (h : Calls P f args (w.drewN n) fun e w' => e = .returned v ∧ w.drewN n = w') :
    Calls P f args (w.drewN n) fun e w'' => e = .returned v ∧ ∃ m, w'' = w.drewN m := h.mono fun e w' hh => ⟨hh.1, n, hh.2.symm⟩
theorem beq_prop {a b : Int} {P : Prop} (h : P ↔ a = b) : (a == b) = propB P := by
  by_cases e : a = b
  · rw [propB_t (h.2 e)]; simpa using e
  · rw [propB_f (fun p => e (h.1 p))]; simpa using e
theorem kidsN_of (k m : Int) (h : kidsN k = m) : kidsN k = m := h
theorem nd_plain {nodes : List Nd} {kd at_ n : Int} {s : ByteArray} {kids : List Int} {pats : List (List PN)} (h : NdHead ⟨kd, at_, n, s, kids, pats⟩) (hall : ∀ k ∈ kids, 0 ≤ k ∧ k < nodes.length)
    (h1 : ¬ namedK kd) (h2 : kd ≠ 10) (h3 : kd ≠ 2) (h4 : kd ≠ 4) (h5 : kd ≠ 13) : NdOkP nodes ⟨kd, at_, n, s, kids, pats⟩ ↔ (s.toList = [] ∧ pats = [] ∧ (kids.length : Int) = kidsN kd) := by
  have h8 : kd ≠ 8 := fun e => h1 (by unfold namedK; omega)
  constructor
  · intro ⟨_, _, hT, hR⟩
    exact ⟨hT.2.2 h1 h2 h3 h4, hR.2.2.2 h4 h5⟩
  · intro ⟨e1, e2, e3⟩
    exact ⟨h, hall, ⟨fun e => absurd e h1, fun e => absurd e h2, fun _ _ _ _ => e1⟩, fun e => absurd e h4, fun e => absurd e h5, fun e => absurd e h8, fun _ _ => ⟨e2, e3⟩⟩
theorem nd_str {nodes : List Nd} {at_ n : Int} {s : ByteArray} {kids : List Int} {pats : List (List PN)} (h : NdHead ⟨2, at_, n, s, kids, pats⟩) (hall : ∀ k ∈ kids, 0 ≤ k ∧ k < nodes.length) :
    NdOkP nodes ⟨2, at_, n, s, kids, pats⟩ ↔ (pats = [] ∧ (kids.length : Int) = kidsN 2) := by
  constructor
  · intro ⟨_, _, hT, hR⟩
    exact hR.2.2.2 (by simp) (by simp)
  · intro e
    exact ⟨h, hall, ⟨fun e => absurd e (by simp [namedK]), fun e => absurd e (by simp), fun _ _ e _ => absurd rfl e⟩, fun e => absurd e (by simp), fun e => absurd e (by simp), fun e => absurd e (by simp), fun _ _ => e⟩
theorem nd_prim {nodes : List Nd} {at_ n : Int} {s : ByteArray} {kids : List Int} {pats : List (List PN)} (h : NdHead ⟨10, at_, n, s, kids, pats⟩) (hall : ∀ k ∈ kids, 0 ≤ k ∧ k < nodes.length) :
    NdOkP nodes ⟨10, at_, n, s, kids, pats⟩ ↔ (primB s = true ∧ pats = [] ∧ (kids.length : Int) = kidsN 10) := by
  constructor
  · intro ⟨_, _, hT, hR⟩
    exact ⟨hT.2.1 rfl, hR.2.2.2 (by simp) (by simp)⟩
  · intro ⟨e0, e⟩
    exact ⟨h, hall, ⟨fun e => absurd e (by simp [namedK]), fun _ => e0, fun _ e _ _ => absurd rfl e⟩, fun e => absurd e (by simp), fun e => absurd e (by simp), fun e => absurd e (by simp), fun _ _ => e⟩
theorem nd_named {nodes : List Nd} {kd at_ n : Int} {s : ByteArray} {kids : List Int} {pats : List (List PN)} (h : NdHead ⟨kd, at_, n, s, kids, pats⟩) (hall : ∀ k ∈ kids, 0 ≤ k ∧ k < nodes.length) (hn : namedK kd) (h8 : kd ≠ 8) :
    NdOkP nodes ⟨kd, at_, n, s, kids, pats⟩ ↔ (nameB s = true ∧ pats = [] ∧ (kids.length : Int) = kidsN kd) := by
  have h4 : kd ≠ 4 := by unfold namedK at hn; omega
  have h5 : kd ≠ 13 := by unfold namedK at hn; omega
  have h10 : kd ≠ 10 := by unfold namedK at hn; omega
  constructor
  · intro ⟨_, _, hT, hR⟩
    exact ⟨hT.1 hn, hR.2.2.2 h4 h5⟩
  · intro ⟨e0, e⟩
    exact ⟨h, hall, ⟨fun _ => e0, fun e => absurd e h10, fun e _ _ _ => absurd hn e⟩, fun e => absurd e h4, fun e => absurd e h5, fun e => absurd e h8, fun _ _ => e⟩
theorem nd_rec {nodes : List Nd} {at_ n : Int} {s : ByteArray} {kids : List Int} {pats : List (List PN)} (h : NdHead ⟨8, at_, n, s, kids, pats⟩) (hall : ∀ k ∈ kids, 0 ≤ k ∧ k < nodes.length) :
    NdOkP nodes ⟨8, at_, n, s, kids, pats⟩ ↔ (nameB s = true ∧ kids.length = 2 ∧ firstKind nodes kids = some 5 ∧ pats = []) := by
  constructor
  · intro ⟨_, _, hT, hR⟩
    exact ⟨hT.1 (by simp [namedK]), (hR.2.2.1 rfl).1, (hR.2.2.1 rfl).2, (hR.2.2.2 (by simp) (by simp)).1⟩
  · intro ⟨e0, e1, e2, e3⟩
    exact ⟨h, hall, ⟨fun _ => e0, fun e => absurd e (by simp), fun e _ _ _ => absurd (by simp [namedK]) e⟩, fun e => absurd e (by simp), fun e => absurd e (by simp), fun _ => ⟨e1, e2⟩, fun _ _ => ⟨e3, by show (kids.length : Int) = kidsN 8; rw [e1]; decide⟩⟩
theorem nd_con {nodes : List Nd} {at_ n : Int} {s : ByteArray} {kids : List Int} {pats : List (List PN)} (h : NdHead ⟨4, at_, n, s, kids, pats⟩) (hall : ∀ k ∈ kids, 0 ≤ k ∧ k < nodes.length) :
    NdOkP nodes ⟨4, at_, n, s, kids, pats⟩ ↔ (pats = [] ∧ conOkB s kids.length (decide (kids.length = 1) && decide (firstKind nodes kids = some 11)) = true) := by
  constructor
  · intro ⟨_, _, hT, hR⟩
    exact hR.1 rfl
  · intro e
    exact ⟨h, hall, ⟨fun e => absurd e (by simp [namedK]), fun e => absurd e (by simp), fun _ _ _ e => absurd rfl e⟩, fun _ => e, fun e => absurd e (by simp), fun e => absurd e (by simp), fun e => absurd rfl e⟩
theorem nd_match {nodes : List Nd} {at_ n : Int} {s : ByteArray} {kids : List Int} {pats : List (List PN)} (h : NdHead ⟨13, at_, n, s, kids, pats⟩) (hall : ∀ k ∈ kids, 0 ≤ k ∧ k < nodes.length) :
    NdOkP nodes ⟨13, at_, n, s, kids, pats⟩ ↔ (s.toList = [] ∧ (∀ q ∈ pats, PatOkP q) ∧ 2 ≤ kids.length ∧ pats.length + 1 = kids.length) := by
  constructor
  · intro ⟨_, _, hT, hR⟩
    exact ⟨hT.2.2 (by simp [namedK]) (by simp) (by simp) (by simp), hR.2.1 rfl⟩
  · intro ⟨e0, e⟩
    exact ⟨h, hall, ⟨fun e => absurd e (by simp [namedK]), fun e => absurd e (by simp), fun _ _ _ _ => e0⟩, fun e => absurd e (by simp), fun _ => e, fun e => absurd e (by simp), fun _ e => absurd rfl e⟩
theorem nil_of_len {α : Type} {l : List α} (h : l.length = 0) : l = [] := List.eq_nil_of_length_eq_zero h
theorem ne_nil_of_len {α : Type} {l : List α} (h : ¬ l.length = 0) : l ≠ [] := fun e => h (by rw [e]; rfl)
theorem first_at {nodes : List Nd} {kids : List Int} {m : Nat} (h : 0 < kids.length) (hm : m < nodes.length) (hy : (m : Int) = kids[0]) : firstKind nodes kids = some nodes[m].kind := by
  cases kids with
  | nil => simp at h
  | cons y ks =>
    simp only [List.getElem_cons_zero] at hy
    subst hy
    simp [firstKind, List.getElem?_eq_getElem hm]
end Go.Proofs.YtilincaedjhnpaaGreat
