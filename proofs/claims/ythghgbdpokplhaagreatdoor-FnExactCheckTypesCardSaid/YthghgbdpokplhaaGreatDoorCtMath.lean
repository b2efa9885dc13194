/- Plain mathematics of type declarations: which code, at which type. -/
import Derived.Test.YthghgbdpokplhaaGreatDoorOkIMath
namespace Go.Proofs.YthghgbdpokplhaaGreatDoor
set_option linter.unusedVariables false
open Go.RowKit

def nmInt : List UInt8 := [105, 110, 116]
def nmBool : List UInt8 := [98, 111, 111, 108]
def nmString : List UInt8 := [115, 116, 114, 105, 110, 103]
def nmUnit : List UInt8 := [117, 110, 105, 116]
def nmList : List UInt8 := [108, 105, 115, 116]
def nmRef : List UInt8 := [114, 101, 102]
/-- The arity of a given type, or -1. -/
def givenI (s : ByteArray) : Int :=
  if s.toList = [105, 110, 116] then 0 else if s.toList = [98, 111, 111, 108] then 0 else if s.toList = [115, 116, 114, 105, 110, 103] then 0 else if s.toList = [117, 110, 105, 116] then 0
  else if s.toList = [108, 105, 115, 116] then 1 else if s.toList = [114, 101, 102] then 1 else if s.toList = [45, 62] then 2 else if s.toList = [42] then 2 else -1
theorem given_bd (s : ByteArray) : -1 ≤ givenI s ∧ givenI s ≤ 2 := by
  unfold givenI
  repeat' split
  all_goals omega
def KnownP (ts : List Tp) (x : TyI) : Prop := x.name.toList = [] ∨ givenI x.name = x.arity ∨ ∃ t ∈ ts, t.name.toList = x.name.toList ∧ t.params = x.arity
def TakenP (ts : List Tp) (i : Nat) (t : Tp) : Prop := 0 ≤ givenI t.name ∨ ∃ u ∈ ts.take i, u.name.toList = t.name.toList
def ConInP (ts : List Tp) (s : ByteArray) : Prop := ∃ u ∈ ts, ∃ d ∈ u.cons, d.name.toList = s.toList
def TwiceCP (ts : List Tp) (i : Nat) (t : Tp) : Prop := ∃ k, ∃ hk : k < t.cons.length, ConInP (ts.take i) t.cons[k].name ∨ ∃ d ∈ t.cons.take k, d.name.toList = t.cons[k].name.toList
def UnknP (ts : List Tp) (t : Tp) : Prop := ∃ c ∈ t.cons, ∃ x ∈ c.arg, ¬ KnownP ts x
noncomputable def knownB (ts : List Tp) (x : TyI) : Bool := propB (KnownP ts x)
noncomputable def takenB (ts : List Tp) (i : Nat) (t : Tp) : Bool := propB (TakenP ts i t)
noncomputable def conInB (ts : List Tp) (s : ByteArray) : Bool := propB (ConInP ts s)
noncomputable def twiceCB (ts : List Tp) (i : Nat) (t : Tp) : Bool := propB (TwiceCP ts i t)
noncomputable def unknB (ts : List Tp) (t : Tp) : Bool := propB (UnknP ts t)
/-- The first code for the type at a place. -/
noncomputable def ctCode (ts : List Tp) (i : Nat) : Int := match ts[i]? with
  | none => 0
  | some t => if takenB ts i t = true then 11 else if twiceCB ts i t = true then 12 else if unknB ts t = true then 13 else 0
theorem ct_code (ts : List Tp) (i : Nat) (h : i < ts.length) : ctCode ts i = if takenB ts i ts[i] = true then 11 else if twiceCB ts i ts[i] = true then 12 else if unknB ts ts[i] = true then 13 else 0 := by
  unfold ctCode
  rw [List.getElem?_eq_getElem h]
/-- The first code of all, with its place. -/
noncomputable def ctRes (p : Pg) : Int × Int :=
  if pgOkB p = true then (match (List.range p.types.length).find? (fun i => decide (ctCode p.types i ≠ 0)) with
    | some i => (ctCode p.types i, (i : Int))
    | none => (0, 0))
  else (1, 0)
theorem ct_no {p : Pg} (h : pgOkB p = false) : ctRes p = (1, 0) := by
  unfold ctRes
  rw [h]
  rfl
theorem ct_at {p : Pg} (h : pgOkB p = true) {i : Nat} (hi : i < p.types.length) (h0 : ∀ j, j < i → ctCode p.types j = 0) {c : Int} (hc : ctCode p.types i = c) (hn : c ≠ 0) : ctRes p = (c, (i : Int)) := by
  have : (List.range p.types.length).find? (fun i => decide (ctCode p.types i ≠ 0)) = some i := by
    rw [List.find?_eq_some_iff_getElem]
    refine ⟨by simp [hc, hn], i, by simpa using hi, by simp, fun j hj => ?_⟩
    simp [h0 j hj]
  unfold ctRes
  rw [if_pos h, this]
  simp only [hc]
theorem ct_all {p : Pg} (h : pgOkB p = true) (h0 : ∀ j, j < p.types.length → ctCode p.types j = 0) : ctRes p = (0, 0) := by
  have : (List.range p.types.length).find? (fun i => decide (ctCode p.types i ≠ 0)) = none := by
    rw [List.find?_eq_none]
    intro j hj
    simp [h0 j (by simpa using hj)]
  unfold ctRes
  rw [if_pos h, this]
theorem ct_bd (p : Pg) (hl : p.types.length ≤ 1048576) : I64 (ctRes p).1 ∧ I64 (ctRes p).2 := by
  have hc : ∀ i, 0 ≤ ctCode p.types i ∧ ctCode p.types i ≤ 13 := by
    intro i
    unfold ctCode
    split
    · omega
    · split
      · omega
      · split
        · omega
        · split <;> omega
  unfold ctRes I64
  split
  · split
    · next i hi =>
      have h1 := hc i
      have h2 := List.mem_of_find?_eq_some hi
      simp only [List.mem_range] at h2
      refine ⟨by show _ ≤ ctCode p.types i ∧ _; omega, by show _ ≤ (i : Int) ∧ _; omega⟩
    · exact ⟨by show _ ≤ (0 : Int) ∧ _; omega, by show _ ≤ (0 : Int) ∧ _; omega⟩
  · exact ⟨by show _ ≤ (1 : Int) ∧ _; omega, by show _ ≤ (0 : Int) ∧ _; omega⟩
theorem ct11 {ts : List Tp} {i : Nat} (h : i < ts.length) (h1 : takenB ts i ts[i] = true) : ctCode ts i = 11 := by rw [ct_code ts i h, if_pos h1]
theorem ct12 {ts : List Tp} {i : Nat} (h : i < ts.length) (h1 : takenB ts i ts[i] = false) (h2 : twiceCB ts i ts[i] = true) : ctCode ts i = 12 := by rw [ct_code ts i h, if_neg (by rw [h1]; simp), if_pos h2]
theorem ct13 {ts : List Tp} {i : Nat} (h : i < ts.length) (h1 : takenB ts i ts[i] = false) (h2 : twiceCB ts i ts[i] = false) (h3 : unknB ts ts[i] = true) : ctCode ts i = 13 := by
  rw [ct_code ts i h, if_neg (by rw [h1]; simp), if_neg (by rw [h2]; simp), if_pos h3]
theorem ct00 {ts : List Tp} {i : Nat} (h : i < ts.length) (h1 : takenB ts i ts[i] = false) (h2 : twiceCB ts i ts[i] = false) (h3 : unknB ts ts[i] = false) : ctCode ts i = 0 := by
  rw [ct_code ts i h, if_neg (by rw [h1]; simp), if_neg (by rw [h2]; simp), if_neg (by rw [h3]; simp)]
theorem all_step {α : Type} (f : α → Bool) (l : List α) (k : Nat) (h : k < l.length) (h0 : (l.take k).all f = true) (h1 : f l[k] = true) : (l.take (k + 1)).all f = true := by
  rw [List.take_succ_eq_append_getElem h, List.all_append, h0]
  simp [h1]
theorem all_no {α : Type} (f : α → Bool) (l : List α) (k : Nat) (h : k < l.length) (h1 : f l[k] = false) : l.all f = false := by
  rw [List.all_eq_false]
  exact ⟨l[k], List.getElem_mem h, by rw [h1]; simp⟩
theorem any_stepB {α : Type} (f : α → Bool) (l : List α) (k : Nat) (h : k < l.length) : (l.take (k + 1)).any f = ((l.take k).any f || f l[k]) := by
  rw [List.take_succ_eq_append_getElem h, List.any_append]
  simp
/-- A name and an arity that are known. -/
def knownNB (ts : List Tp) (s : ByteArray) (n : Int) : Bool := decide (givenI s = n) || ts.any fun t => t.name.toList == s.toList && decide (t.params = n)
/-! What the program's closures ask. -/
def sameNB (s : ByteArray) (u : ByteArray) : Bool := u.toList == s.toList
theorem taken_is (ts : List Tp) (i : Nat) (t : Tp) : takenB ts i t = (decide (0 ≤ givenI t.name) || (ts.take i).any fun u => sameNB t.name u.name) := by
  unfold takenB
  by_cases h : TakenP ts i t
  · rw [propB_t h]
    symm
    rw [Bool.or_eq_true, List.any_eq_true]
    rcases h with h | ⟨u, hu, e⟩
    · exact .inl (decide_eq_true h)
    · exact .inr ⟨u, hu, by simp [sameNB, e]⟩
  · rw [propB_f h]
    symm
    rw [Bool.or_eq_false_iff, List.any_eq_false]
    refine ⟨decide_eq_false fun h1 => h (.inl h1), fun u hu he => h (.inr ⟨u, hu, ?_⟩)⟩
    simpa [sameNB] using he
theorem known_is (ts : List Tp) (x : TyI) : knownB ts x = (decide (x.name.toList = []) || (decide (givenI x.name = x.arity) || ts.any fun t => sameNB x.name t.name && decide (t.params = x.arity))) := by
  unfold knownB
  by_cases h : KnownP ts x
  · rw [propB_t h]
    symm
    rw [Bool.or_eq_true, Bool.or_eq_true, List.any_eq_true]
    rcases h with h | h | ⟨t, ht, e1, e2⟩
    · exact .inl (decide_eq_true h)
    · exact .inr (.inl (decide_eq_true h))
    · exact .inr (.inr ⟨t, ht, by simp [sameNB, e1, e2]⟩)
  · rw [propB_f h]
    symm
    rw [Bool.or_eq_false_iff, Bool.or_eq_false_iff, List.any_eq_false]
    refine ⟨decide_eq_false fun h1 => h (.inl h1), decide_eq_false fun h1 => h (.inr (.inl h1)), fun t ht he => h (.inr (.inr ⟨t, ht, ?_⟩))⟩
    simpa [sameNB] using he
theorem unkn_is (ts : List Tp) (t : Tp) : unknB ts t = !(t.cons.all fun c => c.arg.all (knownB ts)) := by
  unfold unknB
  by_cases h : UnknP ts t
  · rw [propB_t h]
    obtain ⟨c, hc, x, hx, hn⟩ := h
    have : (t.cons.all fun c => c.arg.all (knownB ts)) = false := by
      rw [List.all_eq_false]
      refine ⟨c, hc, ?_⟩
      rw [Bool.not_eq_true, List.all_eq_false]
      exact ⟨x, hx, by rw [knownB, propB_f hn]; simp⟩
    rw [this]; rfl
  · rw [propB_f h]
    have : (t.cons.all fun c => c.arg.all (knownB ts)) = true := by
      rw [List.all_eq_true]
      intro c hc
      rw [List.all_eq_true]
      intro x hx
      by_cases hk : KnownP ts x
      · exact propB_t hk
      · exact absurd ⟨c, hc, x, hx, hk⟩ h
    rw [this]; rfl
theorem conIn_is (ts : List Tp) (s : ByteArray) : conInB ts s = ts.any fun u => u.cons.any fun d => sameNB s d.name := by
  unfold conInB
  by_cases h : ConInP ts s
  · rw [propB_t h]
    obtain ⟨u, hu, d, hd, e⟩ := h
    symm
    rw [List.any_eq_true]
    exact ⟨u, hu, by rw [List.any_eq_true]; exact ⟨d, hd, by simp [sameNB, e]⟩⟩
  · rw [propB_f h]
    symm
    rw [List.any_eq_false]
    intro u hu he
    rw [List.any_eq_true] at he
    obtain ⟨d, hd, e⟩ := he
    exact h ⟨u, hu, d, hd, by simpa [sameNB] using e⟩
theorem known_nb (ts : List Tp) (x : TyI) : knownB ts x = (decide (x.name.toList = []) || knownNB ts x.name x.arity) := by
  rw [known_is]; rfl
/-- One that repeats. -/
noncomputable def repB (ts : List Tp) (i : Nat) (t : Tp) (k : Nat) : Bool := match t.cons[k]? with
  | none => false
  | some c => conInB (ts.take i) c.name || (t.cons.take k).any fun d => sameNB c.name d.name
theorem rep_is (ts : List Tp) (i : Nat) (t : Tp) (k : Nat) (h : k < t.cons.length) : repB ts i t k = (conInB (ts.take i) t.cons[k].name || (t.cons.take k).any fun d => sameNB t.cons[k].name d.name) := by
  unfold repB
  rw [List.getElem?_eq_getElem h]
theorem twc_yes {ts : List Tp} {i : Nat} {t : Tp} {k : Nat} (hk : k < t.cons.length) (h : repB ts i t k = true) : twiceCB ts i t = true := by
  rw [rep_is ts i t k hk, Bool.or_eq_true, List.any_eq_true] at h
  refine propB_t ⟨k, hk, ?_⟩
  rcases h with h | ⟨d, hd, e⟩
  · exact .inl (propB_iff.1 h)
  · exact .inr ⟨d, hd, by simpa [sameNB] using e⟩
theorem twc_no {ts : List Tp} {i : Nat} {t : Tp} (h : ∀ k, k < t.cons.length → repB ts i t k = false) : twiceCB ts i t = false := by
  refine propB_f ?_
  rintro ⟨k, hk, hp⟩
  have := h k hk
  rw [rep_is ts i t k hk, Bool.or_eq_false_iff, List.any_eq_false] at this
  rcases hp with hp | ⟨d, hd, e⟩
  · have h1 := this.1
    rw [conInB, propB_t hp] at h1; cases h1
  · exact this.2 d hd (by simp [sameNB, e])
/-! What the model asks. -/
def EarlP (ts : List Tp) (i k : Nat) (s : ByteArray) : Prop := ∃ j, j ≤ i ∧ ∃ hj : j < ts.length, ∃ m, ∃ hm : m < ts[j].cons.length, ts[j].cons[m].name.toList = s.toList ∧ (j < i ∨ m < k)
noncomputable def earlB (ts : List Tp) (i k : Nat) (s : ByteArray) : Bool := propB (EarlP ts i k s)
theorem earl_rep (ts : List Tp) (i : Nat) (hi : i < ts.length) (k : Nat) (hk : k < ts[i].cons.length) : earlB ts i k ts[i].cons[k].name = repB ts i ts[i] k := by
  rw [rep_is _ _ _ _ hk]
  unfold earlB
  by_cases h : EarlP ts i k ts[i].cons[k].name
  · rw [propB_t h]
    symm
    obtain ⟨j, hji, hj, m, hm, e, hlt⟩ := h
    rw [Bool.or_eq_true, List.any_eq_true]
    by_cases he : j = i
    · subst he
      have hmk : m < k := by omega
      exact .inr ⟨ts[j].cons[m], by rw [List.mem_take_iff_getElem]; exact ⟨m, by omega, rfl⟩, by simp [sameNB, e]⟩
    · refine .inl (propB_t ⟨ts[j], ?_, ts[j].cons[m], List.getElem_mem hm, e⟩)
      rw [List.mem_take_iff_getElem]
      exact ⟨j, by omega, rfl⟩
  · rw [propB_f h]
    symm
    rw [Bool.or_eq_false_iff, List.any_eq_false]
    refine ⟨propB_f ?_, ?_⟩
    · rintro ⟨u, hu, d, hd, e⟩
      rw [List.mem_take_iff_getElem] at hu
      obtain ⟨j, hj, rfl⟩ := hu
      obtain ⟨m, hm, rfl⟩ := List.getElem_of_mem hd
      exact h ⟨j, by omega, by omega, m, hm, e, .inl (by omega)⟩
    · intro d hd e
      rw [List.mem_take_iff_getElem] at hd
      obtain ⟨m, hm, rfl⟩ := hd
      exact h ⟨i, Nat.le_refl _, hi, m, by omega, by simpa [sameNB] using e, .inr (by omega)⟩
/-- No such constructor so far: in the types before the j-th, and the first m of the j-th. -/
def NoE (ts : List Tp) (i k : Nat) (s : ByteArray) (j m : Nat) : Prop := ∀ j' (hj : j' < ts.length), j' ≤ i → ∀ m' (hm : m' < ts[j'].cons.length), (j' < j ∨ (j' = j ∧ m' < m)) → ts[j'].cons[m'].name.toList = s.toList → ¬ (j' < i ∨ m' < k)
theorem NoE.zero (ts : List Tp) (i k : Nat) (s : ByteArray) : NoE ts i k s 0 0 := fun j' hj _ m' hm h => by omega
theorem NoE.next {ts : List Tp} {i k j : Nat} {s : ByteArray} {n : Nat} (hj : j < ts.length) (hn : n = ts[j].cons.length) (h : NoE ts i k s j n) : NoE ts i k s (j + 1) 0 := fun j' hj' hi m' hm hlt => h j' hj' hi m' hm (by
  subst hn
  rcases hlt with hlt | ⟨_, h0⟩
  · by_cases e : j' = j
    · subst e; exact .inr ⟨rfl, hm⟩
    · exact .inl (by omega)
  · omega)
theorem NoE.step {ts : List Tp} {i k j m : Nat} {s : ByteArray} (hj : j < ts.length) (hm : m < ts[j].cons.length) (h : NoE ts i k s j m) (hn : ts[j].cons[m].name.toList = s.toList → ¬ (j < i ∨ m < k)) : NoE ts i k s j (m + 1) := fun j' hj' hi m' hm' hlt => by
  by_cases e : j' = j ∧ m' = m
  · obtain ⟨rfl, rfl⟩ := e; exact hn
  · exact h j' hj' hi m' hm' (by omega)
theorem NoE.done {ts : List Tp} {i k : Nat} {s : ByteArray} (h : NoE ts i k s (i + 1) 0) : earlB ts i k s = false := by
  refine propB_f ?_
  rintro ⟨j, hji, hj, m, hm, e, hlt⟩
  exact h j hj hji m hm (.inl (by omega)) e hlt
theorem earl_yes {ts : List Tp} {i k j m : Nat} {s : ByteArray} (hji : j ≤ i) (hj : j < ts.length) (hm : m < ts[j].cons.length) (e : ts[j].cons[m].name.toList = s.toList) (hlt : j < i ∨ m < k) : earlB ts i k s = true :=
  propB_t ⟨j, hji, hj, m, hm, e, hlt⟩
end Go.Proofs.YthghgbdpokplhaaGreatDoor
