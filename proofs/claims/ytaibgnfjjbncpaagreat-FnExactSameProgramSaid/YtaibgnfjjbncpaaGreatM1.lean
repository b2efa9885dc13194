/- Texts of this proof, merged: Deep, Data, Arg, Args, Sz. -/
import Derived.WalkKit
import Derived.ProofKit
import Derived.OpenShut
import Derived.ShutString
import Derived.Lib.Hide
import Derived.Lib.SmallJoins
import Derived.Deep.Slices
import Derived.Deep.Fields
import Derived.Test.YtaibgnfjjbncpaaGreatRows
import Derived.WalkSmall
import Derived.StillTailTactics
import Derived.Deep.QuietTactic
import Derived.BigQuiet
import Derived.Outline
namespace Go.Proofs.YtaibgnfjjbncpaaGreat
set_option linter.unusedVariables false
open Go.ChangeShapes Go.WideShapes Go.ChangeAt Go.RowKit

/-- What was there reads as it read. -/
structure Kept (w w' : World) : Prop where
  size : w.heap.size ≤ w'.heap.size
  cell : ∀ b o, b < w.heap.size → w'.cell? ⟨b, o, none⟩ = w.cell? ⟨b, o, none⟩
theorem Kept.refl (w : World) : Kept w w := ⟨Nat.le_refl _, fun _ _ _ => rfl⟩
theorem Kept.of_below {w w' : World} (h : Below w.heap.size w w') : Kept w w' := ⟨h.size, fun b o hb => h.cell (p := ⟨b, o, none⟩) hb⟩
theorem Kept.trans {a b c : World} (h : Kept a b) (k : Kept b c) : Kept a c :=
  ⟨Nat.le_trans h.size k.size, fun x o hx => (k.cell x o (Nat.lt_of_lt_of_le hx h.size)).trans (h.cell x o hx)⟩
theorem Kept.alloc (w : World) (o : Obj) : Kept w (w.alloc o) := Kept.of_below ((Below.refl _ _).alloc (Nat.le_refl _) _)

/-- An element's reader: in block b, at place o. -/
abbrev ElRd (α : Type) := World → Nat → Nat → α → Prop
/-- A slice reads as a list, its elements of n cells. -/
def RowRd {α : Type} (n : Nat) (E : ElRd α) (w : World) (v : Value) (l : List α) : Prop :=
  (l = [] ∧ ∃ a cap, v = .slice a 0 cap) ∨
  ∃ b o cap, v = .slice (some ⟨b, o, none⟩) l.length cap ∧ (l.length ≤ maxLen ∧ l.length ≤ cap) ∧ b < w.heap.size ∧ 0 < l.length ∧ ∀ i (h : i < l.length), E w b (o + i * n) l[i]
/-- A reader that what is kept keeps. -/
def Stable {α : Type} (E : ElRd α) : Prop := ∀ w w' b o x, Kept w w' → b < w.heap.size → E w b o x → E w' b o x
theorem RowRd.kept {α : Type} {n : Nat} {E : ElRd α} (hE : Stable E) {w w' : World} {v : Value} {l : List α} (h : RowRd n E w v l) (k : Kept w w') : RowRd n E w' v l := by
  rcases h with h | ⟨b, o, cap, h1, h2, h3, h4, h5⟩
  · exact .inl h
  · exact .inr ⟨b, o, cap, h1, h2, Nat.lt_of_lt_of_le h3 k.size, h4, fun i hi => hE w w' b _ _ k h3 (h5 i hi)⟩
/-- Its form: a slice of that length; where it holds something, each element lies in its block. -/
theorem RowRd.form {α : Type} {n : Nat} {E : ElRd α} {w : World} {v : Value} {l : List α} (h : RowRd n E w v l) :
    ∃ a cap, v = .slice a l.length cap ∧ l.length ≤ maxLen ∧ (0 < l.length → ∃ b o, a = some ⟨b, o, none⟩ ∧ b < w.heap.size ∧ ∀ i (h : i < l.length), E w b (o + i * n) l[i]) := by
  rcases h with ⟨rfl, a, cap, rfl⟩ | ⟨b, o, cap, h1, h2, h3, h4, h5⟩
  · exact ⟨a, cap, rfl, Nat.zero_le _, fun h => absurd h (by simp)⟩
  · exact ⟨_, cap, h1, h2.1, fun _ => ⟨b, o, rfl, h3, h5⟩⟩
/-- .. and its capacity reaches as far. -/
theorem RowRd.cap {α : Type} {n c m : Nat} {a : Option Addr} {E : ElRd α} {w : World} {l : List α} (h : RowRd n E w (.slice a m c) l) (h0 : 0 < l.length) : l.length ≤ c := by
  rcases h with ⟨rfl, _⟩ | ⟨b, o, cap, h1, h2, h3, h4, h5⟩
  · simp at h0
  · cases h1; exact h2.2
theorem RowRd.mk {α : Type} {n : Nat} {E : ElRd α} {w : World} {a : Option Addr} {cap : Nat} {l : List α} (h2 : l.length ≤ maxLen) (hcap : l.length ≤ cap)
    (h : 0 < l.length → ∃ b o, a = some ⟨b, o, none⟩ ∧ b < w.heap.size ∧ ∀ i (h : i < l.length), E w b (o + i * n) l[i]) : RowRd n E w (.slice a l.length cap) l := by
  by_cases h0 : 0 < l.length
  · obtain ⟨b, o, rfl, h3, h5⟩ := h h0
    exact .inr ⟨b, o, cap, rfl, ⟨h2, hcap⟩, h3, h0, h5⟩
  · obtain rfl : l = [] := List.eq_nil_of_length_eq_zero (by omega)
    exact .inl ⟨rfl, a, cap, rfl⟩

/-- A number that an int holds. -/
def I64 (x : Int) : Prop := -9223372036854775808 ≤ x ∧ x ≤ 9223372036854775807
theorem I64.of_wf {x : Int} (h : (Lit.int .i64 x).wf = true) : I64 x := bounds_i64 h

/-! ### Readers of one cell, and of a row -/
def IntEl : ElRd Int := fun w b o x => w.cell? ⟨b, o, none⟩ = some (.int .i64 x) ∧ I64 x
def StrEl : ElRd ByteArray := fun w b o x => w.cell? ⟨b, o, none⟩ = some (.string x) ∧ x.size ≤ maxLen
def BoolEl : ElRd Bool := fun w b o x => w.cell? ⟨b, o, none⟩ = some (.bool x)
def RowEl {α : Type} (n : Nat) (E : ElRd α) : ElRd (List α) := fun w b o x => ∃ v, w.cell? ⟨b, o, none⟩ = some v ∧ RowRd n E w v x
theorem IntEl.st : Stable IntEl := fun w w' b o x k hb h => ⟨by rw [k.cell _ _ hb]; exact h.1, h.2⟩
theorem StrEl.st : Stable StrEl := fun w w' b o x k hb h => ⟨by rw [k.cell _ _ hb]; exact h.1, h.2⟩
theorem BoolEl.st : Stable BoolEl := fun w w' b o x k hb h => (k.cell _ _ hb).trans h
theorem RowEl.st {α : Type} (n : Nat) {E : ElRd α} (hE : Stable E) : Stable (RowEl n E) := fun w w' b o x k hb ⟨v, h, h'⟩ => ⟨v, (k.cell _ _ hb).trans h, h'.kept hE k⟩
theorem Kept.drew (w : World) : Kept w w.drew := ⟨Nat.le_refl _, fun _ _ _ => rfl⟩
theorem Kept.set {w w' : World} (h : Kept w w') {b o : Nat} (u : Value) (hb : w.heap.size ≤ b) : Kept w (w'.setCell ⟨b, o, none⟩ u) :=
  ⟨by simpa [World.setCell] using h.size, fun c i hc => (World.cell?_setCell_other _ _ _ _ (fun e => by cases e; omega)).trans (h.cell c i hc)⟩
theorem Kept.al3 (w : World) (o o' o2 : Obj) : Kept w (((w.alloc o).alloc o').alloc o2) := ((Kept.alloc _ _).trans (Kept.alloc _ _)).trans (Kept.alloc _ _)
theorem setCell_size (w : World) (p : Addr) (u : Value) : (w.setCell p u).heap.size = w.heap.size := by simp [World.setCell]
theorem Kept.al2 (w : World) (o o' : Obj) : Kept w ((w.alloc o).alloc o') := (Kept.alloc _ _).trans (Kept.alloc _ _)
theorem bcell {W w1 : World} (hb : Below W.heap.size W w1) : (∀ b o, b < W.heap.size → w1.cell? ⟨b, o, none⟩ = W.cell? ⟨b, o, none⟩) ∧ (∀ b o, b < W.heap.size → w1.frozen? ⟨b, o, none⟩ = W.frozen? ⟨b, o, none⟩) :=
  ⟨fun b o h => hb.cell (p := ⟨b, o, none⟩) h, fun b o h => hb.frozen (p := ⟨b, o, none⟩) h⟩
theorem below_tr {w w1 w2 : World} {B : Nat} (h : Below B w w1) (k : Below w1.heap.size w1 w2) (hB : B ≤ w.heap.size := by exact Nat.le_refl _) : Below B w w2 := h.trans (k.mono (Nat.le_trans hB h.size))

/-! ### How much it holds -/
def bulkL {α : Type} (f : α → Nat) : List α → Nat
  | [] => 0
  | x :: l => f x + 1 + bulkL f l
theorem bulkL_snoc {α : Type} (f : α → Nat) (l : List α) (x : α) : bulkL f (l ++ [x]) = bulkL f l + f x + 1 := by
  induction l with
  | nil => simp [bulkL]
  | cons y l ih => simp only [List.cons_append, bulkL, ih]; omega
theorem bulkL_len {α : Type} (f : α → Nat) (l : List α) : l.length ≤ bulkL f l := by
  induction l with
  | nil => simp [bulkL]
  | cons y l ih => simp only [List.length_cons, bulkL]; omega
theorem bulkL_mem {α : Type} (f : α → Nat) (l : List α) (i : Nat) (h : i < l.length) : f l[i] + 1 ≤ bulkL f l := by
  induction l generalizing i with
  | nil => simp at h
  | cons y l ih =>
    cases i with
    | zero => simp only [List.getElem_cons_zero, bulkL]; omega
    | succ i => simp only [List.getElem_cons_succ, bulkL]; have := ih i (by simpa using h); omega
theorem bulkL_take {α : Type} (f : α → Nat) (l : List α) (i : Nat) (h : i < l.length) : bulkL f (l.take (i + 1)) = bulkL f (l.take i) + f l[i] + 1 := by
  rw [List.take_succ_eq_append_getElem h, bulkL_snoc]
theorem bulkL_take_len {α : Type} (f : α → Nat) (l : List α) (i : Nat) (h : i ≤ l.length) : bulkL f l + i ≥ bulkL f (l.take i) + l.length := by
  induction l generalizing i with
  | nil => simp at h; subst h; simp [bulkL]
  | cons y l ih =>
    cases i with
    | zero => have := bulkL_len f (y :: l); simp [bulkL] at this ⊢; omega
    | succ i => simp only [List.take_succ_cons, bulkL, List.length_cons]; have := ih i (by simpa using h); omega
theorem bulkL_take_le {α : Type} (f : α → Nat) (l : List α) (i : Nat) : bulkL f (l.take i) ≤ bulkL f l := by
  induction l generalizing i with
  | nil => simp
  | cons y l ih =>
    cases i with
    | zero => simp [bulkL]
    | succ i => simp only [List.take_succ_cons, bulkL]; have := ih i; omega
def bInt (_ : Int) : Nat := 0
def bStr (s : ByteArray) : Nat := s.size
theorem bulkL_int (l : List Int) : bulkL bInt l = l.length := by
  induction l with
  | nil => rfl
  | cons y l ih => simp only [bulkL, bInt, List.length_cons, ih]; omega
theorem ret_i {k : IntKind} {a b : Int} (h : a = b) : Ending.returned (.int k a) = .returned (.int k b) := by rw [h]

/-! ### What comes in reads so -/
section
variable {H : Type} {enc : TypeId × Value → H} {P : Program} {w : World} {base : Nat} {spare : Nat → Bool} {held : Bool}
/-- The cells from place o on. -/
def CellsAt (w : World) (b o : Nat) (cs : List Value) : Prop := ∀ j (h : j < cs.length), w.cell? ⟨b, o + j, none⟩ = some cs[j]
def Reads (enc : TypeId × Value → H) (P : Program) (w : World) (base : Nat) (spare : Nat → Bool) (held : Bool) {α : Type} (e : TypeId) (n : Nat) (E : ElRd α) : Prop :=
  ∀ fuel cs x b o, DataW.trod enc P w base spare held fuel e cs = some x → cs.length = n → b < w.heap.size → CellsAt w b o cs → ∃ y, E w b o y
theorem list_of {α : Type} (n : Nat) (Q : Nat → α → Prop) (h : ∀ i, i < n → ∃ y, Q i y) : ∃ l : List α, l.length = n ∧ ∀ i (hi : i < l.length), Q i l[i] := by
  induction n with
  | zero => exact ⟨[], rfl, fun i hi => absurd hi (by simp)⟩
  | succ n ih =>
    obtain ⟨l, hl, hq⟩ := ih fun i hi => h i (by omega)
    obtain ⟨y, hy⟩ := h n (by omega)
    refine ⟨l ++ [y], by simp [hl], fun i hi => ?_⟩
    by_cases hlt : i < l.length
    · rw [List.getElem_append_left hlt]; exact hq i hlt
    · obtain rfl : i = n := by simp at hi; omega
      rw [List.getElem_append_right (by omega)]
      simpa [hl] using hy
theorem reads_row {α : Type} {E : ElRd α} {t e : TypeId} {n fuel : Nat} {v : Value} {x : DataW H × List MemPlace} (ht : P.underlying t = some (.slice e)) (hC : P.cellsOf e = n) (hn : 0 < n)
    (hE : Reads enc P w base spare held e n E) (h : DataW.trod enc P w base spare held fuel t [v] = some x) : ∃ l, RowRd n E w v l := by
  rcases Go.Deep.open_slice ht h with ⟨h0, _⟩ | ⟨a, len, cap, m, k, D, Pl, hcs, hb, hl, hm, hmm, hx, hi⟩
  · exact ⟨[], .inl ⟨rfl, none, 0, by simpa using h0⟩⟩
  · obtain rfl : v = .slice (some a) len cap := by simpa using hcs
    have hlm : len ≤ m := by rw [hmm]; split <;> omega
    by_cases h0 : len = 0
    · subst h0; exact ⟨[], .inl ⟨rfl, _, _, rfl⟩⟩
    · have hcell : ∀ i, i < m → ∃ cs', cs'.length = n ∧ (∀ j (h : j < cs'.length), w.cell? ((a.add (i * n)).add j) = some cs'[j]) ∧ DataW.trod enc P w base spare held k e cs' = some (D i, Pl i) := by
        intro i him
        obtain ⟨cs', hc, ht'⟩ := hi i him
        rw [hC] at hc
        obtain ⟨_, hcl, hat⟩ := World.cells?_some hc
        refine ⟨cs', hcl, fun j hj => ?_, ht'⟩
        rw [hat j (by omega), List.getElem?_eq_getElem hj]
      obtain ⟨cs0, hl0, hc0, _⟩ := hcell 0 (by omega)
      have hspot : a.spot = none := by
        have := hc0 0 (by omega)
        have := World.cell?_spot this
        simpa [Addr.add] using this
      obtain ⟨b, o, sp⟩ := a
      simp only at hspot
      subst hspot
      have hadd : ∀ i j, ((⟨b, o, none⟩ : Addr).add (i * n)).add j = ⟨b, o + i * n + j, none⟩ := by
        intro i j; simp only [Addr.add]; split <;> split <;> simp_all
      have hblt : b < w.heap.size := by
        have := hc0 0 (by omega)
        rw [hadd] at this
        exact World.block_lt_of_cell? w _ this
      obtain ⟨l, hll, hq⟩ := list_of len (fun i y => E w b (o + i * n) y) (fun i hil => by
        obtain ⟨cs', hcl, hc, ht'⟩ := hcell i (by omega)
        exact hE k cs' _ b _ ht' hcl hblt (fun j hj => by rw [← hadd]; exact hc j hj))
      refine ⟨l, .inr ⟨b, o, cap, by rw [hll], ⟨by omega, by omega⟩, hblt, by omega, hq⟩⟩
theorem struct_cells {t : TypeId} {fs : Array Field} {fuel : Nat} {cs : List Value} {x : DataW H × List MemPlace} (ht : P.underlying t = some (.struct fs)) (h : DataW.trod enc P w base spare held fuel t cs = some x) :
    ∃ m, ∀ (i : Nat) (f : Field), fs[i]? = some f → ∃ y, DataW.trod enc P w base spare held m f.type ((cs.drop f.offset).take (P.cellsOf f.type)) = some y := by
  obtain ⟨xs, m, _, _, _, hlen, hf⟩ := DataW.trod_struct ht h
  refine ⟨m, fun i f hi => ?_⟩
  have hil : i < fs.size := (Array.getElem?_eq_some_iff.1 hi).1
  exact ⟨_, (hf i f hi).trans (List.getElem?_eq_getElem (by omega))⟩
theorem one_of {cs : List Value} {o : Nat} (h : o < cs.length) : (cs.drop o).take 1 = [cs[o]] := by
  rw [List.drop_eq_getElem_cons h]; rfl
theorem reads_str {t : TypeId} (ht : P.underlying t = some .string) : Reads enc P w base spare held t 1 StrEl := by
  intro fuel cs x b o h hl hb hc
  obtain ⟨n, rfl, _, hw⟩ := DataW.trod_string ht h
  exact ⟨n, by simpa using hc 0 (by simp), hw⟩
theorem reads_int {t : TypeId} (ht : P.underlying t = some (.int .i64)) : Reads enc P w base spare held t 1 IntEl := by
  intro fuel cs x b o h hl hb hc
  obtain ⟨n, rfl, _, hw⟩ := DataW.trod_int ht h
  exact ⟨n, by simpa using hc 0 (by simp), I64.of_wf hw⟩
/-- A field of a struct, by its kind: the cell and what it reads as. -/
theorem field_int {cs : List Value} {b o : Nat} {f : Field} {m : Nat} (hc : CellsAt w b o cs) (hl : f.offset < cs.length) (h1 : P.cellsOf f.type = 1) (ht : P.underlying f.type = some (.int .i64))
    (h : ∃ y, DataW.trod enc P w base spare held m f.type ((cs.drop f.offset).take (P.cellsOf f.type)) = some y) : ∃ x : Int, w.cell? ⟨b, o + f.offset, none⟩ = some (.int .i64 x) ∧ I64 x := by
  obtain ⟨y, hy⟩ := h
  rw [h1, one_of hl] at hy
  obtain ⟨n, hn, _, hw⟩ := DataW.trod_int ht hy
  exact ⟨n, by rw [hc _ hl]; simpa using hn, I64.of_wf hw⟩
theorem field_str {cs : List Value} {b o : Nat} {f : Field} {m : Nat} (hc : CellsAt w b o cs) (hl : f.offset < cs.length) (h1 : P.cellsOf f.type = 1) (ht : P.underlying f.type = some .string)
    (h : ∃ y, DataW.trod enc P w base spare held m f.type ((cs.drop f.offset).take (P.cellsOf f.type)) = some y) : ∃ x : ByteArray, w.cell? ⟨b, o + f.offset, none⟩ = some (.string x) ∧ x.size ≤ maxLen := by
  obtain ⟨y, hy⟩ := h
  rw [h1, one_of hl] at hy
  obtain ⟨n, hn, _, hw⟩ := DataW.trod_string ht hy
  exact ⟨n, by rw [hc _ hl]; simpa using hn, hw⟩
theorem field_bool {cs : List Value} {b o : Nat} {f : Field} {m : Nat} (hc : CellsAt w b o cs) (hl : f.offset < cs.length) (h1 : P.cellsOf f.type = 1) (ht : P.underlying f.type = some .bool)
    (h : ∃ y, DataW.trod enc P w base spare held m f.type ((cs.drop f.offset).take (P.cellsOf f.type)) = some y) : ∃ x : Bool, w.cell? ⟨b, o + f.offset, none⟩ = some (.bool x) := by
  obtain ⟨y, hy⟩ := h
  rw [h1, one_of hl] at hy
  obtain ⟨n, hn, _⟩ := DataW.trod_bool ht hy
  exact ⟨n, by rw [hc _ hl]; simpa using hn⟩
theorem field_row {α : Type} {E : ElRd α} {n : Nat} {e : TypeId} {cs : List Value} {b o : Nat} {f : Field} {m : Nat} (hc : CellsAt w b o cs) (hl : f.offset < cs.length) (h1 : P.cellsOf f.type = 1) (ht : P.underlying f.type = some (.slice e))
    (hC : P.cellsOf e = n) (hn : 0 < n) (hE : Reads enc P w base spare held e n E)
    (h : ∃ y, DataW.trod enc P w base spare held m f.type ((cs.drop f.offset).take (P.cellsOf f.type)) = some y) : ∃ v l, w.cell? ⟨b, o + f.offset, none⟩ = some v ∧ RowRd n E w v l := by
  obtain ⟨y, hy⟩ := h
  rw [h1, one_of hl] at hy
  obtain ⟨l, hr⟩ := reads_row ht hC hn hE hy
  exact ⟨_, l, hc _ hl, hr⟩
theorem field_st {α : Type} {E : ElRd α} {n : Nat} {cs : List Value} {b o : Nat} {f : Field} {m : Nat} (hb : b < w.heap.size) (hc : CellsAt w b o cs) (hl : f.offset + n ≤ cs.length) (h1 : P.cellsOf f.type = n)
    (hE : Reads enc P w base spare held f.type n E) (h : ∃ y, DataW.trod enc P w base spare held m f.type ((cs.drop f.offset).take (P.cellsOf f.type)) = some y) : ∃ y, E w b (o + f.offset) y := by
  obtain ⟨y, hy⟩ := h
  rw [h1] at hy
  have hlen : ((cs.drop f.offset).take n).length = n := by simp; omega
  refine hE m _ y b (o + f.offset) hy hlen hb fun j hj => ?_
  rw [hlen] at hj
  have := hc (f.offset + j) (by omega)
  rw [← Nat.add_assoc] at this
  rw [this]
  simp
/-- A field of a struct by value. -/
theorem arg_int {cs : List Value} {f : Field} {m : Nat} (hl : f.offset < cs.length) (h1 : P.cellsOf f.type = 1) (ht : P.underlying f.type = some (.int .i64))
    (h : ∃ y, DataW.trod enc P w base spare held m f.type ((cs.drop f.offset).take (P.cellsOf f.type)) = some y) : ∃ x : Int, cs[f.offset] = .int .i64 x ∧ I64 x := by
  obtain ⟨y, hy⟩ := h
  rw [h1, one_of hl] at hy
  obtain ⟨n, hn, _, hw⟩ := DataW.trod_int ht hy
  exact ⟨n, by simpa using hn, I64.of_wf hw⟩
theorem arg_str {cs : List Value} {f : Field} {m : Nat} (hl : f.offset < cs.length) (h1 : P.cellsOf f.type = 1) (ht : P.underlying f.type = some .string)
    (h : ∃ y, DataW.trod enc P w base spare held m f.type ((cs.drop f.offset).take (P.cellsOf f.type)) = some y) : ∃ x : ByteArray, cs[f.offset] = .string x ∧ x.size ≤ maxLen := by
  obtain ⟨y, hy⟩ := h
  rw [h1, one_of hl] at hy
  obtain ⟨n, hn, _, hw⟩ := DataW.trod_string ht hy
  exact ⟨n, by simpa using hn, hw⟩
theorem arg_bool {cs : List Value} {f : Field} {m : Nat} (hl : f.offset < cs.length) (h1 : P.cellsOf f.type = 1) (ht : P.underlying f.type = some .bool)
    (h : ∃ y, DataW.trod enc P w base spare held m f.type ((cs.drop f.offset).take (P.cellsOf f.type)) = some y) : ∃ x : Bool, cs[f.offset] = .bool x := by
  obtain ⟨y, hy⟩ := h
  rw [h1, one_of hl] at hy
  obtain ⟨n, hn, _⟩ := DataW.trod_bool ht hy
  exact ⟨n, by simpa using hn⟩
theorem arg_row {α : Type} {E : ElRd α} {n : Nat} {e : TypeId} {cs : List Value} {f : Field} {m : Nat} (hl : f.offset < cs.length) (h1 : P.cellsOf f.type = 1) (ht : P.underlying f.type = some (.slice e))
    (hC : P.cellsOf e = n) (hn : 0 < n) (hE : Reads enc P w base spare held e n E)
    (h : ∃ y, DataW.trod enc P w base spare held m f.type ((cs.drop f.offset).take (P.cellsOf f.type)) = some y) : ∃ l, RowRd n E w cs[f.offset] l := by
  obtain ⟨y, hy⟩ := h
  rw [h1, one_of hl] at hy
  exact reads_row ht hC hn hE hy
end
theorem arg_fields {H : Type} {enc : TypeId × Value → H} {P : Program} {w : World} {base b0 : Nat} {spare : Nat → Bool} {held : Bool} {r : Reach} {t : TypeId} {fs : Array Field} {v : Value} {d : DataW H} {ps : List MemPlace} (ht : P.underlying t = some (.struct fs))
    (hv : Value.okWide P w r b0 t v) (h : DataW.Trod enc P w base spare held t v d ps) :
    ∃ cs : List Value, v = .agg cs.toArray ∧ cs.length = P.cellsOf t ∧ ∃ m, ∀ (i : Nat) (f : Field), fs[i]? = some f → ∃ y, DataW.trod enc P w base spare held m f.type ((cs.drop f.offset).take (P.cellsOf f.type)) = some y := by
  obtain ⟨cs, rfl, hsz⟩ := okWide_struct ht hv
  obtain ⟨l⟩ := cs
  obtain ⟨fuel, hf⟩ := h
  exact ⟨l, rfl, hsz, struct_cells ht hf⟩
theorem arg_slice {H : Type} {enc : TypeId × Value → H} {P : Program} {w : World} {base : Nat} {spare : Nat → Bool} {held : Bool} {α : Type} {E : ElRd α} {n : Nat} {t e : TypeId} {v : Value} {d : DataW H} {ps : List MemPlace}
    (ht : P.underlying t = some (.slice e)) (hC : P.cellsOf e = n) (hn : 0 < n) (hE : Reads enc P w base spare held e n E) (hv1 : v.cells = #[v]) (h : DataW.Trod enc P w base spare held t v d ps) : ∃ l, RowRd n E w v l := by
  obtain ⟨fuel, hf⟩ := h
  rw [hv1] at hf
  exact reads_row ht hC hn hE hf
end Go.Proofs.YtaibgnfjjbncpaaGreat
namespace Go.Proofs.YtaibgnfjjbncpaaGreat
set_option linter.unusedVariables false
set_option maxRecDepth 100000
open Go.ChangeShapes Go.WideShapes Go.ChangeAt Go.RowKit
structure Tok_ where
  kind : Int
  n : Int
  s : ByteArray
  at_ : Int
def TokEl : ElRd Tok_ := fun w b o x => IntEl w b o x.kind ∧ IntEl w b (o + 1) x.n ∧ StrEl w b (o + 2) x.s ∧ IntEl w b (o + 3) x.at_
theorem TokEl.st : Stable TokEl := fun w w' b o x k hb ⟨h0, h1, h2, h3⟩ => ⟨IntEl.st w w' b _ _ k hb h0, IntEl.st w w' b _ _ k hb h1, StrEl.st w w' b _ _ k hb h2, IntEl.st w w' b _ _ k hb h3⟩
def bTok (x : Tok_) : Nat := x.s.size
structure TyI where
  var : Int
  name : ByteArray
  arity : Int
def TyIEl : ElRd TyI := fun w b o x => IntEl w b o x.var ∧ StrEl w b (o + 1) x.name ∧ IntEl w b (o + 2) x.arity
theorem TyIEl.st : Stable TyIEl := fun w w' b o x k hb ⟨h0, h1, h2⟩ => ⟨IntEl.st w w' b _ _ k hb h0, StrEl.st w w' b _ _ k hb h1, IntEl.st w w' b _ _ k hb h2⟩
def bTyI (x : TyI) : Nat := x.name.size
def TyEl : ElRd (List TyI) := RowEl 3 TyIEl
theorem TyEl.st : Stable TyEl := RowEl.st 3 TyIEl.st
def bTy (x : List TyI) : Nat := bulkL bTyI x
structure PN where
  kind : Int
  n : Int
  s : ByteArray
  kids : List Int
def PNEl : ElRd PN := fun w b o x => IntEl w b o x.kind ∧ IntEl w b (o + 1) x.n ∧ StrEl w b (o + 2) x.s ∧ (RowEl 1 IntEl) w b (o + 3) x.kids
theorem PNEl.st : Stable PNEl := fun w w' b o x k hb ⟨h0, h1, h2, h3⟩ => ⟨IntEl.st w w' b _ _ k hb h0, IntEl.st w w' b _ _ k hb h1, StrEl.st w w' b _ _ k hb h2, (RowEl.st 1 IntEl.st) w w' b _ _ k hb h3⟩
def bPN (x : PN) : Nat := x.s.size + bulkL bInt x.kids
def PatEl : ElRd (List PN) := RowEl 4 PNEl
theorem PatEl.st : Stable PatEl := RowEl.st 4 PNEl.st
def bPat (x : List PN) : Nat := bulkL bPN x
structure Cn where
  name : ByteArray
  has : Bool
  arg : List TyI
def CnEl : ElRd Cn := fun w b o x => StrEl w b o x.name ∧ BoolEl w b (o + 1) x.has ∧ TyEl w b (o + 2) x.arg
theorem CnEl.st : Stable CnEl := fun w w' b o x k hb ⟨h0, h1, h2⟩ => ⟨StrEl.st w w' b _ _ k hb h0, BoolEl.st w w' b _ _ k hb h1, TyEl.st w w' b _ _ k hb h2⟩
def bCn (x : Cn) : Nat := x.name.size + bTy x.arg
structure Tp where
  name : ByteArray
  params : Int
  cons : List Cn
def TpEl : ElRd Tp := fun w b o x => StrEl w b o x.name ∧ IntEl w b (o + 1) x.params ∧ (RowEl 3 CnEl) w b (o + 2) x.cons
theorem TpEl.st : Stable TpEl := fun w w' b o x k hb ⟨h0, h1, h2⟩ => ⟨StrEl.st w w' b _ _ k hb h0, IntEl.st w w' b _ _ k hb h1, (RowEl.st 3 CnEl.st) w w' b _ _ k hb h2⟩
def bTp (x : Tp) : Nat := x.name.size + bulkL bCn x.cons
structure Nd where
  kind : Int
  at_ : Int
  n : Int
  s : ByteArray
  kids : List Int
  pats : List (List PN)
def NdEl : ElRd Nd := fun w b o x => IntEl w b o x.kind ∧ IntEl w b (o + 1) x.at_ ∧ IntEl w b (o + 2) x.n ∧ StrEl w b (o + 3) x.s ∧ (RowEl 1 IntEl) w b (o + 4) x.kids ∧ (RowEl 1 PatEl) w b (o + 5) x.pats
theorem NdEl.st : Stable NdEl := fun w w' b o x k hb ⟨h0, h1, h2, h3, h4, h5⟩ => ⟨IntEl.st w w' b _ _ k hb h0, IntEl.st w w' b _ _ k hb h1, IntEl.st w w' b _ _ k hb h2, StrEl.st w w' b _ _ k hb h3, (RowEl.st 1 IntEl.st) w w' b _ _ k hb h4, (RowEl.st 1 PatEl.st) w w' b _ _ k hb h5⟩
def bNd (x : Nd) : Nat := x.s.size + bulkL bInt x.kids + bulkL bPat x.pats
structure Pg where
  types : List Tp
  nodes : List Nd
def PgEl : ElRd Pg := fun w b o x => (RowEl 3 TpEl) w b o x.types ∧ (RowEl 6 NdEl) w b (o + 1) x.nodes
theorem PgEl.st : Stable PgEl := fun w w' b o x k hb ⟨h0, h1⟩ => ⟨(RowEl.st 3 TpEl.st) w w' b _ _ k hb h0, (RowEl.st 6 NdEl.st) w w' b _ _ k hb h1⟩
def bPg (x : Pg) : Nat := bulkL bTp x.types + bulkL bNd x.nodes
structure Sb where
  var : Int
  ty : List TyI
def SbEl : ElRd Sb := fun w b o x => IntEl w b o x.var ∧ TyEl w b (o + 1) x.ty
theorem SbEl.st : Stable SbEl := fun w w' b o x k hb ⟨h0, h1⟩ => ⟨IntEl.st w w' b _ _ k hb h0, TyEl.st w w' b _ _ k hb h1⟩
def bSb (x : Sb) : Nat := bTy x.ty
structure DN where
  kind : Int
  n : Int
  s : ByteArray
  kids : List Int
def DNEl : ElRd DN := fun w b o x => IntEl w b o x.kind ∧ IntEl w b (o + 1) x.n ∧ StrEl w b (o + 2) x.s ∧ (RowEl 1 IntEl) w b (o + 3) x.kids
theorem DNEl.st : Stable DNEl := fun w w' b o x k hb ⟨h0, h1, h2, h3⟩ => ⟨IntEl.st w w' b _ _ k hb h0, IntEl.st w w' b _ _ k hb h1, StrEl.st w w' b _ _ k hb h2, (RowEl.st 1 IntEl.st) w w' b _ _ k hb h3⟩
def bDN (x : DN) : Nat := x.s.size + bulkL bInt x.kids
def DataEl : ElRd (List DN) := RowEl 4 DNEl
theorem DataEl.st : Stable DataEl := RowEl.st 4 DNEl.st
def bData (x : List DN) : Nat := bulkL bDN x
structure Oc where
  kind : Int
  n : Int
  trace : List ByteArray
  steps : Int
def OcEl : ElRd Oc := fun w b o x => IntEl w b o x.kind ∧ IntEl w b (o + 1) x.n ∧ (RowEl 1 StrEl) w b (o + 2) x.trace ∧ IntEl w b (o + 3) x.steps
theorem OcEl.st : Stable OcEl := fun w w' b o x k hb ⟨h0, h1, h2, h3⟩ => ⟨IntEl.st w w' b _ _ k hb h0, IntEl.st w w' b _ _ k hb h1, (RowEl.st 1 StrEl.st) w w' b _ _ k hb h2, IntEl.st w w' b _ _ k hb h3⟩
def bOc (x : Oc) : Nat := bulkL bStr x.trace
structure Ins_ where
  op : Int
  a : Int
  b : Int
  s : ByteArray
def InsEl : ElRd Ins_ := fun w b o x => IntEl w b o x.op ∧ IntEl w b (o + 1) x.a ∧ IntEl w b (o + 2) x.b ∧ StrEl w b (o + 3) x.s
theorem InsEl.st : Stable InsEl := fun w w' b o x k hb ⟨h0, h1, h2, h3⟩ => ⟨IntEl.st w w' b _ _ k hb h0, IntEl.st w w' b _ _ k hb h1, IntEl.st w w' b _ _ k hb h2, StrEl.st w w' b _ _ k hb h3⟩
def bIns (x : Ins_) : Nat := x.s.size
structure Cd where
  ins : List Ins_
  pats : List (List PN)
def CdEl : ElRd Cd := fun w b o x => (RowEl 4 InsEl) w b o x.ins ∧ (RowEl 1 PatEl) w b (o + 1) x.pats
theorem CdEl.st : Stable CdEl := fun w w' b o x k hb ⟨h0, h1⟩ => ⟨(RowEl.st 4 InsEl.st) w w' b _ _ k hb h0, (RowEl.st 1 PatEl.st) w w' b _ _ k hb h1⟩
def bCd (x : Cd) : Nat := bulkL bIns x.ins + bulkL bPat x.pats
structure Vl where
  kind : Int
  n : Int
  s : ByteArray
def VlEl : ElRd Vl := fun w b o x => IntEl w b o x.kind ∧ IntEl w b (o + 1) x.n ∧ StrEl w b (o + 2) x.s
theorem VlEl.st : Stable VlEl := fun w w' b o x k hb ⟨h0, h1, h2⟩ => ⟨IntEl.st w w' b _ _ k hb h0, IntEl.st w w' b _ _ k hb h1, StrEl.st w w' b _ _ k hb h2⟩
def bVl (x : Vl) : Nat := x.s.size
structure Ce where
  kind : Int
  n : Int
  s : ByteArray
  a : Vl
  b : Vl
def CeEl : ElRd Ce := fun w b o x => IntEl w b o x.kind ∧ IntEl w b (o + 1) x.n ∧ StrEl w b (o + 2) x.s ∧ VlEl w b (o + 3) x.a ∧ VlEl w b (o + 6) x.b
theorem CeEl.st : Stable CeEl := fun w w' b o x k hb ⟨h0, h1, h2, h3, h6⟩ => ⟨IntEl.st w w' b _ _ k hb h0, IntEl.st w w' b _ _ k hb h1, StrEl.st w w' b _ _ k hb h2, VlEl.st w w' b _ _ k hb h3, VlEl.st w w' b _ _ k hb h6⟩
def bCe (x : Ce) : Nat := x.s.size + bVl x.a + bVl x.b
structure Ak where
  arm : Int
  path : List Int
  kind : Int
  n : Int
  s : ByteArray
  has : Bool
  yes : Int
  no : Int
def AkEl : ElRd Ak := fun w b o x => IntEl w b o x.arm ∧ (RowEl 1 IntEl) w b (o + 1) x.path ∧ IntEl w b (o + 2) x.kind ∧ IntEl w b (o + 3) x.n ∧ StrEl w b (o + 4) x.s ∧ BoolEl w b (o + 5) x.has ∧ IntEl w b (o + 6) x.yes ∧ IntEl w b (o + 7) x.no
theorem AkEl.st : Stable AkEl := fun w w' b o x k hb ⟨h0, h1, h2, h3, h4, h5, h6, h7⟩ => ⟨IntEl.st w w' b _ _ k hb h0, (RowEl.st 1 IntEl.st) w w' b _ _ k hb h1, IntEl.st w w' b _ _ k hb h2, IntEl.st w w' b _ _ k hb h3, StrEl.st w w' b _ _ k hb h4, BoolEl.st w w' b _ _ k hb h5, IntEl.st w w' b _ _ k hb h6, IntEl.st w w' b _ _ k hb h7⟩
def bAk (x : Ak) : Nat := bulkL bInt x.path + x.s.size
def AsksEl : ElRd (List Ak) := RowEl 8 AkEl
theorem AsksEl.st : Stable AsksEl := RowEl.st 8 AkEl.st
def bAsks (x : List Ak) : Nat := bulkL bAk x
structure Po where
  cells : List Ce
  free : List Int
def PoEl : ElRd Po := fun w b o x => (RowEl 9 CeEl) w b o x.cells ∧ (RowEl 1 IntEl) w b (o + 1) x.free
theorem PoEl.st : Stable PoEl := fun w w' b o x k hb ⟨h0, h1⟩ => ⟨(RowEl.st 9 CeEl.st) w w' b _ _ k hb h0, (RowEl.st 1 IntEl.st) w w' b _ _ k hb h1⟩
def bPo (x : Po) : Nat := bulkL bCe x.cells + bulkL bInt x.free
structure Cs where
  name : ByteArray
  lines : List ByteArray
  inputs : List Int
  want : List ByteArray
def CsEl : ElRd Cs := fun w b o x => StrEl w b o x.name ∧ (RowEl 1 StrEl) w b (o + 1) x.lines ∧ (RowEl 1 IntEl) w b (o + 2) x.inputs ∧ (RowEl 1 StrEl) w b (o + 3) x.want
theorem CsEl.st : Stable CsEl := fun w w' b o x k hb ⟨h0, h1, h2, h3⟩ => ⟨StrEl.st w w' b _ _ k hb h0, (RowEl.st 1 StrEl.st) w w' b _ _ k hb h1, (RowEl.st 1 IntEl.st) w w' b _ _ k hb h2, (RowEl.st 1 StrEl.st) w w' b _ _ k hb h3⟩
def bCs (x : Cs) : Nat := x.name.size + bulkL bStr x.lines + bulkL bInt x.inputs + bulkL bStr x.want
structure Ta where
  types : List ByteArray
  defs : List ByteArray
def TaEl : ElRd Ta := fun w b o x => (RowEl 1 StrEl) w b o x.types ∧ (RowEl 1 StrEl) w b (o + 1) x.defs
theorem TaEl.st : Stable TaEl := fun w w' b o x k hb ⟨h0, h1⟩ => ⟨(RowEl.st 1 StrEl.st) w w' b _ _ k hb h0, (RowEl.st 1 StrEl.st) w w' b _ _ k hb h1⟩
def bTa (x : Ta) : Nat := bulkL bStr x.types + bulkL bStr x.defs
end Go.Proofs.YtaibgnfjjbncpaaGreat
namespace Go.Proofs.YtaibgnfjjbncpaaGreat
set_option linter.unusedVariables false
open Go.ChangeShapes Go.WideShapes Go.ChangeAt Go.RowKit

def ArgIn (P : Program) (t : TypeId) (w : World) (v : Value) : Prop :=
  ∃ (H : Type) (enc : TypeId × Value → H) (base : Nat) (d : DataW H) (ps : List MemPlace), Value.okWide P w .any base t v ∧ DataW.Trod enc P w 0 (fun _ => true) true t v d ps
/-- A string that came in. -/
theorem ArgIn.str {P : Program} {t : TypeId} {w : World} {v : Value} (ht : P.underlying t = some .string) (h : ArgIn P t w v) : ∃ s : ByteArray, v = .string s ∧ s.size ≤ maxLen := by
  obtain ⟨H, enc, base, d, ps, ho, hr⟩ := h
  obtain ⟨a0, rfl, rfl, rfl, w0⟩ := Go.ChangeMaps.open_string ht ho hr
  exact ⟨a0, rfl, w0⟩
theorem ArgIn.int {P : Program} {t : TypeId} {k : IntKind} {w : World} {v : Value} (ht : P.underlying t = some (.int k)) (h : ArgIn P t w v) : ∃ n : Int, v = .int k n ∧ (Lit.int k n).wf = true := by
  obtain ⟨H, enc, base, d, ps, ho, hr⟩ := h
  obtain ⟨a0, rfl, rfl, rfl, w0⟩ := open_int ht ho hr
  exact ⟨a0, rfl, w0⟩
end Go.Proofs.YtaibgnfjjbncpaaGreat
namespace Go.Proofs.YtaibgnfjjbncpaaGreat
set_option linter.unusedVariables false
set_option maxRecDepth 100000
open Go.ChangeShapes Go.WideShapes Go.ChangeAt Go.RowKit
section
variable {H : Type} {enc : TypeId × Value → H} {w : World} {base : Nat} {spare : Nat → Bool} {held : Bool}
theorem reads_TyItem : Reads enc Tryz.prog w base spare held 170 3 TyIEl := by
  intro fuel cs x b o h hl hb hc
  obtain ⟨m, hf⟩ := struct_cells Tryz.underlying170 h
  obtain ⟨x0, g0, i0⟩ := field_int hc (by rw [hl]; decide) (by kernel_rfl) Tryz.underlying3 (hf 0 _ rfl)
  obtain ⟨x1, g1, i1⟩ := field_str hc (by rw [hl]; decide) (by kernel_rfl) Tryz.underlying9 (hf 1 _ rfl)
  obtain ⟨x2, g2, i2⟩ := field_int hc (by rw [hl]; decide) (by kernel_rfl) Tryz.underlying3 (hf 2 _ rfl)
  exact ⟨⟨x0, x1, x2⟩, ⟨g0, i0⟩, ⟨g1, i1⟩, ⟨g2, i2⟩⟩
theorem reads_Ty : Reads enc Tryz.prog w base spare held 122 1 TyEl := by
  intro fuel cs x b o h hl hb hc
  obtain ⟨m, hf⟩ := struct_cells Tryz.underlying122 h
  obtain ⟨v0, x0, g0, r0⟩ := field_row hc (by rw [hl]; decide) (by kernel_rfl) Tryz.underlying120 (by kernel_rfl) (by decide) reads_TyItem (hf 0 _ rfl)
  exact ⟨x0, v0, g0, r0⟩
theorem reads_PNode : Reads enc Tryz.prog w base spare held 159 4 PNEl := by
  intro fuel cs x b o h hl hb hc
  obtain ⟨m, hf⟩ := struct_cells Tryz.underlying159 h
  obtain ⟨x0, g0, i0⟩ := field_int hc (by rw [hl]; decide) (by kernel_rfl) Tryz.underlying3 (hf 0 _ rfl)
  obtain ⟨x1, g1, i1⟩ := field_int hc (by rw [hl]; decide) (by kernel_rfl) Tryz.underlying3 (hf 1 _ rfl)
  obtain ⟨x2, g2, i2⟩ := field_str hc (by rw [hl]; decide) (by kernel_rfl) Tryz.underlying9 (hf 2 _ rfl)
  obtain ⟨v3, x3, g3, r3⟩ := field_row hc (by rw [hl]; decide) (by kernel_rfl) Tryz.underlying46 (by kernel_rfl) (by decide) (reads_int Tryz.underlying3) (hf 3 _ rfl)
  exact ⟨⟨x0, x1, x2, x3⟩, ⟨g0, i0⟩, ⟨g1, i1⟩, ⟨g2, i2⟩, ⟨v3, g3, r3⟩⟩
theorem reads_Pat : Reads enc Tryz.prog w base spare held 128 1 PatEl := by
  intro fuel cs x b o h hl hb hc
  obtain ⟨m, hf⟩ := struct_cells Tryz.underlying128 h
  obtain ⟨v0, x0, g0, r0⟩ := field_row hc (by rw [hl]; decide) (by kernel_rfl) Tryz.underlying126 (by kernel_rfl) (by decide) reads_PNode (hf 0 _ rfl)
  exact ⟨x0, v0, g0, r0⟩
theorem reads_Con : Reads enc Tryz.prog w base spare held 124 3 CnEl := by
  intro fuel cs x b o h hl hb hc
  obtain ⟨m, hf⟩ := struct_cells Tryz.underlying124 h
  obtain ⟨x0, g0, i0⟩ := field_str hc (by rw [hl]; decide) (by kernel_rfl) Tryz.underlying9 (hf 0 _ rfl)
  obtain ⟨x1, g1⟩ := field_bool hc (by rw [hl]; decide) (by kernel_rfl) Tryz.underlying4 (hf 1 _ rfl)
  obtain ⟨x2, g2⟩ := field_st (n := 1) hb hc (by rw [hl]; decide) (by kernel_rfl) reads_Ty (hf 2 _ rfl)
  exact ⟨⟨x0, x1, x2⟩, ⟨g0, i0⟩, g1, g2⟩
theorem reads_Type : Reads enc Tryz.prog w base spare held 56 3 TpEl := by
  intro fuel cs x b o h hl hb hc
  obtain ⟨m, hf⟩ := struct_cells Tryz.underlying56 h
  obtain ⟨x0, g0, i0⟩ := field_str hc (by rw [hl]; decide) (by kernel_rfl) Tryz.underlying9 (hf 0 _ rfl)
  obtain ⟨x1, g1, i1⟩ := field_int hc (by rw [hl]; decide) (by kernel_rfl) Tryz.underlying3 (hf 1 _ rfl)
  obtain ⟨v2, x2, g2, r2⟩ := field_row hc (by rw [hl]; decide) (by kernel_rfl) Tryz.underlying54 (by kernel_rfl) (by decide) reads_Con (hf 2 _ rfl)
  exact ⟨⟨x0, x1, x2⟩, ⟨g0, i0⟩, ⟨g1, i1⟩, ⟨v2, g2, r2⟩⟩
theorem reads_Node : Reads enc Tryz.prog w base spare held 60 6 NdEl := by
  intro fuel cs x b o h hl hb hc
  obtain ⟨m, hf⟩ := struct_cells Tryz.underlying60 h
  obtain ⟨x0, g0, i0⟩ := field_int hc (by rw [hl]; decide) (by kernel_rfl) Tryz.underlying3 (hf 0 _ rfl)
  obtain ⟨x1, g1, i1⟩ := field_int hc (by rw [hl]; decide) (by kernel_rfl) Tryz.underlying3 (hf 1 _ rfl)
  obtain ⟨x2, g2, i2⟩ := field_int hc (by rw [hl]; decide) (by kernel_rfl) Tryz.underlying3 (hf 2 _ rfl)
  obtain ⟨x3, g3, i3⟩ := field_str hc (by rw [hl]; decide) (by kernel_rfl) Tryz.underlying9 (hf 3 _ rfl)
  obtain ⟨v4, x4, g4, r4⟩ := field_row hc (by rw [hl]; decide) (by kernel_rfl) Tryz.underlying46 (by kernel_rfl) (by decide) (reads_int Tryz.underlying3) (hf 4 _ rfl)
  obtain ⟨v5, x5, g5, r5⟩ := field_row hc (by rw [hl]; decide) (by kernel_rfl) Tryz.underlying58 (by kernel_rfl) (by decide) reads_Pat (hf 5 _ rfl)
  exact ⟨⟨x0, x1, x2, x3, x4, x5⟩, ⟨g0, i0⟩, ⟨g1, i1⟩, ⟨g2, i2⟩, ⟨g3, i3⟩, ⟨v4, g4, r4⟩, ⟨v5, g5, r5⟩⟩
theorem reads_Program : Reads enc Tryz.prog w base spare held 25 2 PgEl := by
  intro fuel cs x b o h hl hb hc
  obtain ⟨m, hf⟩ := struct_cells Tryz.underlying25 h
  obtain ⟨v0, x0, g0, r0⟩ := field_row hc (by rw [hl]; decide) (by kernel_rfl) Tryz.underlying22 (by kernel_rfl) (by decide) reads_Type (hf 0 _ rfl)
  obtain ⟨v1, x1, g1, r1⟩ := field_row hc (by rw [hl]; decide) (by kernel_rfl) Tryz.underlying23 (by kernel_rfl) (by decide) reads_Node (hf 1 _ rfl)
  exact ⟨⟨x0, x1⟩, ⟨v0, g0, r0⟩, ⟨v1, g1, r1⟩⟩
end
theorem open_TyItem {w : World} {v : Value} (h : ArgIn Tryz.prog 170 w v) : ∃ (x : TyI), v = .agg #[.int .i64 x.var, .string x.name, .int .i64 x.arity] ∧ I64 x.var ∧ x.name.size ≤ maxLen ∧ I64 x.arity := by
  obtain ⟨H, enc, base, d, ps, ho, hr⟩ := h
  obtain ⟨cs, rfl, hl, m, hf⟩ := arg_fields Tryz.underlying170 ho hr
  have hl : cs.length = 3 := hl.trans (by kernel_rfl)
  obtain ⟨x0, g0, i0⟩ := arg_int (by rw [hl]; decide) (by kernel_rfl) Tryz.underlying3 (hf 0 _ rfl)
  obtain ⟨x1, g1, i1⟩ := arg_str (by rw [hl]; decide) (by kernel_rfl) Tryz.underlying9 (hf 1 _ rfl)
  obtain ⟨x2, g2, i2⟩ := arg_int (by rw [hl]; decide) (by kernel_rfl) Tryz.underlying3 (hf 2 _ rfl)
  match cs, hl with
  | [c0, c1, c2], _ =>
    obtain rfl : c0 = _ := g0
    obtain rfl : c1 = _ := g1
    obtain rfl : c2 = _ := g2
    exact ⟨⟨x0, x1, x2⟩, rfl, i0, i1, i2⟩
theorem open_Ty {w : World} {v : Value} (h : ArgIn Tryz.prog 122 w v) : ∃ (x : List TyI) (v0 : Value), v = .agg #[v0] ∧ RowRd 3 TyIEl w v0 x := by
  obtain ⟨H, enc, base, d, ps, ho, hr⟩ := h
  obtain ⟨cs, rfl, hl, m, hf⟩ := arg_fields Tryz.underlying122 ho hr
  have hl : cs.length = 1 := hl.trans (by kernel_rfl)
  obtain ⟨x0, r0⟩ := arg_row (by rw [hl]; decide) (by kernel_rfl) Tryz.underlying120 (by kernel_rfl) (by decide) reads_TyItem (hf 0 _ rfl)
  match cs, hl with
  | [c0], _ =>
    exact ⟨x0, c0, rfl, r0⟩
theorem open_PNode {w : World} {v : Value} (h : ArgIn Tryz.prog 159 w v) : ∃ (x : PN) (v3 : Value), v = .agg #[.int .i64 x.kind, .int .i64 x.n, .string x.s, v3] ∧ I64 x.kind ∧ I64 x.n ∧ x.s.size ≤ maxLen ∧ RowRd 1 IntEl w v3 x.kids := by
  obtain ⟨H, enc, base, d, ps, ho, hr⟩ := h
  obtain ⟨cs, rfl, hl, m, hf⟩ := arg_fields Tryz.underlying159 ho hr
  have hl : cs.length = 4 := hl.trans (by kernel_rfl)
  obtain ⟨x0, g0, i0⟩ := arg_int (by rw [hl]; decide) (by kernel_rfl) Tryz.underlying3 (hf 0 _ rfl)
  obtain ⟨x1, g1, i1⟩ := arg_int (by rw [hl]; decide) (by kernel_rfl) Tryz.underlying3 (hf 1 _ rfl)
  obtain ⟨x2, g2, i2⟩ := arg_str (by rw [hl]; decide) (by kernel_rfl) Tryz.underlying9 (hf 2 _ rfl)
  obtain ⟨x3, r3⟩ := arg_row (by rw [hl]; decide) (by kernel_rfl) Tryz.underlying46 (by kernel_rfl) (by decide) (reads_int Tryz.underlying3) (hf 3 _ rfl)
  match cs, hl with
  | [c0, c1, c2, c3], _ =>
    obtain rfl : c0 = _ := g0
    obtain rfl : c1 = _ := g1
    obtain rfl : c2 = _ := g2
    exact ⟨⟨x0, x1, x2, x3⟩, c3, rfl, i0, i1, i2, r3⟩
theorem open_Pat {w : World} {v : Value} (h : ArgIn Tryz.prog 128 w v) : ∃ (x : List PN) (v0 : Value), v = .agg #[v0] ∧ RowRd 4 PNEl w v0 x := by
  obtain ⟨H, enc, base, d, ps, ho, hr⟩ := h
  obtain ⟨cs, rfl, hl, m, hf⟩ := arg_fields Tryz.underlying128 ho hr
  have hl : cs.length = 1 := hl.trans (by kernel_rfl)
  obtain ⟨x0, r0⟩ := arg_row (by rw [hl]; decide) (by kernel_rfl) Tryz.underlying126 (by kernel_rfl) (by decide) reads_PNode (hf 0 _ rfl)
  match cs, hl with
  | [c0], _ =>
    exact ⟨x0, c0, rfl, r0⟩
theorem open_Type {w : World} {v : Value} (h : ArgIn Tryz.prog 56 w v) : ∃ (x : Tp) (v2 : Value), v = .agg #[.string x.name, .int .i64 x.params, v2] ∧ x.name.size ≤ maxLen ∧ I64 x.params ∧ RowRd 3 CnEl w v2 x.cons := by
  obtain ⟨H, enc, base, d, ps, ho, hr⟩ := h
  obtain ⟨cs, rfl, hl, m, hf⟩ := arg_fields Tryz.underlying56 ho hr
  have hl : cs.length = 3 := hl.trans (by kernel_rfl)
  obtain ⟨x0, g0, i0⟩ := arg_str (by rw [hl]; decide) (by kernel_rfl) Tryz.underlying9 (hf 0 _ rfl)
  obtain ⟨x1, g1, i1⟩ := arg_int (by rw [hl]; decide) (by kernel_rfl) Tryz.underlying3 (hf 1 _ rfl)
  obtain ⟨x2, r2⟩ := arg_row (by rw [hl]; decide) (by kernel_rfl) Tryz.underlying54 (by kernel_rfl) (by decide) reads_Con (hf 2 _ rfl)
  match cs, hl with
  | [c0, c1, c2], _ =>
    obtain rfl : c0 = _ := g0
    obtain rfl : c1 = _ := g1
    exact ⟨⟨x0, x1, x2⟩, c2, rfl, i0, i1, r2⟩
theorem open_Node {w : World} {v : Value} (h : ArgIn Tryz.prog 60 w v) : ∃ (x : Nd) (v4 : Value) (v5 : Value), v = .agg #[.int .i64 x.kind, .int .i64 x.at_, .int .i64 x.n, .string x.s, v4, v5] ∧ I64 x.kind ∧ I64 x.at_ ∧ I64 x.n ∧ x.s.size ≤ maxLen ∧ RowRd 1 IntEl w v4 x.kids ∧ RowRd 1 PatEl w v5 x.pats := by
  obtain ⟨H, enc, base, d, ps, ho, hr⟩ := h
  obtain ⟨cs, rfl, hl, m, hf⟩ := arg_fields Tryz.underlying60 ho hr
  have hl : cs.length = 6 := hl.trans (by kernel_rfl)
  obtain ⟨x0, g0, i0⟩ := arg_int (by rw [hl]; decide) (by kernel_rfl) Tryz.underlying3 (hf 0 _ rfl)
  obtain ⟨x1, g1, i1⟩ := arg_int (by rw [hl]; decide) (by kernel_rfl) Tryz.underlying3 (hf 1 _ rfl)
  obtain ⟨x2, g2, i2⟩ := arg_int (by rw [hl]; decide) (by kernel_rfl) Tryz.underlying3 (hf 2 _ rfl)
  obtain ⟨x3, g3, i3⟩ := arg_str (by rw [hl]; decide) (by kernel_rfl) Tryz.underlying9 (hf 3 _ rfl)
  obtain ⟨x4, r4⟩ := arg_row (by rw [hl]; decide) (by kernel_rfl) Tryz.underlying46 (by kernel_rfl) (by decide) (reads_int Tryz.underlying3) (hf 4 _ rfl)
  obtain ⟨x5, r5⟩ := arg_row (by rw [hl]; decide) (by kernel_rfl) Tryz.underlying58 (by kernel_rfl) (by decide) reads_Pat (hf 5 _ rfl)
  match cs, hl with
  | [c0, c1, c2, c3, c4, c5], _ =>
    obtain rfl : c0 = _ := g0
    obtain rfl : c1 = _ := g1
    obtain rfl : c2 = _ := g2
    obtain rfl : c3 = _ := g3
    exact ⟨⟨x0, x1, x2, x3, x4, x5⟩, c4, c5, rfl, i0, i1, i2, i3, r4, r5⟩
theorem open_Program {w : World} {v : Value} (h : ArgIn Tryz.prog 25 w v) : ∃ (x : Pg) (v0 : Value) (v1 : Value), v = .agg #[v0, v1] ∧ RowRd 3 TpEl w v0 x.types ∧ RowRd 6 NdEl w v1 x.nodes := by
  obtain ⟨H, enc, base, d, ps, ho, hr⟩ := h
  obtain ⟨cs, rfl, hl, m, hf⟩ := arg_fields Tryz.underlying25 ho hr
  have hl : cs.length = 2 := hl.trans (by kernel_rfl)
  obtain ⟨x0, r0⟩ := arg_row (by rw [hl]; decide) (by kernel_rfl) Tryz.underlying22 (by kernel_rfl) (by decide) reads_Type (hf 0 _ rfl)
  obtain ⟨x1, r1⟩ := arg_row (by rw [hl]; decide) (by kernel_rfl) Tryz.underlying23 (by kernel_rfl) (by decide) reads_Node (hf 1 _ rfl)
  match cs, hl with
  | [c0, c1], _ =>
    exact ⟨⟨x0, x1⟩, c0, c1, rfl, r0, r1⟩
theorem open_TyItemS {w : World} {v : Value} (h : ArgIn Tryz.prog 120 w v) : ∃ x : List TyI, RowRd 3 TyIEl w v x := by
  obtain ⟨H, enc, base, d, ps, ho, hr⟩ := h
  obtain ⟨a, len, cap, rfl⟩ := okWide_slice Tryz.underlying120 ho
  exact arg_slice Tryz.underlying120 (by kernel_rfl) (by decide) reads_TyItem rfl hr
theorem open_PNodeS {w : World} {v : Value} (h : ArgIn Tryz.prog 126 w v) : ∃ x : List PN, RowRd 4 PNEl w v x := by
  obtain ⟨H, enc, base, d, ps, ho, hr⟩ := h
  obtain ⟨a, len, cap, rfl⟩ := okWide_slice Tryz.underlying126 ho
  exact arg_slice Tryz.underlying126 (by kernel_rfl) (by decide) reads_PNode rfl hr
theorem open_PatS {w : World} {v : Value} (h : ArgIn Tryz.prog 58 w v) : ∃ x : List (List PN), RowRd 1 PatEl w v x := by
  obtain ⟨H, enc, base, d, ps, ho, hr⟩ := h
  obtain ⟨a, len, cap, rfl⟩ := okWide_slice Tryz.underlying58 ho
  exact arg_slice Tryz.underlying58 (by kernel_rfl) (by decide) reads_Pat rfl hr
theorem open_ConS {w : World} {v : Value} (h : ArgIn Tryz.prog 54 w v) : ∃ x : List Cn, RowRd 3 CnEl w v x := by
  obtain ⟨H, enc, base, d, ps, ho, hr⟩ := h
  obtain ⟨a, len, cap, rfl⟩ := okWide_slice Tryz.underlying54 ho
  exact arg_slice Tryz.underlying54 (by kernel_rfl) (by decide) reads_Con rfl hr
theorem open_TypeS {w : World} {v : Value} (h : ArgIn Tryz.prog 22 w v) : ∃ x : List Tp, RowRd 3 TpEl w v x := by
  obtain ⟨H, enc, base, d, ps, ho, hr⟩ := h
  obtain ⟨a, len, cap, rfl⟩ := okWide_slice Tryz.underlying22 ho
  exact arg_slice Tryz.underlying22 (by kernel_rfl) (by decide) reads_Type rfl hr
theorem open_NodeS {w : World} {v : Value} (h : ArgIn Tryz.prog 23 w v) : ∃ x : List Nd, RowRd 6 NdEl w v x := by
  obtain ⟨H, enc, base, d, ps, ho, hr⟩ := h
  obtain ⟨a, len, cap, rfl⟩ := okWide_slice Tryz.underlying23 ho
  exact arg_slice Tryz.underlying23 (by kernel_rfl) (by decide) reads_Node rfl hr
theorem open_IntS {w : World} {v : Value} (h : ArgIn Tryz.prog 46 w v) : ∃ x : List Int, RowRd 1 IntEl w v x := by
  obtain ⟨H, enc, base, d, ps, ho, hr⟩ := h
  obtain ⟨a, len, cap, rfl⟩ := okWide_slice Tryz.underlying46 ho
  exact arg_slice Tryz.underlying46 (by kernel_rfl) (by decide) (reads_int Tryz.underlying3) rfl hr
end Go.Proofs.YtaibgnfjjbncpaaGreat
namespace Go.Proofs.YtaibgnfjjbncpaaGreat
set_option linter.unusedVariables false
set_option maxRecDepth 100000
open Go.ChangeShapes Go.WideShapes Go.ChangeAt Go.RowKit
/-- What is left over, or -1. -/
def SzPost (b : Nat) (left : Nat) (w : World) (e : Ending) (w' : World) : Prop :=
  Below w.heap.size w w' ∧ ((e = .returned (.int .i64 (-1)) ∧ left < b) ∨ ∃ r : Nat, e = .returned (.int .i64 (r : Int)) ∧ r + b = left)
theorem SzPost.split {b left : Nat} {w w' : World} {e : Ending} (h : SzPost b left w e w') : Below w.heap.size w w' ∧ ((e = .returned (.int .i64 (-1)) ∧ left < b) ∨ ∃ r : Nat, e = .returned (.int .i64 (r : Int)) ∧ r + b = left) := h
theorem szIntS (l : List Int) (v : Value) (left : Nat) (w : World) (hL : left ≤ 1048576) (hR : RowRd 1 IntEl w v l) :
    Calls Tryz.prog 48 #[v, .int .i64 (left : Int)] w (SzPost (bulkL bInt l) left w) := by
  obtain ⟨a, cap, rfl, hm, hR⟩ := hR.form
  unfold maxLen at hm
  by_cases h0 : left < l.length
  · have hB := bulkL_len bInt l
    have hB := Lib.hid (show left < bulkL bInt l by omega)
    have h1 : (left : Int) - (l.length : Int) < 0 := by omega
    go_enter Tryz.func48, Tryz.ntmps48
    go_wp2
    go_ret
    exact ⟨Below.refl _ _, .inl ⟨rfl, hB.out⟩⟩
  · have h1 : ¬ (left : Int) - (l.length : Int) < 0 := by omega
    have hB := bulkL_int l
    have HB := Lib.hid hB
    clear hB
    have h0' : l.length ≤ left := by omega
    go_enter Tryz.func48, Tryz.ntmps48
    go_wp2
    go_ret
    exact ⟨Below.refl _ _, .inr ⟨left - l.length, ret_i (by omega), by rw [HB.out]; omega⟩⟩
theorem szTyItem (x : TyI) (left : Nat) (w : World) (hL : left ≤ 1048576) (hs1 : x.name.size ≤ maxLen) :
    Calls Tryz.prog 157 #[.agg #[.int .i64 x.var, .string x.name, .int .i64 x.arity], .int .i64 (left : Int)] w (SzPost (bTyI x) left w) := by
  unfold maxLen at hs1
  have hbx : bTyI x = x.name.size := rfl
  have HB := Lib.hid hbx
  clear hbx
  by_cases g0 : left < x.name.size
  · have h1 : (left : Int) - (x.name.size : Int) < 0 := by omega
    go_enter Tryz.func157, Tryz.ntmps157
    go_wp2
    go_ret
    exact ⟨Joins.below_alloc1 w _, .inl ⟨rfl, by rw [HB.out]; omega⟩⟩
  have h1 : ¬ (left : Int) - (x.name.size : Int) < 0 := by omega
  have h1b : x.name.size ≤ left := by omega
  go_enter Tryz.func157, Tryz.ntmps157
  go_wp2
  go_ret
  exact ⟨Joins.below_alloc1 w _, .inr ⟨left - x.name.size, ret_i (by omega), by rw [HB.out]; omega⟩⟩
theorem szTyItemS (l : List TyI) (v : Value) (left : Nat) (w : World) (hL : left ≤ 1048576) (hR : RowRd 3 TyIEl w v l) :
    Calls Tryz.prog 140 #[v, .int .i64 (left : Int)] w (SzPost (bulkL bTyI l) left w) := by
  obtain ⟨a, cap, rfl, hm, hR⟩ := hR.form
  unfold maxLen at hm
  by_cases h0 : left < l.length
  · have hB := bulkL_len bTyI l
    have hB := Lib.hid (show left < bulkL bTyI l by omega)
    have h1 : (left : Int) - (l.length : Int) < 0 := by omega
    go_enter Tryz.func140, Tryz.ntmps140
    go_wp2
    go_ret
    exact ⟨Below.refl _ _, .inl ⟨rfl, hB.out⟩⟩
  · have h1 : ¬ (left : Int) - (l.length : Int) < 0 := by omega
    have h0' : l.length ≤ left := by omega
    have hlm := bulkL_len bTyI l
    go_enter Tryz.func140, Tryz.ntmps140
    go_wp2
    go_loopw [1, 5] (fun m i wr => ∃ j q : Nat, i = .int .i64 j ∧ m = .int .i64 (q : Int) ∧ q + (bulkL bTyI (l.take j) - j + l.length) = left ∧ j ≤ bulkL bTyI (l.take j) ∧ j ≤ l.length ∧ Below w.heap.size w wr) (fun _ i _ => l.length - (intOf i).toNat)
    case atStart => exact ⟨0, left - l.length, rfl, by rw [show ((left - l.length : Nat) : Int) = (left : Int) - (l.length : Int) from by omega], by simp [bulkL]; omega, Nat.zero_le _, Nat.zero_le _, Below.refl _ _⟩
    case round =>
      obtain ⟨j, m, rfl, rfl, hq, hjq, hj, hbel⟩ := hrel
      by_cases hlt : j < l.length
      · have hcnt := bulkL_take bTyI l j hlt
        have hall := bulkL_take_le bTyI l (j + 1)
        obtain ⟨b, o, rfl, hbw, hc⟩ := hR (by omega)
        have ex := TyIEl.st w wr b _ _ (Kept.of_below hbel) hbw (hc j (by omega))
        clear hc hR
        have HC := Lib.hid hcnt
        have HQ := Lib.hid hq
        have HA := Lib.hid hall
        have hmL : m ≤ 1048576 := by omega
        clear hcnt hq hlm hall
        generalize l[j] = x at *
        obtain ⟨⟨e0, i0⟩, ⟨e1, i1⟩, ⟨e2, i2⟩⟩ := ex
        go_wp2_with fail
        refine (szTyItem x m _ hmL i1).mono ?_
        rintro e w1 ⟨hb1, ⟨rfl, hx⟩ | ⟨q, rfl, hx⟩⟩
        · go_wp2
          go_ret
          exact ⟨below_tr hbel hb1, .inl ⟨rfl, by have := HC.out; have := HQ.out; have := HA.out; have := bulkL_take_len bTyI l (j + 1) (by omega); omega⟩⟩
        · go_wp2
          go_roundw
          case rel => exact ⟨j + 1, q, by go_num, rfl, by have := HC.out; have := HQ.out; omega, by have := HC.out; omega, by omega, below_tr hbel hb1⟩
          case measure => simp [intOf]; omega
      · obtain rfl : j = l.length := by omega
        rw [List.take_length] at hq hjq
        go_wp2
        go_ret
        exact ⟨hbel, .inr ⟨m, rfl, by omega⟩⟩
theorem szTy (x : List TyI) (v0 : Value) (left : Nat) (w : World) (hL : left ≤ 1048576) (r0 : RowRd 3 TyIEl w v0 x) :
    Calls Tryz.prog 117 #[.agg #[v0], .int .i64 (left : Int)] w (SzPost (bTy x) left w) := by
  obtain ⟨a0, ca0, e0, -, -⟩ := r0.form
  subst e0
  have hbx : bTy x = bulkL bTyI x := rfl
  have HB := Lib.hid hbx
  clear hbx
  go_enter Tryz.func117, Tryz.ntmps117
  go_wp2_with fail
  refine (szTyItemS x _ left _ (by omega) (r0.kept TyIEl.st (Kept.alloc _ _))).mono ?_
  rintro e w1 ⟨hb1, ⟨rfl, hx1⟩ | ⟨q1, rfl, hx1⟩⟩
  · go_wp2
    go_ret
    exact ⟨below_tr (Joins.below_alloc1 w _) hb1, .inl ⟨rfl, by rw [HB.out]; omega⟩⟩
  go_wp2
  go_ret
  exact ⟨below_tr (Joins.below_alloc1 w _) hb1, .inr ⟨q1, rfl, by rw [HB.out]; omega⟩⟩
theorem szPNode (x : PN) (v3 : Value) (left : Nat) (w : World) (hL : left ≤ 1048576) (hs2 : x.s.size ≤ maxLen) (r3 : RowRd 1 IntEl w v3 x.kids) :
    Calls Tryz.prog 141 #[.agg #[.int .i64 x.kind, .int .i64 x.n, .string x.s, v3], .int .i64 (left : Int)] w (SzPost (bPN x) left w) := by
  unfold maxLen at hs2
  obtain ⟨a3, ca3, e3, -, -⟩ := r3.form
  subst e3
  have hbx : bPN x = x.s.size + bulkL bInt x.kids := rfl
  have HB := Lib.hid hbx
  clear hbx
  by_cases g0 : left < x.s.size
  · have h1 : (left : Int) - (x.s.size : Int) < 0 := by omega
    go_enter Tryz.func141, Tryz.ntmps141
    go_wp2
    go_ret
    exact ⟨Joins.below_alloc1 w _, .inl ⟨rfl, by rw [HB.out]; omega⟩⟩
  have h1 : ¬ (left : Int) - (x.s.size : Int) < 0 := by omega
  have h1b : x.s.size ≤ left := by omega
  go_enter Tryz.func141, Tryz.ntmps141
  go_wp2_with fail
  rw [show (left : Int) - (x.s.size : Int) = ((left - x.s.size : Nat) : Int) from by omega]
  refine (szIntS x.kids _ (left - x.s.size) _ (by omega) (r3.kept IntEl.st (Kept.alloc _ _))).mono ?_
  rintro e w1 ⟨hb1, ⟨rfl, hx1⟩ | ⟨q1, rfl, hx1⟩⟩
  · go_wp2
    go_ret
    exact ⟨below_tr (Joins.below_alloc1 w _) hb1, .inl ⟨rfl, by rw [HB.out]; omega⟩⟩
  go_wp2
  go_ret
  exact ⟨below_tr (Joins.below_alloc1 w _) hb1, .inr ⟨q1, rfl, by rw [HB.out]; omega⟩⟩
theorem szPNodeS (l : List PN) (v : Value) (left : Nat) (w : World) (hL : left ≤ 1048576) (hR : RowRd 4 PNEl w v l) :
    Calls Tryz.prog 118 #[v, .int .i64 (left : Int)] w (SzPost (bulkL bPN l) left w) := by
  obtain ⟨a, cap, rfl, hm, hR⟩ := hR.form
  unfold maxLen at hm
  by_cases h0 : left < l.length
  · have hB := bulkL_len bPN l
    have hB := Lib.hid (show left < bulkL bPN l by omega)
    have h1 : (left : Int) - (l.length : Int) < 0 := by omega
    go_enter Tryz.func118, Tryz.ntmps118
    go_wp2
    go_ret
    exact ⟨Below.refl _ _, .inl ⟨rfl, hB.out⟩⟩
  · have h1 : ¬ (left : Int) - (l.length : Int) < 0 := by omega
    have h0' : l.length ≤ left := by omega
    have hlm := bulkL_len bPN l
    go_enter Tryz.func118, Tryz.ntmps118
    go_wp2
    go_loopw [1, 5] (fun m i wr => ∃ j q : Nat, i = .int .i64 j ∧ m = .int .i64 (q : Int) ∧ q + (bulkL bPN (l.take j) - j + l.length) = left ∧ j ≤ bulkL bPN (l.take j) ∧ j ≤ l.length ∧ Below w.heap.size w wr) (fun _ i _ => l.length - (intOf i).toNat)
    case atStart => exact ⟨0, left - l.length, rfl, by rw [show ((left - l.length : Nat) : Int) = (left : Int) - (l.length : Int) from by omega], by simp [bulkL]; omega, Nat.zero_le _, Nat.zero_le _, Below.refl _ _⟩
    case round =>
      obtain ⟨j, m, rfl, rfl, hq, hjq, hj, hbel⟩ := hrel
      by_cases hlt : j < l.length
      · have hcnt := bulkL_take bPN l j hlt
        have hall := bulkL_take_le bPN l (j + 1)
        obtain ⟨b, o, rfl, hbw, hc⟩ := hR (by omega)
        have ex := PNEl.st w wr b _ _ (Kept.of_below hbel) hbw (hc j (by omega))
        clear hc hR
        have HC := Lib.hid hcnt
        have HQ := Lib.hid hq
        have HA := Lib.hid hall
        have hmL : m ≤ 1048576 := by omega
        clear hcnt hq hlm hall
        generalize l[j] = x at *
        obtain ⟨⟨e0, i0⟩, ⟨e1, i1⟩, ⟨e2, i2⟩, ⟨v3, e3, r3⟩⟩ := ex
        obtain ⟨a3, ca3, rfl, -, -⟩ := r3.form
        go_wp2_with fail
        refine (szPNode x _ m _ hmL i2 r3).mono ?_
        rintro e w1 ⟨hb1, ⟨rfl, hx⟩ | ⟨q, rfl, hx⟩⟩
        · go_wp2
          go_ret
          exact ⟨below_tr hbel hb1, .inl ⟨rfl, by have := HC.out; have := HQ.out; have := HA.out; have := bulkL_take_len bPN l (j + 1) (by omega); omega⟩⟩
        · go_wp2
          go_roundw
          case rel => exact ⟨j + 1, q, by go_num, rfl, by have := HC.out; have := HQ.out; omega, by have := HC.out; omega, by omega, below_tr hbel hb1⟩
          case measure => simp [intOf]; omega
      · obtain rfl : j = l.length := by omega
        rw [List.take_length] at hq hjq
        go_wp2
        go_ret
        exact ⟨hbel, .inr ⟨m, rfl, by omega⟩⟩
theorem szPat (x : List PN) (v0 : Value) (left : Nat) (w : World) (hL : left ≤ 1048576) (r0 : RowRd 4 PNEl w v0 x) :
    Calls Tryz.prog 90 #[.agg #[v0], .int .i64 (left : Int)] w (SzPost (bPat x) left w) := by
  obtain ⟨a0, ca0, e0, -, -⟩ := r0.form
  subst e0
  have hbx : bPat x = bulkL bPN x := rfl
  have HB := Lib.hid hbx
  clear hbx
  go_enter Tryz.func90, Tryz.ntmps90
  go_wp2_with fail
  refine (szPNodeS x _ left _ (by omega) (r0.kept PNEl.st (Kept.alloc _ _))).mono ?_
  rintro e w1 ⟨hb1, ⟨rfl, hx1⟩ | ⟨q1, rfl, hx1⟩⟩
  · go_wp2
    go_ret
    exact ⟨below_tr (Joins.below_alloc1 w _) hb1, .inl ⟨rfl, by rw [HB.out]; omega⟩⟩
  go_wp2
  go_ret
  exact ⟨below_tr (Joins.below_alloc1 w _) hb1, .inr ⟨q1, rfl, by rw [HB.out]; omega⟩⟩
theorem szPatS (l : List (List PN)) (v : Value) (left : Nat) (w : World) (hL : left ≤ 1048576) (hR : RowRd 1 PatEl w v l) :
    Calls Tryz.prog 49 #[v, .int .i64 (left : Int)] w (SzPost (bulkL bPat l) left w) := by
  obtain ⟨a, cap, rfl, hm, hR⟩ := hR.form
  unfold maxLen at hm
  by_cases h0 : left < l.length
  · have hB := bulkL_len bPat l
    have hB := Lib.hid (show left < bulkL bPat l by omega)
    have h1 : (left : Int) - (l.length : Int) < 0 := by omega
    go_enter Tryz.func49, Tryz.ntmps49
    go_wp2
    go_ret
    exact ⟨Below.refl _ _, .inl ⟨rfl, hB.out⟩⟩
  · have h1 : ¬ (left : Int) - (l.length : Int) < 0 := by omega
    have h0' : l.length ≤ left := by omega
    have hlm := bulkL_len bPat l
    go_enter Tryz.func49, Tryz.ntmps49
    go_wp2
    go_loopw [1, 5] (fun m i wr => ∃ j q : Nat, i = .int .i64 j ∧ m = .int .i64 (q : Int) ∧ q + (bulkL bPat (l.take j) - j + l.length) = left ∧ j ≤ bulkL bPat (l.take j) ∧ j ≤ l.length ∧ Below w.heap.size w wr) (fun _ i _ => l.length - (intOf i).toNat)
    case atStart => exact ⟨0, left - l.length, rfl, by rw [show ((left - l.length : Nat) : Int) = (left : Int) - (l.length : Int) from by omega], by simp [bulkL]; omega, Nat.zero_le _, Nat.zero_le _, Below.refl _ _⟩
    case round =>
      obtain ⟨j, m, rfl, rfl, hq, hjq, hj, hbel⟩ := hrel
      by_cases hlt : j < l.length
      · have hcnt := bulkL_take bPat l j hlt
        have hall := bulkL_take_le bPat l (j + 1)
        obtain ⟨b, o, rfl, hbw, hc⟩ := hR (by omega)
        have ex := PatEl.st w wr b _ _ (Kept.of_below hbel) hbw (hc j (by omega))
        clear hc hR
        have HC := Lib.hid hcnt
        have HQ := Lib.hid hq
        have HA := Lib.hid hall
        have hmL : m ≤ 1048576 := by omega
        clear hcnt hq hlm hall
        generalize l[j] = x at *
        obtain ⟨v0, e0, r0⟩ := ex
        obtain ⟨a0, ca0, rfl, -, -⟩ := r0.form
        rw [Nat.mul_one] at e0
        go_wp2_with fail
        refine (szPat x _ m _ hmL r0).mono ?_
        rintro e w1 ⟨hb1, ⟨rfl, hx⟩ | ⟨q, rfl, hx⟩⟩
        · go_wp2
          go_ret
          exact ⟨below_tr hbel hb1, .inl ⟨rfl, by have := HC.out; have := HQ.out; have := HA.out; have := bulkL_take_len bPat l (j + 1) (by omega); omega⟩⟩
        · go_wp2
          go_roundw
          case rel => exact ⟨j + 1, q, by go_num, rfl, by have := HC.out; have := HQ.out; omega, by have := HC.out; omega, by omega, below_tr hbel hb1⟩
          case measure => simp [intOf]; omega
      · obtain rfl : j = l.length := by omega
        rw [List.take_length] at hq hjq
        go_wp2
        go_ret
        exact ⟨hbel, .inr ⟨m, rfl, by omega⟩⟩
theorem szCon (x : Cn) (v2 : Value) (left : Nat) (w : World) (hL : left ≤ 1048576) (hs0 : x.name.size ≤ maxLen) (r2 : RowRd 3 TyIEl w v2 x.arg) :
    Calls Tryz.prog 89 #[.agg #[.string x.name, .bool x.has, v2], .int .i64 (left : Int)] w (SzPost (bCn x) left w) := by
  unfold maxLen at hs0
  obtain ⟨a2, ca2, e2, -, -⟩ := r2.form
  subst e2
  have hbx : bCn x = x.name.size + bTy x.arg := rfl
  have HB := Lib.hid hbx
  clear hbx
  by_cases g0 : left < x.name.size
  · have h1 : (left : Int) - (x.name.size : Int) < 0 := by omega
    go_enter Tryz.func89, Tryz.ntmps89
    go_wp2
    go_ret
    exact ⟨Joins.below_alloc1 w _, .inl ⟨rfl, by rw [HB.out]; omega⟩⟩
  have h1 : ¬ (left : Int) - (x.name.size : Int) < 0 := by omega
  have h1b : x.name.size ≤ left := by omega
  go_enter Tryz.func89, Tryz.ntmps89
  go_wp2_with fail
  rw [show (left : Int) - (x.name.size : Int) = ((left - x.name.size : Nat) : Int) from by omega]
  refine (szTy x.arg _ (left - x.name.size) _ (by omega) (r2.kept TyIEl.st (Kept.alloc _ _))).mono ?_
  rintro e w1 ⟨hb1, ⟨rfl, hx1⟩ | ⟨q1, rfl, hx1⟩⟩
  · go_wp2
    go_ret
    exact ⟨below_tr (Joins.below_alloc1 w _) hb1, .inl ⟨rfl, by rw [HB.out]; omega⟩⟩
  go_wp2
  go_ret
  exact ⟨below_tr (Joins.below_alloc1 w _) hb1, .inr ⟨q1, rfl, by rw [HB.out]; omega⟩⟩
theorem szConS (l : List Cn) (v : Value) (left : Nat) (w : World) (hL : left ≤ 1048576) (hR : RowRd 3 CnEl w v l) :
    Calls Tryz.prog 47 #[v, .int .i64 (left : Int)] w (SzPost (bulkL bCn l) left w) := by
  obtain ⟨a, cap, rfl, hm, hR⟩ := hR.form
  unfold maxLen at hm
  by_cases h0 : left < l.length
  · have hB := bulkL_len bCn l
    have hB := Lib.hid (show left < bulkL bCn l by omega)
    have h1 : (left : Int) - (l.length : Int) < 0 := by omega
    go_enter Tryz.func47, Tryz.ntmps47
    go_wp2
    go_ret
    exact ⟨Below.refl _ _, .inl ⟨rfl, hB.out⟩⟩
  · have h1 : ¬ (left : Int) - (l.length : Int) < 0 := by omega
    have h0' : l.length ≤ left := by omega
    have hlm := bulkL_len bCn l
    go_enter Tryz.func47, Tryz.ntmps47
    go_wp2
    go_loopw [1, 5] (fun m i wr => ∃ j q : Nat, i = .int .i64 j ∧ m = .int .i64 (q : Int) ∧ q + (bulkL bCn (l.take j) - j + l.length) = left ∧ j ≤ bulkL bCn (l.take j) ∧ j ≤ l.length ∧ Below w.heap.size w wr) (fun _ i _ => l.length - (intOf i).toNat)
    case atStart => exact ⟨0, left - l.length, rfl, by rw [show ((left - l.length : Nat) : Int) = (left : Int) - (l.length : Int) from by omega], by simp [bulkL]; omega, Nat.zero_le _, Nat.zero_le _, Below.refl _ _⟩
    case round =>
      obtain ⟨j, m, rfl, rfl, hq, hjq, hj, hbel⟩ := hrel
      by_cases hlt : j < l.length
      · have hcnt := bulkL_take bCn l j hlt
        have hall := bulkL_take_le bCn l (j + 1)
        obtain ⟨b, o, rfl, hbw, hc⟩ := hR (by omega)
        have ex := CnEl.st w wr b _ _ (Kept.of_below hbel) hbw (hc j (by omega))
        clear hc hR
        have HC := Lib.hid hcnt
        have HQ := Lib.hid hq
        have HA := Lib.hid hall
        have hmL : m ≤ 1048576 := by omega
        clear hcnt hq hlm hall
        generalize l[j] = x at *
        obtain ⟨⟨e0, i0⟩, e1, ⟨v2, e2, r2⟩⟩ := ex
        unfold BoolEl at e1
        obtain ⟨a2, ca2, rfl, -, -⟩ := r2.form
        go_wp2_with fail
        refine (szCon x _ m _ hmL i0 r2).mono ?_
        rintro e w1 ⟨hb1, ⟨rfl, hx⟩ | ⟨q, rfl, hx⟩⟩
        · go_wp2
          go_ret
          exact ⟨below_tr hbel hb1, .inl ⟨rfl, by have := HC.out; have := HQ.out; have := HA.out; have := bulkL_take_len bCn l (j + 1) (by omega); omega⟩⟩
        · go_wp2
          go_roundw
          case rel => exact ⟨j + 1, q, by go_num, rfl, by have := HC.out; have := HQ.out; omega, by have := HC.out; omega, by omega, below_tr hbel hb1⟩
          case measure => simp [intOf]; omega
      · obtain rfl : j = l.length := by omega
        rw [List.take_length] at hq hjq
        go_wp2
        go_ret
        exact ⟨hbel, .inr ⟨m, rfl, by omega⟩⟩
theorem szType (x : Tp) (v2 : Value) (left : Nat) (w : World) (hL : left ≤ 1048576) (hs0 : x.name.size ≤ maxLen) (r2 : RowRd 3 CnEl w v2 x.cons) :
    Calls Tryz.prog 22 #[.agg #[.string x.name, .int .i64 x.params, v2], .int .i64 (left : Int)] w (SzPost (bTp x) left w) := by
  unfold maxLen at hs0
  obtain ⟨a2, ca2, e2, -, -⟩ := r2.form
  subst e2
  have hbx : bTp x = x.name.size + bulkL bCn x.cons := rfl
  have HB := Lib.hid hbx
  clear hbx
  by_cases g0 : left < x.name.size
  · have h1 : (left : Int) - (x.name.size : Int) < 0 := by omega
    go_enter Tryz.func22, Tryz.ntmps22
    go_wp2
    go_ret
    exact ⟨Joins.below_alloc1 w _, .inl ⟨rfl, by rw [HB.out]; omega⟩⟩
  have h1 : ¬ (left : Int) - (x.name.size : Int) < 0 := by omega
  have h1b : x.name.size ≤ left := by omega
  go_enter Tryz.func22, Tryz.ntmps22
  go_wp2_with fail
  rw [show (left : Int) - (x.name.size : Int) = ((left - x.name.size : Nat) : Int) from by omega]
  refine (szConS x.cons _ (left - x.name.size) _ (by omega) (r2.kept CnEl.st (Kept.alloc _ _))).mono ?_
  rintro e w1 ⟨hb1, ⟨rfl, hx1⟩ | ⟨q1, rfl, hx1⟩⟩
  · go_wp2
    go_ret
    exact ⟨below_tr (Joins.below_alloc1 w _) hb1, .inl ⟨rfl, by rw [HB.out]; omega⟩⟩
  go_wp2
  go_ret
  exact ⟨below_tr (Joins.below_alloc1 w _) hb1, .inr ⟨q1, rfl, by rw [HB.out]; omega⟩⟩
theorem szTypeS (l : List Tp) (v : Value) (left : Nat) (w : World) (hL : left ≤ 1048576) (hR : RowRd 3 TpEl w v l) :
    Calls Tryz.prog 9 #[v, .int .i64 (left : Int)] w (SzPost (bulkL bTp l) left w) := by
  obtain ⟨a, cap, rfl, hm, hR⟩ := hR.form
  unfold maxLen at hm
  by_cases h0 : left < l.length
  · have hB := bulkL_len bTp l
    have hB := Lib.hid (show left < bulkL bTp l by omega)
    have h1 : (left : Int) - (l.length : Int) < 0 := by omega
    go_enter Tryz.func9, Tryz.ntmps9
    go_wp2
    go_ret
    exact ⟨Below.refl _ _, .inl ⟨rfl, hB.out⟩⟩
  · have h1 : ¬ (left : Int) - (l.length : Int) < 0 := by omega
    have h0' : l.length ≤ left := by omega
    have hlm := bulkL_len bTp l
    go_enter Tryz.func9, Tryz.ntmps9
    go_wp2
    go_loopw [1, 5] (fun m i wr => ∃ j q : Nat, i = .int .i64 j ∧ m = .int .i64 (q : Int) ∧ q + (bulkL bTp (l.take j) - j + l.length) = left ∧ j ≤ bulkL bTp (l.take j) ∧ j ≤ l.length ∧ Below w.heap.size w wr) (fun _ i _ => l.length - (intOf i).toNat)
    case atStart => exact ⟨0, left - l.length, rfl, by rw [show ((left - l.length : Nat) : Int) = (left : Int) - (l.length : Int) from by omega], by simp [bulkL]; omega, Nat.zero_le _, Nat.zero_le _, Below.refl _ _⟩
    case round =>
      obtain ⟨j, m, rfl, rfl, hq, hjq, hj, hbel⟩ := hrel
      by_cases hlt : j < l.length
      · have hcnt := bulkL_take bTp l j hlt
        have hall := bulkL_take_le bTp l (j + 1)
        obtain ⟨b, o, rfl, hbw, hc⟩ := hR (by omega)
        have ex := TpEl.st w wr b _ _ (Kept.of_below hbel) hbw (hc j (by omega))
        clear hc hR
        have HC := Lib.hid hcnt
        have HQ := Lib.hid hq
        have HA := Lib.hid hall
        have hmL : m ≤ 1048576 := by omega
        clear hcnt hq hlm hall
        generalize l[j] = x at *
        obtain ⟨⟨e0, i0⟩, ⟨e1, i1⟩, ⟨v2, e2, r2⟩⟩ := ex
        obtain ⟨a2, ca2, rfl, -, -⟩ := r2.form
        go_wp2_with fail
        refine (szType x _ m _ hmL i0 r2).mono ?_
        rintro e w1 ⟨hb1, ⟨rfl, hx⟩ | ⟨q, rfl, hx⟩⟩
        · go_wp2
          go_ret
          exact ⟨below_tr hbel hb1, .inl ⟨rfl, by have := HC.out; have := HQ.out; have := HA.out; have := bulkL_take_len bTp l (j + 1) (by omega); omega⟩⟩
        · go_wp2
          go_roundw
          case rel => exact ⟨j + 1, q, by go_num, rfl, by have := HC.out; have := HQ.out; omega, by have := HC.out; omega, by omega, below_tr hbel hb1⟩
          case measure => simp [intOf]; omega
      · obtain rfl : j = l.length := by omega
        rw [List.take_length] at hq hjq
        go_wp2
        go_ret
        exact ⟨hbel, .inr ⟨m, rfl, by omega⟩⟩
theorem szNode (x : Nd) (v4 : Value) (v5 : Value) (left : Nat) (w : World) (hL : left ≤ 1048576) (hs3 : x.s.size ≤ maxLen) (r4 : RowRd 1 IntEl w v4 x.kids) (r5 : RowRd 1 PatEl w v5 x.pats) :
    Calls Tryz.prog 23 #[.agg #[.int .i64 x.kind, .int .i64 x.at_, .int .i64 x.n, .string x.s, v4, v5], .int .i64 (left : Int)] w (SzPost (bNd x) left w) := by
  unfold maxLen at hs3
  obtain ⟨a4, ca4, e4, -, -⟩ := r4.form
  subst e4
  obtain ⟨a5, ca5, e5, -, -⟩ := r5.form
  subst e5
  have hbx : bNd x = x.s.size + bulkL bInt x.kids + bulkL bPat x.pats := rfl
  have HB := Lib.hid hbx
  clear hbx
  by_cases g0 : left < x.s.size
  · have h1 : (left : Int) - (x.s.size : Int) < 0 := by omega
    go_enter Tryz.func23, Tryz.ntmps23
    go_wp2
    go_ret
    exact ⟨Joins.below_alloc1 w _, .inl ⟨rfl, by rw [HB.out]; omega⟩⟩
  have h1 : ¬ (left : Int) - (x.s.size : Int) < 0 := by omega
  have h1b : x.s.size ≤ left := by omega
  go_enter Tryz.func23, Tryz.ntmps23
  go_wp2_with fail
  rw [show (left : Int) - (x.s.size : Int) = ((left - x.s.size : Nat) : Int) from by omega]
  refine (szIntS x.kids _ (left - x.s.size) _ (by omega) (r4.kept IntEl.st (Kept.alloc _ _))).mono ?_
  rintro e w1 ⟨hb1, ⟨rfl, hx1⟩ | ⟨q1, rfl, hx1⟩⟩
  · go_wp2
    go_ret
    exact ⟨below_tr (Joins.below_alloc1 w _) hb1, .inl ⟨rfl, by rw [HB.out]; omega⟩⟩
  obtain ⟨hc1, hf1⟩ := bcell hb1
  go_wp2_with fail
  refine (szPatS x.pats _ q1 _ (by omega) (r5.kept PatEl.st ((Kept.alloc _ _).trans (Kept.of_below hb1)))).mono ?_
  rintro e w2 ⟨hb2, ⟨rfl, hx2⟩ | ⟨q2, rfl, hx2⟩⟩
  · go_wp2
    go_ret
    exact ⟨below_tr (below_tr (Joins.below_alloc1 w _) hb1) hb2, .inl ⟨rfl, by rw [HB.out]; omega⟩⟩
  go_wp2
  go_ret
  exact ⟨below_tr (below_tr (Joins.below_alloc1 w _) hb1) hb2, .inr ⟨q2, rfl, by rw [HB.out]; omega⟩⟩
theorem szNodeS (l : List Nd) (v : Value) (left : Nat) (w : World) (hL : left ≤ 1048576) (hR : RowRd 6 NdEl w v l) :
    Calls Tryz.prog 10 #[v, .int .i64 (left : Int)] w (SzPost (bulkL bNd l) left w) := by
  obtain ⟨a, cap, rfl, hm, hR⟩ := hR.form
  unfold maxLen at hm
  by_cases h0 : left < l.length
  · have hB := bulkL_len bNd l
    have hB := Lib.hid (show left < bulkL bNd l by omega)
    have h1 : (left : Int) - (l.length : Int) < 0 := by omega
    go_enter Tryz.func10, Tryz.ntmps10
    go_wp2
    go_ret
    exact ⟨Below.refl _ _, .inl ⟨rfl, hB.out⟩⟩
  · have h1 : ¬ (left : Int) - (l.length : Int) < 0 := by omega
    have h0' : l.length ≤ left := by omega
    have hlm := bulkL_len bNd l
    go_enter Tryz.func10, Tryz.ntmps10
    go_wp2
    go_loopw [1, 5] (fun m i wr => ∃ j q : Nat, i = .int .i64 j ∧ m = .int .i64 (q : Int) ∧ q + (bulkL bNd (l.take j) - j + l.length) = left ∧ j ≤ bulkL bNd (l.take j) ∧ j ≤ l.length ∧ Below w.heap.size w wr) (fun _ i _ => l.length - (intOf i).toNat)
    case atStart => exact ⟨0, left - l.length, rfl, by rw [show ((left - l.length : Nat) : Int) = (left : Int) - (l.length : Int) from by omega], by simp [bulkL]; omega, Nat.zero_le _, Nat.zero_le _, Below.refl _ _⟩
    case round =>
      obtain ⟨j, m, rfl, rfl, hq, hjq, hj, hbel⟩ := hrel
      by_cases hlt : j < l.length
      · have hcnt := bulkL_take bNd l j hlt
        have hall := bulkL_take_le bNd l (j + 1)
        obtain ⟨b, o, rfl, hbw, hc⟩ := hR (by omega)
        have ex := NdEl.st w wr b _ _ (Kept.of_below hbel) hbw (hc j (by omega))
        clear hc hR
        have HC := Lib.hid hcnt
        have HQ := Lib.hid hq
        have HA := Lib.hid hall
        have hmL : m ≤ 1048576 := by omega
        clear hcnt hq hlm hall
        generalize l[j] = x at *
        obtain ⟨⟨e0, i0⟩, ⟨e1, i1⟩, ⟨e2, i2⟩, ⟨e3, i3⟩, ⟨v4, e4, r4⟩, ⟨v5, e5, r5⟩⟩ := ex
        obtain ⟨a4, ca4, rfl, -, -⟩ := r4.form
        obtain ⟨a5, ca5, rfl, -, -⟩ := r5.form
        go_wp2_with fail
        refine (szNode x _ _ m _ hmL i3 r4 r5).mono ?_
        rintro e w1 ⟨hb1, ⟨rfl, hx⟩ | ⟨q, rfl, hx⟩⟩
        · go_wp2
          go_ret
          exact ⟨below_tr hbel hb1, .inl ⟨rfl, by have := HC.out; have := HQ.out; have := HA.out; have := bulkL_take_len bNd l (j + 1) (by omega); omega⟩⟩
        · go_wp2
          go_roundw
          case rel => exact ⟨j + 1, q, by go_num, rfl, by have := HC.out; have := HQ.out; omega, by have := HC.out; omega, by omega, below_tr hbel hb1⟩
          case measure => simp [intOf]; omega
      · obtain rfl : j = l.length := by omega
        rw [List.take_length] at hq hjq
        go_wp2
        go_ret
        exact ⟨hbel, .inr ⟨m, rfl, by omega⟩⟩
theorem szProgram (x : Pg) (v0 : Value) (v1 : Value) (left : Nat) (w : World) (hL : left ≤ 1048576) (r0 : RowRd 3 TpEl w v0 x.types) (r1 : RowRd 6 NdEl w v1 x.nodes) :
    Calls Tryz.prog 4 #[.agg #[v0, v1], .int .i64 (left : Int)] w (SzPost (bPg x) left w) := by
  obtain ⟨a0, ca0, e0, -, -⟩ := r0.form
  subst e0
  obtain ⟨a1, ca1, e1, -, -⟩ := r1.form
  subst e1
  have hbx : bPg x = bulkL bTp x.types + bulkL bNd x.nodes := rfl
  have HB := Lib.hid hbx
  clear hbx
  go_enter Tryz.func4, Tryz.ntmps4
  go_wp2_with fail
  refine (szTypeS x.types _ left _ (by omega) (r0.kept TpEl.st (Kept.alloc _ _))).mono ?_
  rintro e w1 ⟨hb1, ⟨rfl, hx1⟩ | ⟨q1, rfl, hx1⟩⟩
  · go_wp2
    go_ret
    exact ⟨below_tr (Joins.below_alloc1 w _) hb1, .inl ⟨rfl, by rw [HB.out]; omega⟩⟩
  obtain ⟨hc1, hf1⟩ := bcell hb1
  go_wp2_with fail
  refine (szNodeS x.nodes _ q1 _ (by omega) (r1.kept NdEl.st ((Kept.alloc _ _).trans (Kept.of_below hb1)))).mono ?_
  rintro e w2 ⟨hb2, ⟨rfl, hx2⟩ | ⟨q2, rfl, hx2⟩⟩
  · go_wp2
    go_ret
    exact ⟨below_tr (below_tr (Joins.below_alloc1 w _) hb1) hb2, .inl ⟨rfl, by rw [HB.out]; omega⟩⟩
  go_wp2
  go_ret
  exact ⟨below_tr (below_tr (Joins.below_alloc1 w _) hb1) hb2, .inr ⟨q2, rfl, by rw [HB.out]; omega⟩⟩
end Go.Proofs.YtaibgnfjjbncpaaGreat
