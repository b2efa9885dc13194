/- Deep data in memory: slices of structs that hold slices; what reads as what, and what keeps it. -/
import Derived.WalkKit
import Derived.ProofKit
import Derived.OpenShut
import Derived.ShutString
import Derived.Lib.Hide
import Derived.Lib.SmallJoins
import Derived.Deep.Slices
import Derived.Deep.Fields
namespace Go.Proofs.Ytpgefkdojplamaa
set_option linter.unusedVariables false
open Go.ChangeShapes Go.WideShapes Go.ChangeAt Go.RowKit

/-- What was there reads as it read. -/
structure Kept (w w' : World) : Prop where
  size : w.heap.size ≤ w'.heap.size
  cell : ∀ b o, b < w.heap.size → w'.cell? ⟨b, o, none⟩ = w.cell? ⟨b, o, none⟩
theorem Kept.refl (w : World) : Kept w w := ⟨Nat.le_refl _, fun _ _ _ => rfl⟩
theorem Kept.of_below {w w' : World} (h : Below w.heap.size w w') : Kept w w' := ⟨h.size, fun b o hb => h.cell (p := ⟨b, o, none⟩) hb⟩
theorem Kept.trans {a b c : World} (h : Kept a b) (k : Kept b c) : Kept a c :=
  ⟨Nat.le_trans h.size k.size, fun x o hx => (k.cell x o (Nat.lt_of_lt_of_le hx h.size)).trans (h.cell x o hx)⟩
theorem Kept.alloc (w : World) (o : Obj) : Kept w (w.alloc o) := Kept.of_below ((Below.refl _ _).alloc (Nat.le_refl _) _)

/-- An element's reader: in block b, at place o. -/
abbrev ElRd (α : Type) := World → Nat → Nat → α → Prop
/-- A slice reads as a list, its elements of n cells. -/
def RowRd {α : Type} (n : Nat) (E : ElRd α) (w : World) (v : Value) (l : List α) : Prop :=
  (l = [] ∧ ∃ a cap, v = .slice a 0 cap) ∨
  ∃ b o cap, v = .slice (some ⟨b, o, none⟩) l.length cap ∧ (l.length ≤ maxLen ∧ l.length ≤ cap) ∧ b < w.heap.size ∧ 0 < l.length ∧ ∀ i (h : i < l.length), E w b (o + i * n) l[i]
/-- A reader that what is kept keeps. -/
def Stable {α : Type} (E : ElRd α) : Prop := ∀ w w' b o x, Kept w w' → b < w.heap.size → E w b o x → E w' b o x
theorem RowRd.kept {α : Type} {n : Nat} {E : ElRd α} (hE : Stable E) {w w' : World} {v : Value} {l : List α} (h : RowRd n E w v l) (k : Kept w w') : RowRd n E w' v l := by
  rcases h with h | ⟨b, o, cap, h1, h2, h3, h4, h5⟩
  · exact .inl h
  · exact .inr ⟨b, o, cap, h1, h2, Nat.lt_of_lt_of_le h3 k.size, h4, fun i hi => hE w w' b _ _ k h3 (h5 i hi)⟩
/-- Its form: a slice of that length; where it holds something, each element lies in its block. -/
theorem RowRd.form {α : Type} {n : Nat} {E : ElRd α} {w : World} {v : Value} {l : List α} (h : RowRd n E w v l) :
    ∃ a cap, v = .slice a l.length cap ∧ l.length ≤ maxLen ∧ (0 < l.length → ∃ b o, a = some ⟨b, o, none⟩ ∧ b < w.heap.size ∧ ∀ i (h : i < l.length), E w b (o + i * n) l[i]) := by
  rcases h with ⟨rfl, a, cap, rfl⟩ | ⟨b, o, cap, h1, h2, h3, h4, h5⟩
  · exact ⟨a, cap, rfl, Nat.zero_le _, fun h => absurd h (by simp)⟩
  · exact ⟨_, cap, h1, h2.1, fun _ => ⟨b, o, rfl, h3, h5⟩⟩
/-- .. and its capacity reaches as far. -/
theorem RowRd.cap {α : Type} {n c m : Nat} {a : Option Addr} {E : ElRd α} {w : World} {l : List α} (h : RowRd n E w (.slice a m c) l) (h0 : 0 < l.length) : l.length ≤ c := by
  rcases h with ⟨rfl, _⟩ | ⟨b, o, cap, h1, h2, h3, h4, h5⟩
  · simp at h0
  · cases h1; exact h2.2
theorem RowRd.mk {α : Type} {n : Nat} {E : ElRd α} {w : World} {a : Option Addr} {cap : Nat} {l : List α} (h2 : l.length ≤ maxLen) (hcap : l.length ≤ cap)
    (h : 0 < l.length → ∃ b o, a = some ⟨b, o, none⟩ ∧ b < w.heap.size ∧ ∀ i (h : i < l.length), E w b (o + i * n) l[i]) : RowRd n E w (.slice a l.length cap) l := by
  by_cases h0 : 0 < l.length
  · obtain ⟨b, o, rfl, h3, h5⟩ := h h0
    exact .inr ⟨b, o, cap, rfl, ⟨h2, hcap⟩, h3, h0, h5⟩
  · obtain rfl : l = [] := List.eq_nil_of_length_eq_zero (by omega)
    exact .inl ⟨rfl, a, cap, rfl⟩

/-- A number that an int holds. -/
def I64 (x : Int) : Prop := -9223372036854775808 ≤ x ∧ x ≤ 9223372036854775807
theorem I64.of_wf {x : Int} (h : (Lit.int .i64 x).wf = true) : I64 x := bounds_i64 h

/-! ### Readers of one cell, and of a row -/
def IntEl : ElRd Int := fun w b o x => w.cell? ⟨b, o, none⟩ = some (.int .i64 x) ∧ I64 x
def StrEl : ElRd ByteArray := fun w b o x => w.cell? ⟨b, o, none⟩ = some (.string x) ∧ x.size ≤ maxLen
def BoolEl : ElRd Bool := fun w b o x => w.cell? ⟨b, o, none⟩ = some (.bool x)
def RowEl {α : Type} (n : Nat) (E : ElRd α) : ElRd (List α) := fun w b o x => ∃ v, w.cell? ⟨b, o, none⟩ = some v ∧ RowRd n E w v x
theorem IntEl.st : Stable IntEl := fun w w' b o x k hb h => ⟨by rw [k.cell _ _ hb]; exact h.1, h.2⟩
theorem StrEl.st : Stable StrEl := fun w w' b o x k hb h => ⟨by rw [k.cell _ _ hb]; exact h.1, h.2⟩
theorem BoolEl.st : Stable BoolEl := fun w w' b o x k hb h => (k.cell _ _ hb).trans h
theorem RowEl.st {α : Type} (n : Nat) {E : ElRd α} (hE : Stable E) : Stable (RowEl n E) := fun w w' b o x k hb ⟨v, h, h'⟩ => ⟨v, (k.cell _ _ hb).trans h, h'.kept hE k⟩
theorem Kept.drew (w : World) : Kept w w.drew := ⟨Nat.le_refl _, fun _ _ _ => rfl⟩
theorem Kept.set {w w' : World} (h : Kept w w') {b o : Nat} (u : Value) (hb : w.heap.size ≤ b) : Kept w (w'.setCell ⟨b, o, none⟩ u) :=
  ⟨by simpa [World.setCell] using h.size, fun c i hc => (World.cell?_setCell_other _ _ _ _ (fun e => by cases e; omega)).trans (h.cell c i hc)⟩
theorem Kept.al3 (w : World) (o o' o2 : Obj) : Kept w (((w.alloc o).alloc o').alloc o2) := ((Kept.alloc _ _).trans (Kept.alloc _ _)).trans (Kept.alloc _ _)
theorem setCell_size (w : World) (p : Addr) (u : Value) : (w.setCell p u).heap.size = w.heap.size := by simp [World.setCell]
theorem Kept.al2 (w : World) (o o' : Obj) : Kept w ((w.alloc o).alloc o') := (Kept.alloc _ _).trans (Kept.alloc _ _)
theorem bcell {W w1 : World} (hb : Below W.heap.size W w1) : (∀ b o, b < W.heap.size → w1.cell? ⟨b, o, none⟩ = W.cell? ⟨b, o, none⟩) ∧ (∀ b o, b < W.heap.size → w1.frozen? ⟨b, o, none⟩ = W.frozen? ⟨b, o, none⟩) :=
  ⟨fun b o h => hb.cell (p := ⟨b, o, none⟩) h, fun b o h => hb.frozen (p := ⟨b, o, none⟩) h⟩
theorem below_tr {w w1 w2 : World} {B : Nat} (h : Below B w w1) (k : Below w1.heap.size w1 w2) (hB : B ≤ w.heap.size := by exact Nat.le_refl _) : Below B w w2 := h.trans (k.mono (Nat.le_trans hB h.size))

/-! ### How much it holds -/
def bulkL {α : Type} (f : α → Nat) : List α → Nat
  | [] => 0
  | x :: l => f x + 1 + bulkL f l
theorem bulkL_snoc {α : Type} (f : α → Nat) (l : List α) (x : α) : bulkL f (l ++ [x]) = bulkL f l + f x + 1 := by
  induction l with
  | nil => simp [bulkL]
  | cons y l ih => simp only [List.cons_append, bulkL, ih]; omega
theorem bulkL_len {α : Type} (f : α → Nat) (l : List α) : l.length ≤ bulkL f l := by
  induction l with
  | nil => simp [bulkL]
  | cons y l ih => simp only [List.length_cons, bulkL]; omega
theorem bulkL_mem {α : Type} (f : α → Nat) (l : List α) (i : Nat) (h : i < l.length) : f l[i] + 1 ≤ bulkL f l := by
  induction l generalizing i with
  | nil => simp at h
  | cons y l ih =>
    cases i with
    | zero => simp only [List.getElem_cons_zero, bulkL]; omega
    | succ i => simp only [List.getElem_cons_succ, bulkL]; have := ih i (by simpa using h); omega
theorem bulkL_take {α : Type} (f : α → Nat) (l : List α) (i : Nat) (h : i < l.length) : bulkL f (l.take (i + 1)) = bulkL f (l.take i) + f l[i] + 1 := by
  rw [List.take_succ_eq_append_getElem h, bulkL_snoc]
theorem bulkL_take_len {α : Type} (f : α → Nat) (l : List α) (i : Nat) (h : i ≤ l.length) : bulkL f l + i ≥ bulkL f (l.take i) + l.length := by
  induction l generalizing i with
  | nil => simp at h; subst h; simp [bulkL]
  | cons y l ih =>
    cases i with
    | zero => have := bulkL_len f (y :: l); simp [bulkL] at this ⊢; omega
    | succ i => simp only [List.take_succ_cons, bulkL, List.length_cons]; have := ih i (by simpa using h); omega
theorem bulkL_take_le {α : Type} (f : α → Nat) (l : List α) (i : Nat) : bulkL f (l.take i) ≤ bulkL f l := by
  induction l generalizing i with
  | nil => simp
  | cons y l ih =>
    cases i with
    | zero => simp [bulkL]
    | succ i => simp only [List.take_succ_cons, bulkL]; have := ih i; omega
def bInt (_ : Int) : Nat := 0
def bStr (s : ByteArray) : Nat := s.size
theorem bulkL_int (l : List Int) : bulkL bInt l = l.length := by
  induction l with
  | nil => rfl
  | cons y l ih => simp only [bulkL, bInt, List.length_cons, ih]; omega
theorem ret_i {k : IntKind} {a b : Int} (h : a = b) : Ending.returned (.int k a) = .returned (.int k b) := by rw [h]

/-! ### What comes in reads so -/
section
variable {H : Type} {enc : TypeId × Value → H} {P : Program} {w : World} {base : Nat} {spare : Nat → Bool} {held : Bool}
/-- The cells from place o on. -/
def CellsAt (w : World) (b o : Nat) (cs : List Value) : Prop := ∀ j (h : j < cs.length), w.cell? ⟨b, o + j, none⟩ = some cs[j]
def Reads (enc : TypeId × Value → H) (P : Program) (w : World) (base : Nat) (spare : Nat → Bool) (held : Bool) {α : Type} (e : TypeId) (n : Nat) (E : ElRd α) : Prop :=
  ∀ fuel cs x b o, DataW.trod enc P w base spare held fuel e cs = some x → cs.length = n → b < w.heap.size → CellsAt w b o cs → ∃ y, E w b o y
theorem list_of {α : Type} (n : Nat) (Q : Nat → α → Prop) (h : ∀ i, i < n → ∃ y, Q i y) : ∃ l : List α, l.length = n ∧ ∀ i (hi : i < l.length), Q i l[i] := by
  induction n with
  | zero => exact ⟨[], rfl, fun i hi => absurd hi (by simp)⟩
  | succ n ih =>
    obtain ⟨l, hl, hq⟩ := ih fun i hi => h i (by omega)
    obtain ⟨y, hy⟩ := h n (by omega)
    refine ⟨l ++ [y], by simp [hl], fun i hi => ?_⟩
    by_cases hlt : i < l.length
    · rw [List.getElem_append_left hlt]; exact hq i hlt
    · obtain rfl : i = n := by simp at hi; omega
      rw [List.getElem_append_right (by omega)]
      simpa [hl] using hy
theorem reads_row {α : Type} {E : ElRd α} {t e : TypeId} {n fuel : Nat} {v : Value} {x : DataW H × List MemPlace} (ht : P.underlying t = some (.slice e)) (hC : P.cellsOf e = n) (hn : 0 < n)
    (hE : Reads enc P w base spare held e n E) (h : DataW.trod enc P w base spare held fuel t [v] = some x) : ∃ l, RowRd n E w v l := by
  rcases Go.Deep.open_slice ht h with ⟨h0, _⟩ | ⟨a, len, cap, m, k, D, Pl, hcs, hb, hl, hm, hmm, hx, hi⟩
  · exact ⟨[], .inl ⟨rfl, none, 0, by simpa using h0⟩⟩
  · obtain rfl : v = .slice (some a) len cap := by simpa using hcs
    have hlm : len ≤ m := by rw [hmm]; split <;> omega
    by_cases h0 : len = 0
    · subst h0; exact ⟨[], .inl ⟨rfl, _, _, rfl⟩⟩
    · have hcell : ∀ i, i < m → ∃ cs', cs'.length = n ∧ (∀ j (h : j < cs'.length), w.cell? ((a.add (i * n)).add j) = some cs'[j]) ∧ DataW.trod enc P w base spare held k e cs' = some (D i, Pl i) := by
        intro i him
        obtain ⟨cs', hc, ht'⟩ := hi i him
        rw [hC] at hc
        obtain ⟨_, hcl, hat⟩ := World.cells?_some hc
        refine ⟨cs', hcl, fun j hj => ?_, ht'⟩
        rw [hat j (by omega), List.getElem?_eq_getElem hj]
      obtain ⟨cs0, hl0, hc0, _⟩ := hcell 0 (by omega)
      have hspot : a.spot = none := by
        have := hc0 0 (by omega)
        have := World.cell?_spot this
        simpa [Addr.add] using this
      obtain ⟨b, o, sp⟩ := a
      simp only at hspot
      subst hspot
      have hadd : ∀ i j, ((⟨b, o, none⟩ : Addr).add (i * n)).add j = ⟨b, o + i * n + j, none⟩ := by
        intro i j; simp only [Addr.add]; split <;> split <;> simp_all
      have hblt : b < w.heap.size := by
        have := hc0 0 (by omega)
        rw [hadd] at this
        exact World.block_lt_of_cell? w _ this
      obtain ⟨l, hll, hq⟩ := list_of len (fun i y => E w b (o + i * n) y) (fun i hil => by
        obtain ⟨cs', hcl, hc, ht'⟩ := hcell i (by omega)
        exact hE k cs' _ b _ ht' hcl hblt (fun j hj => by rw [← hadd]; exact hc j hj))
      refine ⟨l, .inr ⟨b, o, cap, by rw [hll], ⟨by omega, by omega⟩, hblt, by omega, hq⟩⟩
theorem struct_cells {t : TypeId} {fs : Array Field} {fuel : Nat} {cs : List Value} {x : DataW H × List MemPlace} (ht : P.underlying t = some (.struct fs)) (h : DataW.trod enc P w base spare held fuel t cs = some x) :
    ∃ m, ∀ (i : Nat) (f : Field), fs[i]? = some f → ∃ y, DataW.trod enc P w base spare held m f.type ((cs.drop f.offset).take (P.cellsOf f.type)) = some y := by
  obtain ⟨xs, m, _, _, _, hlen, hf⟩ := DataW.trod_struct ht h
  refine ⟨m, fun i f hi => ?_⟩
  have hil : i < fs.size := (Array.getElem?_eq_some_iff.1 hi).1
  exact ⟨_, (hf i f hi).trans (List.getElem?_eq_getElem (by omega))⟩
theorem one_of {cs : List Value} {o : Nat} (h : o < cs.length) : (cs.drop o).take 1 = [cs[o]] := by
  rw [List.drop_eq_getElem_cons h]; rfl
theorem reads_str {t : TypeId} (ht : P.underlying t = some .string) : Reads enc P w base spare held t 1 StrEl := by
  intro fuel cs x b o h hl hb hc
  obtain ⟨n, rfl, _, hw⟩ := DataW.trod_string ht h
  exact ⟨n, by simpa using hc 0 (by simp), hw⟩
theorem reads_int {t : TypeId} (ht : P.underlying t = some (.int .i64)) : Reads enc P w base spare held t 1 IntEl := by
  intro fuel cs x b o h hl hb hc
  obtain ⟨n, rfl, _, hw⟩ := DataW.trod_int ht h
  exact ⟨n, by simpa using hc 0 (by simp), I64.of_wf hw⟩
/-- A field of a struct, by its kind: the cell and what it reads as. -/
theorem field_int {cs : List Value} {b o : Nat} {f : Field} {m : Nat} (hc : CellsAt w b o cs) (hl : f.offset < cs.length) (h1 : P.cellsOf f.type = 1) (ht : P.underlying f.type = some (.int .i64))
    (h : ∃ y, DataW.trod enc P w base spare held m f.type ((cs.drop f.offset).take (P.cellsOf f.type)) = some y) : ∃ x : Int, w.cell? ⟨b, o + f.offset, none⟩ = some (.int .i64 x) ∧ I64 x := by
  obtain ⟨y, hy⟩ := h
  rw [h1, one_of hl] at hy
  obtain ⟨n, hn, _, hw⟩ := DataW.trod_int ht hy
  exact ⟨n, by rw [hc _ hl]; simpa using hn, I64.of_wf hw⟩
theorem field_str {cs : List Value} {b o : Nat} {f : Field} {m : Nat} (hc : CellsAt w b o cs) (hl : f.offset < cs.length) (h1 : P.cellsOf f.type = 1) (ht : P.underlying f.type = some .string)
    (h : ∃ y, DataW.trod enc P w base spare held m f.type ((cs.drop f.offset).take (P.cellsOf f.type)) = some y) : ∃ x : ByteArray, w.cell? ⟨b, o + f.offset, none⟩ = some (.string x) ∧ x.size ≤ maxLen := by
  obtain ⟨y, hy⟩ := h
  rw [h1, one_of hl] at hy
  obtain ⟨n, hn, _, hw⟩ := DataW.trod_string ht hy
  exact ⟨n, by rw [hc _ hl]; simpa using hn, hw⟩
theorem field_bool {cs : List Value} {b o : Nat} {f : Field} {m : Nat} (hc : CellsAt w b o cs) (hl : f.offset < cs.length) (h1 : P.cellsOf f.type = 1) (ht : P.underlying f.type = some .bool)
    (h : ∃ y, DataW.trod enc P w base spare held m f.type ((cs.drop f.offset).take (P.cellsOf f.type)) = some y) : ∃ x : Bool, w.cell? ⟨b, o + f.offset, none⟩ = some (.bool x) := by
  obtain ⟨y, hy⟩ := h
  rw [h1, one_of hl] at hy
  obtain ⟨n, hn, _⟩ := DataW.trod_bool ht hy
  exact ⟨n, by rw [hc _ hl]; simpa using hn⟩
theorem field_row {α : Type} {E : ElRd α} {n : Nat} {e : TypeId} {cs : List Value} {b o : Nat} {f : Field} {m : Nat} (hc : CellsAt w b o cs) (hl : f.offset < cs.length) (h1 : P.cellsOf f.type = 1) (ht : P.underlying f.type = some (.slice e))
    (hC : P.cellsOf e = n) (hn : 0 < n) (hE : Reads enc P w base spare held e n E)
    (h : ∃ y, DataW.trod enc P w base spare held m f.type ((cs.drop f.offset).take (P.cellsOf f.type)) = some y) : ∃ v l, w.cell? ⟨b, o + f.offset, none⟩ = some v ∧ RowRd n E w v l := by
  obtain ⟨y, hy⟩ := h
  rw [h1, one_of hl] at hy
  obtain ⟨l, hr⟩ := reads_row ht hC hn hE hy
  exact ⟨_, l, hc _ hl, hr⟩
theorem field_st {α : Type} {E : ElRd α} {n : Nat} {cs : List Value} {b o : Nat} {f : Field} {m : Nat} (hb : b < w.heap.size) (hc : CellsAt w b o cs) (hl : f.offset + n ≤ cs.length) (h1 : P.cellsOf f.type = n)
    (hE : Reads enc P w base spare held f.type n E) (h : ∃ y, DataW.trod enc P w base spare held m f.type ((cs.drop f.offset).take (P.cellsOf f.type)) = some y) : ∃ y, E w b (o + f.offset) y := by
  obtain ⟨y, hy⟩ := h
  rw [h1] at hy
  have hlen : ((cs.drop f.offset).take n).length = n := by simp; omega
  refine hE m _ y b (o + f.offset) hy hlen hb fun j hj => ?_
  rw [hlen] at hj
  have := hc (f.offset + j) (by omega)
  rw [← Nat.add_assoc] at this
  rw [this]
  simp
/-- A field of a struct by value. -/
theorem arg_int {cs : List Value} {f : Field} {m : Nat} (hl : f.offset < cs.length) (h1 : P.cellsOf f.type = 1) (ht : P.underlying f.type = some (.int .i64))
    (h : ∃ y, DataW.trod enc P w base spare held m f.type ((cs.drop f.offset).take (P.cellsOf f.type)) = some y) : ∃ x : Int, cs[f.offset] = .int .i64 x ∧ I64 x := by
  obtain ⟨y, hy⟩ := h
  rw [h1, one_of hl] at hy
  obtain ⟨n, hn, _, hw⟩ := DataW.trod_int ht hy
  exact ⟨n, by simpa using hn, I64.of_wf hw⟩
theorem arg_str {cs : List Value} {f : Field} {m : Nat} (hl : f.offset < cs.length) (h1 : P.cellsOf f.type = 1) (ht : P.underlying f.type = some .string)
    (h : ∃ y, DataW.trod enc P w base spare held m f.type ((cs.drop f.offset).take (P.cellsOf f.type)) = some y) : ∃ x : ByteArray, cs[f.offset] = .string x ∧ x.size ≤ maxLen := by
  obtain ⟨y, hy⟩ := h
  rw [h1, one_of hl] at hy
  obtain ⟨n, hn, _, hw⟩ := DataW.trod_string ht hy
  exact ⟨n, by simpa using hn, hw⟩
theorem arg_bool {cs : List Value} {f : Field} {m : Nat} (hl : f.offset < cs.length) (h1 : P.cellsOf f.type = 1) (ht : P.underlying f.type = some .bool)
    (h : ∃ y, DataW.trod enc P w base spare held m f.type ((cs.drop f.offset).take (P.cellsOf f.type)) = some y) : ∃ x : Bool, cs[f.offset] = .bool x := by
  obtain ⟨y, hy⟩ := h
  rw [h1, one_of hl] at hy
  obtain ⟨n, hn, _⟩ := DataW.trod_bool ht hy
  exact ⟨n, by simpa using hn⟩
theorem arg_row {α : Type} {E : ElRd α} {n : Nat} {e : TypeId} {cs : List Value} {f : Field} {m : Nat} (hl : f.offset < cs.length) (h1 : P.cellsOf f.type = 1) (ht : P.underlying f.type = some (.slice e))
    (hC : P.cellsOf e = n) (hn : 0 < n) (hE : Reads enc P w base spare held e n E)
    (h : ∃ y, DataW.trod enc P w base spare held m f.type ((cs.drop f.offset).take (P.cellsOf f.type)) = some y) : ∃ l, RowRd n E w cs[f.offset] l := by
  obtain ⟨y, hy⟩ := h
  rw [h1, one_of hl] at hy
  exact reads_row ht hC hn hE hy
end
theorem arg_fields {H : Type} {enc : TypeId × Value → H} {P : Program} {w : World} {base b0 : Nat} {spare : Nat → Bool} {held : Bool} {r : Reach} {t : TypeId} {fs : Array Field} {v : Value} {d : DataW H} {ps : List MemPlace} (ht : P.underlying t = some (.struct fs))
    (hv : Value.okWide P w r b0 t v) (h : DataW.Trod enc P w base spare held t v d ps) :
    ∃ cs : List Value, v = .agg cs.toArray ∧ cs.length = P.cellsOf t ∧ ∃ m, ∀ (i : Nat) (f : Field), fs[i]? = some f → ∃ y, DataW.trod enc P w base spare held m f.type ((cs.drop f.offset).take (P.cellsOf f.type)) = some y := by
  obtain ⟨cs, rfl, hsz⟩ := okWide_struct ht hv
  obtain ⟨l⟩ := cs
  obtain ⟨fuel, hf⟩ := h
  exact ⟨l, rfl, hsz, struct_cells ht hf⟩
theorem arg_slice {H : Type} {enc : TypeId × Value → H} {P : Program} {w : World} {base : Nat} {spare : Nat → Bool} {held : Bool} {α : Type} {E : ElRd α} {n : Nat} {t e : TypeId} {v : Value} {d : DataW H} {ps : List MemPlace}
    (ht : P.underlying t = some (.slice e)) (hC : P.cellsOf e = n) (hn : 0 < n) (hE : Reads enc P w base spare held e n E) (hv1 : v.cells = #[v]) (h : DataW.Trod enc P w base spare held t v d ps) : ∃ l, RowRd n E w v l := by
  obtain ⟨fuel, hf⟩ := h
  rw [hv1] at hf
  exact reads_row ht hC hn hE hf
end Go.Proofs.Ytpgefkdojplamaa
