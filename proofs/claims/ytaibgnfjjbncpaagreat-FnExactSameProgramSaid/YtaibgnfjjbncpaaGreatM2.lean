/- Texts of this proof, merged: OwnDeep, OwnData. -/
import Derived.Test.YtaibgnfjjbncpaaGreatM1
import Derived.Laws.OwnMore
namespace Go.Proofs.YtaibgnfjjbncpaaGreat
set_option linter.unusedVariables false
open Go.ChangeShapes Go.WideShapes Go.ChangeAt Go.RowKit

/-- An element's reader that tells the blocks below it. -/
abbrev OwnRd (α : Type) := World → Nat → Nat → α → List Nat → Prop
def RowOwn {α : Type} (n : Nat) (E : OwnRd α) (w : World) (v : Value) (l : List α) (F : List Nat) : Prop :=
  (l = [] ∧ F = [] ∧ ∃ a cap, v = .slice a 0 cap) ∨
  ∃ (g cap : Nat) (Fs : List (List Nat)), v = .slice (some ⟨g, 0, none⟩) l.length cap ∧ (l.length ≤ maxLen ∧ l.length ≤ cap) ∧ g < w.heap.size ∧ (∀ i, w.frozen? ⟨g, i, none⟩ = false) ∧ 0 < l.length ∧ Fs.length = l.length ∧ F = g :: Fs.flatten ∧
    ∀ i (h : i < l.length) (h' : i < Fs.length), E w g (i * n) l[i] Fs[i]
/-- An element is read off its own cells and the blocks below it. -/
def Loc {α : Type} (n : Nat) (E : OwnRd α) : Prop := ∀ w w' b o x F, w.heap.size ≤ w'.heap.size → (∀ j, j < n → w'.cell? ⟨b, o + j, none⟩ = w.cell? ⟨b, o + j, none⟩) → (∀ g ∈ F, w'.heap[g]? = w.heap[g]?) → E w b o x F → E w' b o x F
def Sized {α : Type} (E : OwnRd α) : Prop := ∀ w b o x F, E w b o x F → ∀ g ∈ F, g < w.heap.size
theorem RowOwn.loc {α : Type} {n : Nat} {E : OwnRd α} (hE : Loc n E) {w w' : World} {v : Value} {l : List α} {F : List Nat} (hs : w.heap.size ≤ w'.heap.size) (hF : ∀ g ∈ F, w'.heap[g]? = w.heap[g]?) (h : RowOwn n E w v l F) : RowOwn n E w' v l F := by
  rcases h with h | ⟨g, cap, Fs, h1, h2, h3, h4, h5, h6, rfl, h8⟩
  · exact .inl h
  · have hg : w'.heap[g]? = w.heap[g]? := hF g (by simp)
    refine .inr ⟨g, cap, Fs, h1, h2, Nat.lt_of_lt_of_le h3 hs, fun i => by rw [World.frozen?_of_block (a := ⟨g, i, none⟩) hg]; exact h4 i, h5, h6, rfl, fun i hi hi' => ?_⟩
    refine hE w w' g _ _ _ hs (fun j _ => World.cell?_of_block (a := ⟨g, i * n + j, none⟩) hg) (fun k hk => hF k ?_) (h8 i hi hi')
    exact List.mem_cons_of_mem _ (List.mem_flatten.2 ⟨_, List.getElem_mem hi', hk⟩)
theorem RowOwn.sized {α : Type} {n : Nat} {E : OwnRd α} (hE : Sized E) {w : World} {v : Value} {l : List α} {F : List Nat} (h : RowOwn n E w v l F) : ∀ g ∈ F, g < w.heap.size := by
  rcases h with ⟨_, rfl, _⟩ | ⟨g, cap, Fs, h1, h2, h3, h4, h5, h6, rfl, h8⟩
  · intro g hg; simp at hg
  · intro k hk
    rcases List.mem_cons.1 hk with rfl | hk
    · exact h3
    · obtain ⟨F, hF, hk⟩ := List.mem_flatten.1 hk
      obtain ⟨i, hi, rfl⟩ := List.getElem_of_mem hF
      exact hE w g _ _ _ (h8 i (by omega) hi) k hk
def RowElOwn {α : Type} (n : Nat) (E : OwnRd α) : OwnRd (List α) := fun w b o x F => ∃ v, w.cell? ⟨b, o, none⟩ = some v ∧ RowOwn n E w v x F
theorem RowElOwn.loc {α : Type} {n : Nat} {E : OwnRd α} (hE : Loc n E) : Loc 1 (RowElOwn n E) := fun w w' b o x F hs hc hF ⟨v, h, h'⟩ => ⟨v, by have := hc 0 (by omega); rw [Nat.add_zero] at this; rw [this]; exact h, h'.loc hE hs hF⟩
theorem RowElOwn.sized {α : Type} {n : Nat} {E : OwnRd α} (hE : Sized E) : Sized (RowElOwn n E) := fun w b o x F ⟨v, _, h⟩ => h.sized hE
/-- What is owned reads so. -/
def OwnReads {α : Type} (E : OwnRd α) (R : ElRd α) : Prop := ∀ w b o x F, E w b o x F → R w b o x
theorem RowOwn.reads {α : Type} {n : Nat} {E : OwnRd α} {R : ElRd α} (hE : OwnReads E R) {w : World} {v : Value} {l : List α} {F : List Nat} (h : RowOwn n E w v l F) : RowRd n R w v l := by
  rcases h with ⟨h, _, h'⟩ | ⟨g, cap, Fs, h1, h2, h3, h4, h5, h6, rfl, h8⟩
  · exact .inl ⟨h, h'⟩
  · exact .inr ⟨g, 0, cap, h1, h2, h3, h5, fun i hi => by rw [Nat.zero_add]; exact hE _ _ _ _ _ (h8 i hi (by omega))⟩
theorem RowElOwn.reads {α : Type} {n : Nat} {E : OwnRd α} {R : ElRd α} (hE : OwnReads E R) : OwnReads (RowElOwn n E) (RowEl n R) := fun w b o x F ⟨v, h, h'⟩ => ⟨v, h, h'.reads hE⟩
/-- Elements with nothing below them. -/
def Flat {α : Type} (R : ElRd α) : OwnRd α := fun w b o x F => F = [] ∧ R w b o x
theorem Flat.sized {α : Type} (R : ElRd α) : Sized (Flat R) := fun w b o x F ⟨h, _⟩ g hg => by subst h; simp at hg
theorem Flat.reads {α : Type} (R : ElRd α) : OwnReads (Flat R) R := fun w b o x F h => h.2
theorem IntFlat.loc : Loc 1 (Flat IntEl) := fun w w' b o x F hs hc hF ⟨h, h'⟩ => ⟨h, by have := hc 0 (by omega); rw [Nat.add_zero] at this; unfold IntEl; rw [this]; exact h'⟩
theorem StrFlat.loc : Loc 1 (Flat StrEl) := fun w w' b o x F hs hc hF ⟨h, h'⟩ => ⟨h, by have := hc 0 (by omega); rw [Nat.add_zero] at this; unfold StrEl; rw [this]; exact h'⟩

/-- Of what was there, only the blocks of F have turned. -/
structure ButF (F : List Nat) (w w' : World) : Prop where
  os : w'.os = w.os
  tape : w'.tape = w.tape
  output : w'.output = w.output
  size : w.heap.size ≤ w'.heap.size
  block : ∀ k, k < w.heap.size → k ∉ F → w'.heap[k]? = w.heap[k]?
theorem ButF.refl (F : List Nat) (w : World) : ButF F w w := ⟨rfl, rfl, rfl, Nat.le_refl _, fun _ _ _ => rfl⟩
theorem ButF.trans {F : List Nat} {a b c : World} (h : ButF F a b) (k : ButF F b c) : ButF F a c :=
  ⟨k.os.trans h.os, k.tape.trans h.tape, k.output.trans h.output, Nat.le_trans h.size k.size, fun i hi hn => (k.block i (Nat.lt_of_lt_of_le hi h.size) hn).trans (h.block i hi hn)⟩
theorem ButF.mono {F F' : List Nat} {a b : World} (h : ButF F a b) (hF : ∀ g ∈ F, g ∈ F') : ButF F' a b := ⟨h.os, h.tape, h.output, h.size, fun k hk hn => h.block k hk fun hg => hn (hF k hg)⟩
theorem ButF.of_below {F : List Nat} {w w' : World} (h : Below w.heap.size w w') : ButF F w w' := ⟨h.os, h.tape, h.output, h.size, fun k hk _ => h.block k hk⟩
theorem ButF.bel {F : List Nat} {B : Nat} {w w' : World} (h : ButF F w w') (hF : ∀ g ∈ F, B ≤ g) (hB : B ≤ w.heap.size) : Below B w w' :=
  ⟨h.os, h.tape, h.output, h.size, fun k hk => h.block k (by omega) fun hg => by have := hF k hg; omega⟩
theorem RowOwn.but {α : Type} {n : Nat} {E : OwnRd α} (hE : Loc n E) (hZ : Sized E) {w w' : World} {v : Value} {l : List α} {F F' : List Nat} (h : RowOwn n E w v l F) (hb : ButF F' w w') (hd : ∀ g ∈ F, g ∉ F') : RowOwn n E w' v l F :=
  h.loc hE hb.size fun g hg => hb.block g (h.sized hZ g hg) (hd g hg)
theorem RowOwn.kept {α : Type} {n : Nat} {E : OwnRd α} (hE : Loc n E) (hZ : Sized E) {w w' : World} {v : Value} {l : List α} {F : List Nat} (h : RowOwn n E w v l F) (hb : Below w.heap.size w w') : RowOwn n E w' v l F :=
  h.loc hE hb.size fun g hg => hb.block g (h.sized hZ g hg)
/-- What reads stays, where what has turned lies elsewhere. -/
theorem kept_but {F : List Nat} {w w' : World} (h : ButF F w w') (hF : ∀ g ∈ F, w.heap.size ≤ g) : Kept w w' := Kept.of_below (h.bel hF (Nat.le_refl _))

/-! ### A round of a marking loop -/
/-- Of what was there, only the n cells from place o on of block g, and the blocks of F, have turned. -/
structure Out (g o n : Nat) (F : List Nat) (w w' : World) : Prop where
  os : w'.os = w.os
  tape : w'.tape = w.tape
  output : w'.output = w.output
  size : w.heap.size ≤ w'.heap.size
  block : ∀ k, k < w.heap.size → k ≠ g → k ∉ F → w'.heap[k]? = w.heap[k]?
  cell : ∀ i, (i < o ∨ o + n ≤ i) → w'.cell? ⟨g, i, none⟩ = w.cell? ⟨g, i, none⟩
  fr : ∀ i, w'.frozen? ⟨g, i, none⟩ = w.frozen? ⟨g, i, none⟩
theorem Out.refl (g o n : Nat) (F : List Nat) (w : World) : Out g o n F w w := ⟨rfl, rfl, rfl, Nat.le_refl _, fun _ _ _ _ => rfl, fun _ _ => rfl, fun _ => rfl⟩
theorem cell_off {w : World} {b i j : Nat} {v : Value} (h : i ≠ j) : (w.setCell ⟨b, i, none⟩ v).cell? ⟨b, j, none⟩ = w.cell? ⟨b, j, none⟩ :=
  World.cell?_setCell_other _ _ _ _ (fun e => h (by injection e))
theorem Out.set {g o n : Nat} {F : List Nat} {w w' : World} (h : Out g o n F w w') (i : Nat) (v : Value) (hi : o ≤ i ∧ i < o + n) : Out g o n F w (w'.setCell ⟨g, i, none⟩ v) := by
  refine ⟨h.os, h.tape, h.output, by simpa [World.setCell] using h.size, fun k hk hn hf => ?_, fun j hj => ?_, fun j => ?_⟩
  · rw [Below.heap_setCell _ _ _ _ (fun e => hn (by rw [e]))]; exact h.block k hk hn hf
  · rw [cell_off (by omega)]; exact h.cell j hj
  · rw [World.frozen?_setCell]; exact h.fr j
theorem Out.below {g o n : Nat} {F : List Nat} {w w' w2 : World} (h : Out g o n F w w') (hg : g < w.heap.size) (hb : Below w'.heap.size w' w2) : Out g o n F w w2 := by
  have hg' : g < w'.heap.size := Nat.lt_of_lt_of_le hg h.size
  exact ⟨hb.os.trans h.os, hb.tape.trans h.tape, hb.output.trans h.output, Nat.le_trans h.size hb.size, fun k hk hn hf => (hb.block k (Nat.lt_of_lt_of_le hk h.size)).trans (h.block k hk hn hf),
    fun i hi => (hb.cell (p := ⟨g, i, none⟩) hg').trans (h.cell i hi), fun i => (hb.frozen (p := ⟨g, i, none⟩) hg').trans (h.fr i)⟩
theorem Out.but {g o n : Nat} {F F' : List Nat} {w w' w2 : World} (h : Out g o n F w w') (hg : g < w.heap.size) (hb : ButF F' w' w2) (hF : ∀ k ∈ F', k ∈ F) (hgF : g ∉ F') : Out g o n F w w2 := by
  have hg' : g < w'.heap.size := Nat.lt_of_lt_of_le hg h.size
  have hgb := hb.block g hg' hgF
  exact ⟨hb.os.trans h.os, hb.tape.trans h.tape, hb.output.trans h.output, Nat.le_trans h.size hb.size, fun k hk hn hf => (hb.block k (Nat.lt_of_lt_of_le hk h.size) fun e => hf (hF k e)).trans (h.block k hk hn hf),
    fun i hi => (World.cell?_of_block (a := ⟨g, i, none⟩) hgb).trans (h.cell i hi), fun i => (World.frozen?_of_block (a := ⟨g, i, none⟩) hgb).trans (h.fr i)⟩
/-- Where a marking loop stands: the first j elements are as l' has them. -/
structure MInv {α : Type} (n : Nat) (E : OwnRd α) (w : World) (g : Nat) (Fs : List (List Nat)) (l l' : List α) (j : Nat) (wr : World) : Prop where
  lt : g < wr.heap.size
  fr : ∀ i, wr.frozen? ⟨g, i, none⟩ = false
  done : ∀ i (h : i < j) (h1 : i < l'.length) (h2 : i < Fs.length), E wr g (i * n) l'[i] Fs[i]
  todo : ∀ i (h : j ≤ i) (h1 : i < l.length) (h2 : i < Fs.length), E wr g (i * n) l[i] Fs[i]
  but : ButF (g :: Fs.flatten) w wr
theorem nodup_parts {g : Nat} {Fs : List (List Nat)} (h : (g :: Fs.flatten).Nodup) : (∀ i (hi : i < Fs.length), g ∉ Fs[i]) ∧ (∀ i j (hi : i < Fs.length) (hj : j < Fs.length), i ≠ j → ∀ k ∈ Fs[i], k ∉ Fs[j]) ∧ ∀ i (hi : i < Fs.length), Fs[i].Nodup := by
  obtain ⟨h1, h2⟩ := List.nodup_cons.1 h
  rw [List.Nodup, List.pairwise_flatten] at h2
  refine ⟨fun i hi hg => h1 (List.mem_flatten.2 ⟨_, List.getElem_mem hi, hg⟩), fun i j hi hj hne k hk hk' => ?_, fun i hi => h2.1 _ (List.getElem_mem hi)⟩
  have h3 := List.pairwise_iff_getElem.1 h2.2
  by_cases hlt : i < j
  · exact h3 i j hi hj hlt k hk k hk' rfl
  · exact h3 j i hj hi (by omega) k hk' k hk rfl
theorem MInv.step {α : Type} {n : Nat} {E : OwnRd α} (hE : Loc n E) (hZ : Sized E) {w : World} {g : Nat} {Fs : List (List Nat)} {l l' : List α} {j : Nat} {wr wc : World} (h : MInv n E w g Fs l l' j wr) (hN : (g :: Fs.flatten).Nodup)
    (hl : l'.length = l.length) (hf : Fs.length = l.length) (hj : j < l.length) {F : List Nat} (hF : F = Fs[j]'(by omega)) (hO : Out g (j * n) n F wr wc) (hD : E wc g (j * n) (l'[j]'(by omega)) F) : MInv n E w g Fs l l' (j + 1) wc := by
  subst hF
  obtain ⟨n1, n2, n3⟩ := nodup_parts hN
  have hb : ∀ i (hi : i < Fs.length), i ≠ j → ∀ k ∈ Fs[i], k < wr.heap.size → wc.heap[k]? = wr.heap[k]? := fun i hi hne k hk hlt => hO.block k hlt (fun e => n1 i hi (e ▸ hk)) (n2 i j hi (by omega) hne k hk)
  have hc : ∀ i, i ≠ j → ∀ d, d < n → wc.cell? ⟨g, i * n + d, none⟩ = wr.cell? ⟨g, i * n + d, none⟩ := fun i hne d hd => hO.cell _ (by
    rcases Nat.lt_or_gt_of_ne hne with h | h
    · left; have := Nat.mul_le_mul_right n (show i + 1 ≤ j by omega); rw [Nat.succ_mul] at this; omega
    · right; have := Nat.mul_le_mul_right n (show j + 1 ≤ i by omega); rw [Nat.succ_mul] at this; omega)
  refine ⟨Nat.lt_of_lt_of_le h.lt hO.size, fun i => (hO.fr i).trans (h.fr i), fun i hi h1 h2 => ?_, fun i hi h1 h2 => ?_, ?_⟩
  · by_cases he : i = j
    · subst he; exact hD
    · have hx := h.done i (by omega) h1 h2
      exact hE wr wc g _ _ _ hO.size (hc i he) (fun k hk => hb i h2 he k hk (hZ _ _ _ _ _ hx k hk)) hx
  · have hx := h.todo i (by omega) h1 h2
    exact hE wr wc g _ _ _ hO.size (hc i (by omega)) (fun k hk => hb i h2 (by omega) k hk (hZ _ _ _ _ _ hx k hk)) hx
  · refine h.but.trans ⟨hO.os, hO.tape, hO.output, hO.size, fun k hk hn => hO.block k hk (fun e => hn (by simp [e])) fun e => hn (List.mem_cons_of_mem _ (List.mem_flatten.2 ⟨_, List.getElem_mem _, e⟩))⟩

/-! ### What marking leaves -/
def cntL {α : Type} (c : α → Nat) : List α → Nat
  | [] => 0
  | x :: l => c x + cntL c l
def mkL {α : Type} (f : α → Nat → α) (c : α → Nat) : List α → Nat → List α
  | [], _ => []
  | x :: l, k => f x k :: mkL f c l (k + c x)
theorem mkL_len {α : Type} (f : α → Nat → α) (c : α → Nat) (l : List α) (k : Nat) : (mkL f c l k).length = l.length := by
  induction l generalizing k with
  | nil => rfl
  | cons x l ih => simp [mkL, ih]
theorem mkL_get {α : Type} (f : α → Nat → α) (c : α → Nat) (l : List α) (k i : Nat) (h : i < l.length) : (mkL f c l k)[i]'(by rw [mkL_len]; exact h) = f l[i] (k + cntL c (l.take i)) := by
  induction l generalizing k i with
  | nil => simp at h
  | cons x l ih =>
    cases i with
    | zero => simp [mkL, cntL]
    | succ i => simp only [mkL, List.getElem_cons_succ, List.take_succ_cons, cntL]; rw [ih (k + c x) i (by simpa using h)]; rw [Nat.add_assoc]
theorem cntL_take {α : Type} (c : α → Nat) (l : List α) (i : Nat) (h : i < l.length) : cntL c (l.take (i + 1)) = cntL c (l.take i) + c l[i] := by
  induction l generalizing i with
  | nil => simp at h
  | cons x l ih =>
    cases i with
    | zero => simp [cntL]
    | succ i => simp only [List.take_succ_cons, cntL, List.getElem_cons_succ]; rw [ih i (by simpa using h)]; omega
theorem cntL_le {α : Type} (c : α → Nat) (l : List α) (i : Nat) : cntL c (l.take i) ≤ cntL c l := by
  induction l generalizing i with
  | nil => simp [cntL]
  | cons x l ih =>
    cases i with
    | zero => simp [cntL]
    | succ i => simp only [List.take_succ_cons, cntL]; have := ih i; omega
theorem cntL_all {α : Type} (c : α → Nat) (l : List α) : cntL c (l.take l.length) = cntL c l := by rw [List.take_length]
/-- What is owned, opened for a marking loop. -/
theorem RowOwn.form {α : Type} {n : Nat} {E : OwnRd α} {w : World} {v : Value} {l : List α} {F : List Nat} (h : RowOwn n E w v l F) :
    (l = [] ∧ F = [] ∧ ∃ a cap, v = .slice a 0 cap) ∨ ∃ (g cap : Nat) (Fs : List (List Nat)), v = .slice (some ⟨g, 0, none⟩) l.length cap ∧ (l.length ≤ maxLen ∧ l.length ≤ cap) ∧ 0 < l.length ∧ Fs.length = l.length ∧ F = g :: Fs.flatten ∧ ∀ l', MInv n E w g Fs l l' 0 w := by
  rcases h with h | ⟨g, cap, Fs, h1, h2, h3, h4, h5, h6, h7, h8⟩
  · exact .inl h
  · exact .inr ⟨g, cap, Fs, h1, h2, h5, h6, h7, fun l' => ⟨h3, h4, fun i hi => absurd hi (by omega), fun i _ h1 h2 => h8 i h1 h2, ButF.refl _ _⟩⟩
theorem MInv.fin {α : Type} {n : Nat} {E : OwnRd α} {w wr : World} {g cap m : Nat} {Fs : List (List Nat)} {l l' : List α} (h : MInv n E w g Fs l l' m wr) (hm : m = l.length) (hl : l'.length = l.length) (hf : Fs.length = l.length) (h0 : 0 < l.length) (h1 : l.length ≤ maxLen ∧ l.length ≤ cap) :
    RowOwn n E wr (.slice (some ⟨g, 0, none⟩) l.length cap) l' (g :: Fs.flatten) :=
  .inr ⟨g, cap, Fs, by rw [hl], ⟨by omega, by omega⟩, h.lt, h.fr, by omega, by omega, rfl, fun i hi hi' => h.done i (by omega) hi hi'⟩
/-! ### A loop that fills a slice of its own, element by element -/
structure TInv {α : Type} (n : Nat) (E : OwnRd α) (w : World) (g : Nat) (l : List α) (Fs : List (List Nat)) (j : Nat) (wr : World) : Prop where
  len : Fs.length = j
  ge : w.heap.size ≤ g
  lt : g < wr.heap.size
  fr : ∀ i, wr.frozen? ⟨g, i, none⟩ = false
  all : ∀ i, i < l.length * n → ∃ u, wr.cell? ⟨g, i, none⟩ = some u
  done : ∀ i (h : i < j) (h1 : i < l.length) (h2 : i < Fs.length), E wr g (i * n) l[i] Fs[i]
  far : ∀ f ∈ Fs.flatten, g < f
  nd : Fs.flatten.Nodup
  bel : Below w.heap.size w wr
theorem TInv.step {α : Type} {n : Nat} {E : OwnRd α} (hE : Loc n E) (hZ : Sized E) {w : World} {g : Nat} {Fs : List (List Nat)} {l : List α} {j : Nat} {wr wc : World} (h : TInv n E w g l Fs j wr) (hj : j < l.length) {F : List Nat}
    (hF : ∀ f ∈ F, wr.heap.size ≤ f) (hN : F.Nodup) (hO : Out g (j * n) n [] wr wc) (hA : ∀ d, d < n → ∃ u, wc.cell? ⟨g, j * n + d, none⟩ = some u) (hD : E wc g (j * n) l[j] F) : TInv n E w g l (Fs ++ [F]) (j + 1) wc := by
  have hlt := h.lt
  have hln := h.len
  have hc : ∀ i, i ≠ j → ∀ d, d < n → wc.cell? ⟨g, i * n + d, none⟩ = wr.cell? ⟨g, i * n + d, none⟩ := fun i hne d hd => hO.cell _ (by
    rcases Nat.lt_or_gt_of_ne hne with h | h
    · left; have := Nat.mul_le_mul_right n (show i + 1 ≤ j by omega); rw [Nat.succ_mul] at this; omega
    · right; have := Nat.mul_le_mul_right n (show j + 1 ≤ i by omega); rw [Nat.succ_mul] at this; omega)
  have hold : ∀ f ∈ Fs.flatten, f < wr.heap.size := by
    intro f hf
    obtain ⟨F', hF', hf'⟩ := List.mem_flatten.1 hf
    obtain ⟨i, hi, rfl⟩ := List.getElem_of_mem hF'
    exact hZ wr g _ _ _ (h.done i (by omega) (by omega) hi) f hf'
  refine ⟨by simp [hln], h.ge, Nat.lt_of_lt_of_le hlt hO.size, fun i => (hO.fr i).trans (h.fr i), fun i hi => ?_, fun i hi h1 h2 => ?_, fun f hf => ?_, ?_, ?_⟩
  · by_cases hin : j * n ≤ i ∧ i < j * n + n
    · obtain ⟨u, hu⟩ := hA (i - j * n) (by omega)
      exact ⟨u, by rw [show j * n + (i - j * n) = i from by omega] at hu; exact hu⟩
    · rw [hO.cell i (by omega)]; exact h.all i hi
  · by_cases he : i = j
    · subst he
      have : (Fs ++ [F])[i] = F := by rw [List.getElem_append_right (by omega)]; simp [hln]
      rw [this]; exact hD
    · have hx := h.done i (by omega) h1 (by omega)
      have : (Fs ++ [F])[i] = Fs[i]'(by omega) := List.getElem_append_left (by omega)
      rw [this]
      refine hE wr wc g _ _ _ hO.size (hc i he) (fun k hk => ?_) hx
      have hk' : k ∈ Fs.flatten := List.mem_flatten.2 ⟨_, List.getElem_mem _, hk⟩
      exact hO.block k (hold k hk') (by have := h.far k hk'; omega) (by simp)
  · rw [List.flatten_append] at hf
    rcases List.mem_append.1 hf with hf | hf
    · exact h.far f hf
    · have := hF f (by simpa using hf); omega
  · rw [List.flatten_append]
    refine List.nodup_append.2 ⟨h.nd, by simpa using hN, fun a ha b hb => ?_⟩
    have h1 := hold a ha
    have h2 := hF b (by simpa using hb)
    omega
  · have hg := h.ge
    have hsz := h.bel.size
    refine h.bel.trans ⟨hO.os, hO.tape, hO.output, hO.size, fun k hk => hO.block k (by omega) (by omega) (by simp)⟩
/-- A new slice that a call hands back. -/
def RowPost {α : Type} (n : Nat) (E : OwnRd α) (l : List α) (w : World) (e : Ending) (w' : World) : Prop :=
  ∃ u F, e = .returned u ∧ RowOwn n E w' u l F ∧ (∀ g ∈ F, w.heap.size ≤ g) ∧ F.Nodup ∧ Below w.heap.size w w'
theorem TInv.fin {α : Type} {n : Nat} {E : OwnRd α} {w wr : World} {g m : Nat} {Fs : List (List Nat)} {l : List α} (h : TInv n E w g l Fs m wr) (hm : m = l.length) (h1 : l.length ≤ maxLen) {e : Ending} (he : e = .returned (.slice (some ⟨g, 0, none⟩) l.length l.length)) :
    RowPost n E l w e wr := by
  by_cases h0 : 0 < l.length
  · refine ⟨_, g :: Fs.flatten, he, .inr ⟨g, l.length, Fs, rfl, ⟨h1, Nat.le_refl _⟩, h.lt, h.fr, h0, by rw [h.len, hm], rfl, fun i hi hi' => h.done i (by omega) hi hi'⟩, fun f hf => ?_, List.nodup_cons.2 ⟨fun hg => ?_, h.nd⟩, h.bel⟩
    · rcases List.mem_cons.1 hf with rfl | hf
      · exact h.ge
      · have := h.far f hf; have := h.ge; omega
    · have := h.far g hg; omega
  · obtain rfl : l = [] := List.eq_nil_of_length_eq_zero (by omega)
    exact ⟨_, [], he, .inl ⟨rfl, rfl, _, _, rfl⟩, fun f hf => by simp at hf, List.nodup_nil, h.bel⟩
theorem make_t {α : Type} {P : Program} {E : OwnRd α} (w : World) (t e : TypeId) (z : Value) (size bytes : Nat) (l : List α) (ht : P.underlying t = some (.slice e)) (hi : (P.info? e).map (fun i => (i.zero, i.size, i.bytes)) = some (some z, size, bytes))
    (hn : l.length ≤ 1048576) (hs : size ≤ 16) (hb : bytes ≤ 4096) :
    ∃ W0, (Instr.makeSlice t (.int .i64 (l.length : Int)) (.int .i64 (l.length : Int))).run P w = .ok (.slice (some ⟨w.heap.size, 0, none⟩) l.length l.length) W0 ∧ TInv size E w w.heap.size l [] 0 W0 := by
  obtain ⟨i, hi', hz, hsz, hby⟩ : ∃ i, P.info? e = some i ∧ i.zero = some z ∧ i.size = size ∧ i.bytes = bytes := by
    cases h : P.info? e with
    | none => rw [h] at hi; simp at hi
    | some i => rw [h] at hi; simp at hi; exact ⟨i, rfl, hi.1, hi.2.1, hi.2.2⟩
  have h1 : l.length * size ≤ 16777216 := Nat.le_trans (Nat.mul_le_mul hn hs) (by decide)
  have h2 : i.bytes * l.length ≤ 281474976710656 := by rw [hby]; exact Nat.le_trans (Nat.mul_le_mul hb hn) (by decide)
  obtain ⟨W0, hr, ho, hg⟩ := run_makeSlice_full (P := P) w w.heap.size t e i z size ht hi' hz hsz .i64 .i64 l.length h1 h2 (by unfold maxLen; omega) (Nat.le_refl _)
  have hlt := ho.lt w.heap.size rfl
  refine ⟨W0, hr, rfl, Nat.le_refl _, hlt.2, fun j => ho.frozenAt j, fun j hj => ?_, fun j hj => absurd hj (by omega), fun f hf => by simp at hf, by simp, ⟨hg.os, hg.tape, hg.output, hg.size, fun k hk => hg.block k hk (by simp)⟩⟩
  have := ho.cellAt j hj
  have hlen := ho.1
  rw [this, List.getElem?_eq_getElem (by omega)]
  exact ⟨_, rfl⟩
end Go.Proofs.YtaibgnfjjbncpaaGreat
namespace Go.Proofs.YtaibgnfjjbncpaaGreat
set_option linter.unusedVariables false
set_option maxRecDepth 100000
open Go.ChangeShapes Go.WideShapes Go.ChangeAt Go.RowKit
theorem int_loc {w w' : World} {b o d : Nat} {x : Int} (h : w'.cell? ⟨b, o + d, none⟩ = w.cell? ⟨b, o + d, none⟩) (k : IntEl w b (o + d) x) : IntEl w' b (o + d) x := by unfold IntEl; rw [h]; exact k
theorem one_hc {w w' : World} {b p : Nat} (h : w'.cell? ⟨b, p, none⟩ = w.cell? ⟨b, p, none⟩) : ∀ j, j < 1 → w'.cell? ⟨b, p + j, none⟩ = w.cell? ⟨b, p + j, none⟩ := fun j hj => by
  obtain rfl : j = 0 := by omega
  exact h
theorem str_loc {w w' : World} {b o d : Nat} {x : ByteArray} (h : w'.cell? ⟨b, o + d, none⟩ = w.cell? ⟨b, o + d, none⟩) (k : StrEl w b (o + d) x) : StrEl w' b (o + d) x := by unfold StrEl; rw [h]; exact k
theorem bool_loc {w w' : World} {b o d : Nat} {x : Bool} (h : w'.cell? ⟨b, o + d, none⟩ = w.cell? ⟨b, o + d, none⟩) (k : BoolEl w b (o + d) x) : BoolEl w' b (o + d) x := by unfold BoolEl; rw [h]; exact k
theorem i64_nat (m : Nat) (h : m ≤ 1000000000000) : I64 (m : Int) := ⟨by omega, by omega⟩
theorem int_el {w : World} {b o : Nat} {a c : Int} (h : w.cell? ⟨b, o, none⟩ = some (.int .i64 a)) (e : a = c) (hb : I64 c) : IntEl w b o c := by subst e; exact ⟨h, hb⟩
theorem str_el {w : World} {b o : Nat} {a c : ByteArray} (h : w.cell? ⟨b, o, none⟩ = some (.string a)) (e : a = c) (hb : c.size ≤ maxLen) : StrEl w b o c := by subst e; exact ⟨h, hb⟩
theorem bool_el {w : World} {b o : Nat} {a c : Bool} (h : w.cell? ⟨b, o, none⟩ = some (.bool a)) (e : a = c) : BoolEl w b o c := by subst e; exact h
theorem RowOwn.set {α : Type} {n : Nat} {E : OwnRd α} (hE : Loc n E) (hZ : Sized E) {w : World} {v : Value} {l : List α} {F : List Nat} (h : RowOwn n E w v l F) {g : Nat} (o : Nat) (u : Value) (hg : g ∉ F) : RowOwn n E (w.setCell ⟨g, o, none⟩ u) v l F :=
  h.loc hE (by simp [World.setCell]) fun k hk => by rw [Below.heap_setCell _ _ _ _ (fun e => hg (by rw [show g = k from e.symm]; exact hk))]
def TokOwn : OwnRd Tok_ := Flat TokEl
theorem TokOwn.loc : Loc 4 TokOwn := fun w w' b o x F hs hc hF ⟨h, h0, h1, h2, h3⟩ => ⟨h, int_loc (d := 0) (hc 0 (by omega)) h0, int_loc (d := 1) (hc 1 (by omega)) h1, str_loc (d := 2) (hc 2 (by omega)) h2, int_loc (d := 3) (hc 3 (by omega)) h3⟩
theorem TokOwn.sized : Sized TokOwn := Flat.sized _
theorem TokOwn.reads : OwnReads TokOwn TokEl := Flat.reads _
def TyIOwn : OwnRd TyI := Flat TyIEl
theorem TyIOwn.loc : Loc 3 TyIOwn := fun w w' b o x F hs hc hF ⟨h, h0, h1, h2⟩ => ⟨h, int_loc (d := 0) (hc 0 (by omega)) h0, str_loc (d := 1) (hc 1 (by omega)) h1, int_loc (d := 2) (hc 2 (by omega)) h2⟩
theorem TyIOwn.sized : Sized TyIOwn := Flat.sized _
theorem TyIOwn.reads : OwnReads TyIOwn TyIEl := Flat.reads _
def TyOwn : OwnRd (List TyI) := RowElOwn 3 TyIOwn
theorem TyOwn.loc : Loc 1 TyOwn := RowElOwn.loc TyIOwn.loc
theorem TyOwn.sized : Sized TyOwn := RowElOwn.sized TyIOwn.sized
theorem TyOwn.reads : OwnReads TyOwn TyEl := RowElOwn.reads TyIOwn.reads
def PNOwn : OwnRd PN := fun w b o x F => ∃ F3, F = F3 ∧ IntEl w b o x.kind ∧ IntEl w b (o + 1) x.n ∧ StrEl w b (o + 2) x.s ∧ RowElOwn 1 (Flat IntEl) w b (o + 3) x.kids F3
theorem PNOwn.loc : Loc 4 PNOwn := fun w w' b o x F hs hc hF ⟨F3, e, h0, h1, h2, h3⟩ => by
  subst e
  exact ⟨_, rfl, int_loc (d := 0) (hc 0 (by omega)) h0, int_loc (d := 1) (hc 1 (by omega)) h1, str_loc (d := 2) (hc 2 (by omega)) h2, (RowElOwn.loc IntFlat.loc) w w' b (o + 3) _ _ hs (one_hc (hc 3 (by omega))) (fun k hk => hF k (hk)) h3⟩
theorem PNOwn.sized : Sized PNOwn := fun w b o x F ⟨F3, e, h0, h1, h2, h3⟩ k hk => by
  subst e
  exact (RowElOwn.sized (Flat.sized IntEl)) w b _ _ _ h3 k hk
theorem PNOwn.reads : OwnReads PNOwn PNEl := fun w b o x F ⟨F3, e, h0, h1, h2, h3⟩ => ⟨h0, h1, h2, (RowElOwn.reads (Flat.reads IntEl)) w b _ _ _ h3⟩
def PatOwn : OwnRd (List PN) := RowElOwn 4 PNOwn
theorem PatOwn.loc : Loc 1 PatOwn := RowElOwn.loc PNOwn.loc
theorem PatOwn.sized : Sized PatOwn := RowElOwn.sized PNOwn.sized
theorem PatOwn.reads : OwnReads PatOwn PatEl := RowElOwn.reads PNOwn.reads
def CnOwn : OwnRd Cn := fun w b o x F => ∃ F2, F = F2 ∧ StrEl w b o x.name ∧ BoolEl w b (o + 1) x.has ∧ TyOwn w b (o + 2) x.arg F2
theorem CnOwn.loc : Loc 3 CnOwn := fun w w' b o x F hs hc hF ⟨F2, e, h0, h1, h2⟩ => by
  subst e
  exact ⟨_, rfl, str_loc (d := 0) (hc 0 (by omega)) h0, bool_loc (d := 1) (hc 1 (by omega)) h1, TyOwn.loc w w' b (o + 2) _ _ hs (one_hc (hc 2 (by omega))) (fun k hk => hF k (hk)) h2⟩
theorem CnOwn.sized : Sized CnOwn := fun w b o x F ⟨F2, e, h0, h1, h2⟩ k hk => by
  subst e
  exact TyOwn.sized w b _ _ _ h2 k hk
theorem CnOwn.reads : OwnReads CnOwn CnEl := fun w b o x F ⟨F2, e, h0, h1, h2⟩ => ⟨h0, h1, TyOwn.reads w b _ _ _ h2⟩
def TpOwn : OwnRd Tp := fun w b o x F => ∃ F2, F = F2 ∧ StrEl w b o x.name ∧ IntEl w b (o + 1) x.params ∧ RowElOwn 3 CnOwn w b (o + 2) x.cons F2
theorem TpOwn.loc : Loc 3 TpOwn := fun w w' b o x F hs hc hF ⟨F2, e, h0, h1, h2⟩ => by
  subst e
  exact ⟨_, rfl, str_loc (d := 0) (hc 0 (by omega)) h0, int_loc (d := 1) (hc 1 (by omega)) h1, (RowElOwn.loc CnOwn.loc) w w' b (o + 2) _ _ hs (one_hc (hc 2 (by omega))) (fun k hk => hF k (hk)) h2⟩
theorem TpOwn.sized : Sized TpOwn := fun w b o x F ⟨F2, e, h0, h1, h2⟩ k hk => by
  subst e
  exact (RowElOwn.sized CnOwn.sized) w b _ _ _ h2 k hk
theorem TpOwn.reads : OwnReads TpOwn TpEl := fun w b o x F ⟨F2, e, h0, h1, h2⟩ => ⟨h0, h1, (RowElOwn.reads CnOwn.reads) w b _ _ _ h2⟩
def NdOwn : OwnRd Nd := fun w b o x F => ∃ F4 F5, F = F4 ++ F5 ∧ IntEl w b o x.kind ∧ IntEl w b (o + 1) x.at_ ∧ IntEl w b (o + 2) x.n ∧ StrEl w b (o + 3) x.s ∧ RowElOwn 1 (Flat IntEl) w b (o + 4) x.kids F4 ∧ RowElOwn 1 PatOwn w b (o + 5) x.pats F5
theorem NdOwn.loc : Loc 6 NdOwn := fun w w' b o x F hs hc hF ⟨F4, F5, e, h0, h1, h2, h3, h4, h5⟩ => by
  subst e
  exact ⟨_, _, rfl, int_loc (d := 0) (hc 0 (by omega)) h0, int_loc (d := 1) (hc 1 (by omega)) h1, int_loc (d := 2) (hc 2 (by omega)) h2, str_loc (d := 3) (hc 3 (by omega)) h3, (RowElOwn.loc IntFlat.loc) w w' b (o + 4) _ _ hs (one_hc (hc 4 (by omega))) (fun k hk => hF k (List.mem_append_left _ hk)) h4, (RowElOwn.loc PatOwn.loc) w w' b (o + 5) _ _ hs (one_hc (hc 5 (by omega))) (fun k hk => hF k (List.mem_append_right _ hk)) h5⟩
theorem NdOwn.sized : Sized NdOwn := fun w b o x F ⟨F4, F5, e, h0, h1, h2, h3, h4, h5⟩ k hk => by
  subst e
  exact (List.mem_append.1 hk).elim (fun hk => (RowElOwn.sized (Flat.sized IntEl)) w b _ _ _ h4 k hk) (fun hk => (RowElOwn.sized PatOwn.sized) w b _ _ _ h5 k hk)
theorem NdOwn.reads : OwnReads NdOwn NdEl := fun w b o x F ⟨F4, F5, e, h0, h1, h2, h3, h4, h5⟩ => ⟨h0, h1, h2, h3, (RowElOwn.reads (Flat.reads IntEl)) w b _ _ _ h4, (RowElOwn.reads PatOwn.reads) w b _ _ _ h5⟩
def PgOwn : OwnRd Pg := fun w b o x F => ∃ F0 F1, F = F0 ++ F1 ∧ RowElOwn 3 TpOwn w b o x.types F0 ∧ RowElOwn 6 NdOwn w b (o + 1) x.nodes F1
theorem PgOwn.loc : Loc 2 PgOwn := fun w w' b o x F hs hc hF ⟨F0, F1, e, h0, h1⟩ => by
  subst e
  exact ⟨_, _, rfl, (RowElOwn.loc TpOwn.loc) w w' b (o + 0) _ _ hs (one_hc (hc 0 (by omega))) (fun k hk => hF k (List.mem_append_left _ hk)) h0, (RowElOwn.loc NdOwn.loc) w w' b (o + 1) _ _ hs (one_hc (hc 1 (by omega))) (fun k hk => hF k (List.mem_append_right _ hk)) h1⟩
theorem PgOwn.sized : Sized PgOwn := fun w b o x F ⟨F0, F1, e, h0, h1⟩ k hk => by
  subst e
  exact (List.mem_append.1 hk).elim (fun hk => (RowElOwn.sized TpOwn.sized) w b _ _ _ h0 k hk) (fun hk => (RowElOwn.sized NdOwn.sized) w b _ _ _ h1 k hk)
theorem PgOwn.reads : OwnReads PgOwn PgEl := fun w b o x F ⟨F0, F1, e, h0, h1⟩ => ⟨(RowElOwn.reads TpOwn.reads) w b _ _ _ h0, (RowElOwn.reads NdOwn.reads) w b _ _ _ h1⟩
def SbOwn : OwnRd Sb := fun w b o x F => ∃ F1, F = F1 ∧ IntEl w b o x.var ∧ TyOwn w b (o + 1) x.ty F1
theorem SbOwn.loc : Loc 2 SbOwn := fun w w' b o x F hs hc hF ⟨F1, e, h0, h1⟩ => by
  subst e
  exact ⟨_, rfl, int_loc (d := 0) (hc 0 (by omega)) h0, TyOwn.loc w w' b (o + 1) _ _ hs (one_hc (hc 1 (by omega))) (fun k hk => hF k (hk)) h1⟩
theorem SbOwn.sized : Sized SbOwn := fun w b o x F ⟨F1, e, h0, h1⟩ k hk => by
  subst e
  exact TyOwn.sized w b _ _ _ h1 k hk
theorem SbOwn.reads : OwnReads SbOwn SbEl := fun w b o x F ⟨F1, e, h0, h1⟩ => ⟨h0, TyOwn.reads w b _ _ _ h1⟩
def DNOwn : OwnRd DN := fun w b o x F => ∃ F3, F = F3 ∧ IntEl w b o x.kind ∧ IntEl w b (o + 1) x.n ∧ StrEl w b (o + 2) x.s ∧ RowElOwn 1 (Flat IntEl) w b (o + 3) x.kids F3
theorem DNOwn.loc : Loc 4 DNOwn := fun w w' b o x F hs hc hF ⟨F3, e, h0, h1, h2, h3⟩ => by
  subst e
  exact ⟨_, rfl, int_loc (d := 0) (hc 0 (by omega)) h0, int_loc (d := 1) (hc 1 (by omega)) h1, str_loc (d := 2) (hc 2 (by omega)) h2, (RowElOwn.loc IntFlat.loc) w w' b (o + 3) _ _ hs (one_hc (hc 3 (by omega))) (fun k hk => hF k (hk)) h3⟩
theorem DNOwn.sized : Sized DNOwn := fun w b o x F ⟨F3, e, h0, h1, h2, h3⟩ k hk => by
  subst e
  exact (RowElOwn.sized (Flat.sized IntEl)) w b _ _ _ h3 k hk
theorem DNOwn.reads : OwnReads DNOwn DNEl := fun w b o x F ⟨F3, e, h0, h1, h2, h3⟩ => ⟨h0, h1, h2, (RowElOwn.reads (Flat.reads IntEl)) w b _ _ _ h3⟩
def DataOwn : OwnRd (List DN) := RowElOwn 4 DNOwn
theorem DataOwn.loc : Loc 1 DataOwn := RowElOwn.loc DNOwn.loc
theorem DataOwn.sized : Sized DataOwn := RowElOwn.sized DNOwn.sized
theorem DataOwn.reads : OwnReads DataOwn DataEl := RowElOwn.reads DNOwn.reads
def OcOwn : OwnRd Oc := fun w b o x F => ∃ F2, F = F2 ∧ IntEl w b o x.kind ∧ IntEl w b (o + 1) x.n ∧ RowElOwn 1 (Flat StrEl) w b (o + 2) x.trace F2 ∧ IntEl w b (o + 3) x.steps
theorem OcOwn.loc : Loc 4 OcOwn := fun w w' b o x F hs hc hF ⟨F2, e, h0, h1, h2, h3⟩ => by
  subst e
  exact ⟨_, rfl, int_loc (d := 0) (hc 0 (by omega)) h0, int_loc (d := 1) (hc 1 (by omega)) h1, (RowElOwn.loc StrFlat.loc) w w' b (o + 2) _ _ hs (one_hc (hc 2 (by omega))) (fun k hk => hF k (hk)) h2, int_loc (d := 3) (hc 3 (by omega)) h3⟩
theorem OcOwn.sized : Sized OcOwn := fun w b o x F ⟨F2, e, h0, h1, h2, h3⟩ k hk => by
  subst e
  exact (RowElOwn.sized (Flat.sized StrEl)) w b _ _ _ h2 k hk
theorem OcOwn.reads : OwnReads OcOwn OcEl := fun w b o x F ⟨F2, e, h0, h1, h2, h3⟩ => ⟨h0, h1, (RowElOwn.reads (Flat.reads StrEl)) w b _ _ _ h2, h3⟩
def InsOwn : OwnRd Ins_ := Flat InsEl
theorem InsOwn.loc : Loc 4 InsOwn := fun w w' b o x F hs hc hF ⟨h, h0, h1, h2, h3⟩ => ⟨h, int_loc (d := 0) (hc 0 (by omega)) h0, int_loc (d := 1) (hc 1 (by omega)) h1, int_loc (d := 2) (hc 2 (by omega)) h2, str_loc (d := 3) (hc 3 (by omega)) h3⟩
theorem InsOwn.sized : Sized InsOwn := Flat.sized _
theorem InsOwn.reads : OwnReads InsOwn InsEl := Flat.reads _
def CdOwn : OwnRd Cd := fun w b o x F => ∃ F0 F1, F = F0 ++ F1 ∧ RowElOwn 4 InsOwn w b o x.ins F0 ∧ RowElOwn 1 PatOwn w b (o + 1) x.pats F1
theorem CdOwn.loc : Loc 2 CdOwn := fun w w' b o x F hs hc hF ⟨F0, F1, e, h0, h1⟩ => by
  subst e
  exact ⟨_, _, rfl, (RowElOwn.loc InsOwn.loc) w w' b (o + 0) _ _ hs (one_hc (hc 0 (by omega))) (fun k hk => hF k (List.mem_append_left _ hk)) h0, (RowElOwn.loc PatOwn.loc) w w' b (o + 1) _ _ hs (one_hc (hc 1 (by omega))) (fun k hk => hF k (List.mem_append_right _ hk)) h1⟩
theorem CdOwn.sized : Sized CdOwn := fun w b o x F ⟨F0, F1, e, h0, h1⟩ k hk => by
  subst e
  exact (List.mem_append.1 hk).elim (fun hk => (RowElOwn.sized InsOwn.sized) w b _ _ _ h0 k hk) (fun hk => (RowElOwn.sized PatOwn.sized) w b _ _ _ h1 k hk)
theorem CdOwn.reads : OwnReads CdOwn CdEl := fun w b o x F ⟨F0, F1, e, h0, h1⟩ => ⟨(RowElOwn.reads InsOwn.reads) w b _ _ _ h0, (RowElOwn.reads PatOwn.reads) w b _ _ _ h1⟩
def VlOwn : OwnRd Vl := Flat VlEl
theorem VlOwn.loc : Loc 3 VlOwn := fun w w' b o x F hs hc hF ⟨h, h0, h1, h2⟩ => ⟨h, int_loc (d := 0) (hc 0 (by omega)) h0, int_loc (d := 1) (hc 1 (by omega)) h1, str_loc (d := 2) (hc 2 (by omega)) h2⟩
theorem VlOwn.sized : Sized VlOwn := Flat.sized _
theorem VlOwn.reads : OwnReads VlOwn VlEl := Flat.reads _
def CeOwn : OwnRd Ce := Flat CeEl
theorem CeOwn.loc : Loc 9 CeOwn := fun w w' b o x F hs hc hF ⟨h, h0, h1, h2, h3, h6⟩ => ⟨h, int_loc (d := 0) (hc 0 (by omega)) h0, int_loc (d := 1) (hc 1 (by omega)) h1, str_loc (d := 2) (hc 2 (by omega)) h2, (VlOwn.loc w w' b (o + 3) x.a [] hs (fun j hj => by have := hc (3 + j) (by omega); rwa [← Nat.add_assoc] at this) (by simp) ⟨rfl, h3⟩).2, (VlOwn.loc w w' b (o + 6) x.b [] hs (fun j hj => by have := hc (6 + j) (by omega); rwa [← Nat.add_assoc] at this) (by simp) ⟨rfl, h6⟩).2⟩
theorem CeOwn.sized : Sized CeOwn := Flat.sized _
theorem CeOwn.reads : OwnReads CeOwn CeEl := Flat.reads _
def AkOwn : OwnRd Ak := fun w b o x F => ∃ F1, F = F1 ∧ IntEl w b o x.arm ∧ RowElOwn 1 (Flat IntEl) w b (o + 1) x.path F1 ∧ IntEl w b (o + 2) x.kind ∧ IntEl w b (o + 3) x.n ∧ StrEl w b (o + 4) x.s ∧ BoolEl w b (o + 5) x.has ∧ IntEl w b (o + 6) x.yes ∧ IntEl w b (o + 7) x.no
theorem AkOwn.loc : Loc 8 AkOwn := fun w w' b o x F hs hc hF ⟨F1, e, h0, h1, h2, h3, h4, h5, h6, h7⟩ => by
  subst e
  exact ⟨_, rfl, int_loc (d := 0) (hc 0 (by omega)) h0, (RowElOwn.loc IntFlat.loc) w w' b (o + 1) _ _ hs (one_hc (hc 1 (by omega))) (fun k hk => hF k (hk)) h1, int_loc (d := 2) (hc 2 (by omega)) h2, int_loc (d := 3) (hc 3 (by omega)) h3, str_loc (d := 4) (hc 4 (by omega)) h4, bool_loc (d := 5) (hc 5 (by omega)) h5, int_loc (d := 6) (hc 6 (by omega)) h6, int_loc (d := 7) (hc 7 (by omega)) h7⟩
theorem AkOwn.sized : Sized AkOwn := fun w b o x F ⟨F1, e, h0, h1, h2, h3, h4, h5, h6, h7⟩ k hk => by
  subst e
  exact (RowElOwn.sized (Flat.sized IntEl)) w b _ _ _ h1 k hk
theorem AkOwn.reads : OwnReads AkOwn AkEl := fun w b o x F ⟨F1, e, h0, h1, h2, h3, h4, h5, h6, h7⟩ => ⟨h0, (RowElOwn.reads (Flat.reads IntEl)) w b _ _ _ h1, h2, h3, h4, h5, h6, h7⟩
def AsksOwn : OwnRd (List Ak) := RowElOwn 8 AkOwn
theorem AsksOwn.loc : Loc 1 AsksOwn := RowElOwn.loc AkOwn.loc
theorem AsksOwn.sized : Sized AsksOwn := RowElOwn.sized AkOwn.sized
theorem AsksOwn.reads : OwnReads AsksOwn AsksEl := RowElOwn.reads AkOwn.reads
def PoOwn : OwnRd Po := fun w b o x F => ∃ F0 F1, F = F0 ++ F1 ∧ RowElOwn 9 CeOwn w b o x.cells F0 ∧ RowElOwn 1 (Flat IntEl) w b (o + 1) x.free F1
theorem PoOwn.loc : Loc 2 PoOwn := fun w w' b o x F hs hc hF ⟨F0, F1, e, h0, h1⟩ => by
  subst e
  exact ⟨_, _, rfl, (RowElOwn.loc CeOwn.loc) w w' b (o + 0) _ _ hs (one_hc (hc 0 (by omega))) (fun k hk => hF k (List.mem_append_left _ hk)) h0, (RowElOwn.loc IntFlat.loc) w w' b (o + 1) _ _ hs (one_hc (hc 1 (by omega))) (fun k hk => hF k (List.mem_append_right _ hk)) h1⟩
theorem PoOwn.sized : Sized PoOwn := fun w b o x F ⟨F0, F1, e, h0, h1⟩ k hk => by
  subst e
  exact (List.mem_append.1 hk).elim (fun hk => (RowElOwn.sized CeOwn.sized) w b _ _ _ h0 k hk) (fun hk => (RowElOwn.sized (Flat.sized IntEl)) w b _ _ _ h1 k hk)
theorem PoOwn.reads : OwnReads PoOwn PoEl := fun w b o x F ⟨F0, F1, e, h0, h1⟩ => ⟨(RowElOwn.reads CeOwn.reads) w b _ _ _ h0, (RowElOwn.reads (Flat.reads IntEl)) w b _ _ _ h1⟩
def CsOwn : OwnRd Cs := fun w b o x F => ∃ F1 F2 F3, F = F1 ++ (F2 ++ F3) ∧ StrEl w b o x.name ∧ RowElOwn 1 (Flat StrEl) w b (o + 1) x.lines F1 ∧ RowElOwn 1 (Flat IntEl) w b (o + 2) x.inputs F2 ∧ RowElOwn 1 (Flat StrEl) w b (o + 3) x.want F3
theorem CsOwn.loc : Loc 4 CsOwn := fun w w' b o x F hs hc hF ⟨F1, F2, F3, e, h0, h1, h2, h3⟩ => by
  subst e
  exact ⟨_, _, _, rfl, str_loc (d := 0) (hc 0 (by omega)) h0, (RowElOwn.loc StrFlat.loc) w w' b (o + 1) _ _ hs (one_hc (hc 1 (by omega))) (fun k hk => hF k (List.mem_append_left _ hk)) h1, (RowElOwn.loc IntFlat.loc) w w' b (o + 2) _ _ hs (one_hc (hc 2 (by omega))) (fun k hk => hF k (List.mem_append_right _ (List.mem_append_left _ hk))) h2, (RowElOwn.loc StrFlat.loc) w w' b (o + 3) _ _ hs (one_hc (hc 3 (by omega))) (fun k hk => hF k (List.mem_append_right _ (List.mem_append_right _ hk))) h3⟩
theorem CsOwn.sized : Sized CsOwn := fun w b o x F ⟨F1, F2, F3, e, h0, h1, h2, h3⟩ k hk => by
  subst e
  exact (List.mem_append.1 hk).elim (fun hk => (RowElOwn.sized (Flat.sized StrEl)) w b _ _ _ h1 k hk) (fun hk => (List.mem_append.1 hk).elim (fun hk => (RowElOwn.sized (Flat.sized IntEl)) w b _ _ _ h2 k hk) (fun hk => (RowElOwn.sized (Flat.sized StrEl)) w b _ _ _ h3 k hk))
theorem CsOwn.reads : OwnReads CsOwn CsEl := fun w b o x F ⟨F1, F2, F3, e, h0, h1, h2, h3⟩ => ⟨h0, (RowElOwn.reads (Flat.reads StrEl)) w b _ _ _ h1, (RowElOwn.reads (Flat.reads IntEl)) w b _ _ _ h2, (RowElOwn.reads (Flat.reads StrEl)) w b _ _ _ h3⟩
def TaOwn : OwnRd Ta := fun w b o x F => ∃ F0 F1, F = F0 ++ F1 ∧ RowElOwn 1 (Flat StrEl) w b o x.types F0 ∧ RowElOwn 1 (Flat StrEl) w b (o + 1) x.defs F1
theorem TaOwn.loc : Loc 2 TaOwn := fun w w' b o x F hs hc hF ⟨F0, F1, e, h0, h1⟩ => by
  subst e
  exact ⟨_, _, rfl, (RowElOwn.loc StrFlat.loc) w w' b (o + 0) _ _ hs (one_hc (hc 0 (by omega))) (fun k hk => hF k (List.mem_append_left _ hk)) h0, (RowElOwn.loc StrFlat.loc) w w' b (o + 1) _ _ hs (one_hc (hc 1 (by omega))) (fun k hk => hF k (List.mem_append_right _ hk)) h1⟩
theorem TaOwn.sized : Sized TaOwn := fun w b o x F ⟨F0, F1, e, h0, h1⟩ k hk => by
  subst e
  exact (List.mem_append.1 hk).elim (fun hk => (RowElOwn.sized (Flat.sized StrEl)) w b _ _ _ h0 k hk) (fun hk => (RowElOwn.sized (Flat.sized StrEl)) w b _ _ _ h1 k hk)
theorem TaOwn.reads : OwnReads TaOwn TaEl := fun w b o x F ⟨F0, F1, e, h0, h1⟩ => ⟨(RowElOwn.reads (Flat.reads StrEl)) w b _ _ _ h0, (RowElOwn.reads (Flat.reads StrEl)) w b _ _ _ h1⟩
end Go.Proofs.YtaibgnfjjbncpaaGreat
