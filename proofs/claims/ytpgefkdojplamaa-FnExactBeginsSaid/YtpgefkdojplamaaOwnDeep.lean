/- Deep data that a call made: each slice lies in a block of its own; what marks it, block by block. -/
import Derived.Test.YtpgefkdojplamaaDeep
import Derived.Laws.OwnMore
namespace Go.Proofs.Ytpgefkdojplamaa
set_option linter.unusedVariables false
open Go.ChangeShapes Go.WideShapes Go.ChangeAt Go.RowKit

/-- An element's reader that tells the blocks below it. -/
abbrev OwnRd (α : Type) := World → Nat → Nat → α → List Nat → Prop
def RowOwn {α : Type} (n : Nat) (E : OwnRd α) (w : World) (v : Value) (l : List α) (F : List Nat) : Prop :=
  (l = [] ∧ F = [] ∧ ∃ a cap, v = .slice a 0 cap) ∨
  ∃ (g cap : Nat) (Fs : List (List Nat)), v = .slice (some ⟨g, 0, none⟩) l.length cap ∧ (l.length ≤ maxLen ∧ l.length ≤ cap) ∧ g < w.heap.size ∧ (∀ i, w.frozen? ⟨g, i, none⟩ = false) ∧ 0 < l.length ∧ Fs.length = l.length ∧ F = g :: Fs.flatten ∧
    ∀ i (h : i < l.length) (h' : i < Fs.length), E w g (i * n) l[i] Fs[i]
/-- An element is read off its own cells and the blocks below it. -/
def Loc {α : Type} (n : Nat) (E : OwnRd α) : Prop := ∀ w w' b o x F, w.heap.size ≤ w'.heap.size → (∀ j, j < n → w'.cell? ⟨b, o + j, none⟩ = w.cell? ⟨b, o + j, none⟩) → (∀ g ∈ F, w'.heap[g]? = w.heap[g]?) → E w b o x F → E w' b o x F
def Sized {α : Type} (E : OwnRd α) : Prop := ∀ w b o x F, E w b o x F → ∀ g ∈ F, g < w.heap.size
theorem RowOwn.loc {α : Type} {n : Nat} {E : OwnRd α} (hE : Loc n E) {w w' : World} {v : Value} {l : List α} {F : List Nat} (hs : w.heap.size ≤ w'.heap.size) (hF : ∀ g ∈ F, w'.heap[g]? = w.heap[g]?) (h : RowOwn n E w v l F) : RowOwn n E w' v l F := by
  rcases h with h | ⟨g, cap, Fs, h1, h2, h3, h4, h5, h6, rfl, h8⟩
  · exact .inl h
  · have hg : w'.heap[g]? = w.heap[g]? := hF g (by simp)
    refine .inr ⟨g, cap, Fs, h1, h2, Nat.lt_of_lt_of_le h3 hs, fun i => by rw [World.frozen?_of_block (a := ⟨g, i, none⟩) hg]; exact h4 i, h5, h6, rfl, fun i hi hi' => ?_⟩
    refine hE w w' g _ _ _ hs (fun j _ => World.cell?_of_block (a := ⟨g, i * n + j, none⟩) hg) (fun k hk => hF k ?_) (h8 i hi hi')
    exact List.mem_cons_of_mem _ (List.mem_flatten.2 ⟨_, List.getElem_mem hi', hk⟩)
theorem RowOwn.sized {α : Type} {n : Nat} {E : OwnRd α} (hE : Sized E) {w : World} {v : Value} {l : List α} {F : List Nat} (h : RowOwn n E w v l F) : ∀ g ∈ F, g < w.heap.size := by
  rcases h with ⟨_, rfl, _⟩ | ⟨g, cap, Fs, h1, h2, h3, h4, h5, h6, rfl, h8⟩
  · intro g hg; simp at hg
  · intro k hk
    rcases List.mem_cons.1 hk with rfl | hk
    · exact h3
    · obtain ⟨F, hF, hk⟩ := List.mem_flatten.1 hk
      obtain ⟨i, hi, rfl⟩ := List.getElem_of_mem hF
      exact hE w g _ _ _ (h8 i (by omega) hi) k hk
def RowElOwn {α : Type} (n : Nat) (E : OwnRd α) : OwnRd (List α) := fun w b o x F => ∃ v, w.cell? ⟨b, o, none⟩ = some v ∧ RowOwn n E w v x F
theorem RowElOwn.loc {α : Type} {n : Nat} {E : OwnRd α} (hE : Loc n E) : Loc 1 (RowElOwn n E) := fun w w' b o x F hs hc hF ⟨v, h, h'⟩ => ⟨v, by have := hc 0 (by omega); rw [Nat.add_zero] at this; rw [this]; exact h, h'.loc hE hs hF⟩
theorem RowElOwn.sized {α : Type} {n : Nat} {E : OwnRd α} (hE : Sized E) : Sized (RowElOwn n E) := fun w b o x F ⟨v, _, h⟩ => h.sized hE
/-- What is owned reads so. -/
def OwnReads {α : Type} (E : OwnRd α) (R : ElRd α) : Prop := ∀ w b o x F, E w b o x F → R w b o x
theorem RowOwn.reads {α : Type} {n : Nat} {E : OwnRd α} {R : ElRd α} (hE : OwnReads E R) {w : World} {v : Value} {l : List α} {F : List Nat} (h : RowOwn n E w v l F) : RowRd n R w v l := by
  rcases h with ⟨h, _, h'⟩ | ⟨g, cap, Fs, h1, h2, h3, h4, h5, h6, rfl, h8⟩
  · exact .inl ⟨h, h'⟩
  · exact .inr ⟨g, 0, cap, h1, h2, h3, h5, fun i hi => by rw [Nat.zero_add]; exact hE _ _ _ _ _ (h8 i hi (by omega))⟩
theorem RowElOwn.reads {α : Type} {n : Nat} {E : OwnRd α} {R : ElRd α} (hE : OwnReads E R) : OwnReads (RowElOwn n E) (RowEl n R) := fun w b o x F ⟨v, h, h'⟩ => ⟨v, h, h'.reads hE⟩
/-- Elements with nothing below them. -/
def Flat {α : Type} (R : ElRd α) : OwnRd α := fun w b o x F => F = [] ∧ R w b o x
theorem Flat.sized {α : Type} (R : ElRd α) : Sized (Flat R) := fun w b o x F ⟨h, _⟩ g hg => by subst h; simp at hg
theorem Flat.reads {α : Type} (R : ElRd α) : OwnReads (Flat R) R := fun w b o x F h => h.2
theorem IntFlat.loc : Loc 1 (Flat IntEl) := fun w w' b o x F hs hc hF ⟨h, h'⟩ => ⟨h, by have := hc 0 (by omega); rw [Nat.add_zero] at this; unfold IntEl; rw [this]; exact h'⟩
theorem StrFlat.loc : Loc 1 (Flat StrEl) := fun w w' b o x F hs hc hF ⟨h, h'⟩ => ⟨h, by have := hc 0 (by omega); rw [Nat.add_zero] at this; unfold StrEl; rw [this]; exact h'⟩

/-- Of what was there, only the blocks of F have turned. -/
structure ButF (F : List Nat) (w w' : World) : Prop where
  os : w'.os = w.os
  tape : w'.tape = w.tape
  output : w'.output = w.output
  size : w.heap.size ≤ w'.heap.size
  block : ∀ k, k < w.heap.size → k ∉ F → w'.heap[k]? = w.heap[k]?
theorem ButF.refl (F : List Nat) (w : World) : ButF F w w := ⟨rfl, rfl, rfl, Nat.le_refl _, fun _ _ _ => rfl⟩
theorem ButF.trans {F : List Nat} {a b c : World} (h : ButF F a b) (k : ButF F b c) : ButF F a c :=
  ⟨k.os.trans h.os, k.tape.trans h.tape, k.output.trans h.output, Nat.le_trans h.size k.size, fun i hi hn => (k.block i (Nat.lt_of_lt_of_le hi h.size) hn).trans (h.block i hi hn)⟩
theorem ButF.mono {F F' : List Nat} {a b : World} (h : ButF F a b) (hF : ∀ g ∈ F, g ∈ F') : ButF F' a b := ⟨h.os, h.tape, h.output, h.size, fun k hk hn => h.block k hk fun hg => hn (hF k hg)⟩
theorem ButF.of_below {F : List Nat} {w w' : World} (h : Below w.heap.size w w') : ButF F w w' := ⟨h.os, h.tape, h.output, h.size, fun k hk _ => h.block k hk⟩
theorem ButF.bel {F : List Nat} {B : Nat} {w w' : World} (h : ButF F w w') (hF : ∀ g ∈ F, B ≤ g) (hB : B ≤ w.heap.size) : Below B w w' :=
  ⟨h.os, h.tape, h.output, h.size, fun k hk => h.block k (by omega) fun hg => by have := hF k hg; omega⟩
theorem RowOwn.but {α : Type} {n : Nat} {E : OwnRd α} (hE : Loc n E) (hZ : Sized E) {w w' : World} {v : Value} {l : List α} {F F' : List Nat} (h : RowOwn n E w v l F) (hb : ButF F' w w') (hd : ∀ g ∈ F, g ∉ F') : RowOwn n E w' v l F :=
  h.loc hE hb.size fun g hg => hb.block g (h.sized hZ g hg) (hd g hg)
theorem RowOwn.kept {α : Type} {n : Nat} {E : OwnRd α} (hE : Loc n E) (hZ : Sized E) {w w' : World} {v : Value} {l : List α} {F : List Nat} (h : RowOwn n E w v l F) (hb : Below w.heap.size w w') : RowOwn n E w' v l F :=
  h.loc hE hb.size fun g hg => hb.block g (h.sized hZ g hg)
/-- What reads stays, where what has turned lies elsewhere. -/
theorem kept_but {F : List Nat} {w w' : World} (h : ButF F w w') (hF : ∀ g ∈ F, w.heap.size ≤ g) : Kept w w' := Kept.of_below (h.bel hF (Nat.le_refl _))

/-! ### A round of a marking loop -/
/-- Of what was there, only the n cells from place o on of block g, and the blocks of F, have turned. -/
structure Out (g o n : Nat) (F : List Nat) (w w' : World) : Prop where
  os : w'.os = w.os
  tape : w'.tape = w.tape
  output : w'.output = w.output
  size : w.heap.size ≤ w'.heap.size
  block : ∀ k, k < w.heap.size → k ≠ g → k ∉ F → w'.heap[k]? = w.heap[k]?
  cell : ∀ i, (i < o ∨ o + n ≤ i) → w'.cell? ⟨g, i, none⟩ = w.cell? ⟨g, i, none⟩
  fr : ∀ i, w'.frozen? ⟨g, i, none⟩ = w.frozen? ⟨g, i, none⟩
theorem Out.refl (g o n : Nat) (F : List Nat) (w : World) : Out g o n F w w := ⟨rfl, rfl, rfl, Nat.le_refl _, fun _ _ _ _ => rfl, fun _ _ => rfl, fun _ => rfl⟩
theorem cell_off {w : World} {b i j : Nat} {v : Value} (h : i ≠ j) : (w.setCell ⟨b, i, none⟩ v).cell? ⟨b, j, none⟩ = w.cell? ⟨b, j, none⟩ :=
  World.cell?_setCell_other _ _ _ _ (fun e => h (by injection e))
theorem Out.set {g o n : Nat} {F : List Nat} {w w' : World} (h : Out g o n F w w') (i : Nat) (v : Value) (hi : o ≤ i ∧ i < o + n) : Out g o n F w (w'.setCell ⟨g, i, none⟩ v) := by
  refine ⟨h.os, h.tape, h.output, by simpa [World.setCell] using h.size, fun k hk hn hf => ?_, fun j hj => ?_, fun j => ?_⟩
  · rw [Below.heap_setCell _ _ _ _ (fun e => hn (by rw [e]))]; exact h.block k hk hn hf
  · rw [cell_off (by omega)]; exact h.cell j hj
  · rw [World.frozen?_setCell]; exact h.fr j
theorem Out.below {g o n : Nat} {F : List Nat} {w w' w2 : World} (h : Out g o n F w w') (hg : g < w.heap.size) (hb : Below w'.heap.size w' w2) : Out g o n F w w2 := by
  have hg' : g < w'.heap.size := Nat.lt_of_lt_of_le hg h.size
  exact ⟨hb.os.trans h.os, hb.tape.trans h.tape, hb.output.trans h.output, Nat.le_trans h.size hb.size, fun k hk hn hf => (hb.block k (Nat.lt_of_lt_of_le hk h.size)).trans (h.block k hk hn hf),
    fun i hi => (hb.cell (p := ⟨g, i, none⟩) hg').trans (h.cell i hi), fun i => (hb.frozen (p := ⟨g, i, none⟩) hg').trans (h.fr i)⟩
theorem Out.but {g o n : Nat} {F F' : List Nat} {w w' w2 : World} (h : Out g o n F w w') (hg : g < w.heap.size) (hb : ButF F' w' w2) (hF : ∀ k ∈ F', k ∈ F) (hgF : g ∉ F') : Out g o n F w w2 := by
  have hg' : g < w'.heap.size := Nat.lt_of_lt_of_le hg h.size
  have hgb := hb.block g hg' hgF
  exact ⟨hb.os.trans h.os, hb.tape.trans h.tape, hb.output.trans h.output, Nat.le_trans h.size hb.size, fun k hk hn hf => (hb.block k (Nat.lt_of_lt_of_le hk h.size) fun e => hf (hF k e)).trans (h.block k hk hn hf),
    fun i hi => (World.cell?_of_block (a := ⟨g, i, none⟩) hgb).trans (h.cell i hi), fun i => (World.frozen?_of_block (a := ⟨g, i, none⟩) hgb).trans (h.fr i)⟩
/-- Where a marking loop stands: the first j elements are as l' has them. -/
structure MInv {α : Type} (n : Nat) (E : OwnRd α) (w : World) (g : Nat) (Fs : List (List Nat)) (l l' : List α) (j : Nat) (wr : World) : Prop where
  lt : g < wr.heap.size
  fr : ∀ i, wr.frozen? ⟨g, i, none⟩ = false
  done : ∀ i (h : i < j) (h1 : i < l'.length) (h2 : i < Fs.length), E wr g (i * n) l'[i] Fs[i]
  todo : ∀ i (h : j ≤ i) (h1 : i < l.length) (h2 : i < Fs.length), E wr g (i * n) l[i] Fs[i]
  but : ButF (g :: Fs.flatten) w wr
theorem nodup_parts {g : Nat} {Fs : List (List Nat)} (h : (g :: Fs.flatten).Nodup) : (∀ i (hi : i < Fs.length), g ∉ Fs[i]) ∧ (∀ i j (hi : i < Fs.length) (hj : j < Fs.length), i ≠ j → ∀ k ∈ Fs[i], k ∉ Fs[j]) ∧ ∀ i (hi : i < Fs.length), Fs[i].Nodup := by
  obtain ⟨h1, h2⟩ := List.nodup_cons.1 h
  rw [List.Nodup, List.pairwise_flatten] at h2
  refine ⟨fun i hi hg => h1 (List.mem_flatten.2 ⟨_, List.getElem_mem hi, hg⟩), fun i j hi hj hne k hk hk' => ?_, fun i hi => h2.1 _ (List.getElem_mem hi)⟩
  have h3 := List.pairwise_iff_getElem.1 h2.2
  by_cases hlt : i < j
  · exact h3 i j hi hj hlt k hk k hk' rfl
  · exact h3 j i hj hi (by omega) k hk' k hk rfl
theorem MInv.step {α : Type} {n : Nat} {E : OwnRd α} (hE : Loc n E) (hZ : Sized E) {w : World} {g : Nat} {Fs : List (List Nat)} {l l' : List α} {j : Nat} {wr wc : World} (h : MInv n E w g Fs l l' j wr) (hN : (g :: Fs.flatten).Nodup)
    (hl : l'.length = l.length) (hf : Fs.length = l.length) (hj : j < l.length) {F : List Nat} (hF : F = Fs[j]'(by omega)) (hO : Out g (j * n) n F wr wc) (hD : E wc g (j * n) (l'[j]'(by omega)) F) : MInv n E w g Fs l l' (j + 1) wc := by
  subst hF
  obtain ⟨n1, n2, n3⟩ := nodup_parts hN
  have hb : ∀ i (hi : i < Fs.length), i ≠ j → ∀ k ∈ Fs[i], k < wr.heap.size → wc.heap[k]? = wr.heap[k]? := fun i hi hne k hk hlt => hO.block k hlt (fun e => n1 i hi (e ▸ hk)) (n2 i j hi (by omega) hne k hk)
  have hc : ∀ i, i ≠ j → ∀ d, d < n → wc.cell? ⟨g, i * n + d, none⟩ = wr.cell? ⟨g, i * n + d, none⟩ := fun i hne d hd => hO.cell _ (by
    rcases Nat.lt_or_gt_of_ne hne with h | h
    · left; have := Nat.mul_le_mul_right n (show i + 1 ≤ j by omega); rw [Nat.succ_mul] at this; omega
    · right; have := Nat.mul_le_mul_right n (show j + 1 ≤ i by omega); rw [Nat.succ_mul] at this; omega)
  refine ⟨Nat.lt_of_lt_of_le h.lt hO.size, fun i => (hO.fr i).trans (h.fr i), fun i hi h1 h2 => ?_, fun i hi h1 h2 => ?_, ?_⟩
  · by_cases he : i = j
    · subst he; exact hD
    · have hx := h.done i (by omega) h1 h2
      exact hE wr wc g _ _ _ hO.size (hc i he) (fun k hk => hb i h2 he k hk (hZ _ _ _ _ _ hx k hk)) hx
  · have hx := h.todo i (by omega) h1 h2
    exact hE wr wc g _ _ _ hO.size (hc i (by omega)) (fun k hk => hb i h2 (by omega) k hk (hZ _ _ _ _ _ hx k hk)) hx
  · refine h.but.trans ⟨hO.os, hO.tape, hO.output, hO.size, fun k hk hn => hO.block k hk (fun e => hn (by simp [e])) fun e => hn (List.mem_cons_of_mem _ (List.mem_flatten.2 ⟨_, List.getElem_mem _, e⟩))⟩

/-! ### What marking leaves -/
def cntL {α : Type} (c : α → Nat) : List α → Nat
  | [] => 0
  | x :: l => c x + cntL c l
def mkL {α : Type} (f : α → Nat → α) (c : α → Nat) : List α → Nat → List α
  | [], _ => []
  | x :: l, k => f x k :: mkL f c l (k + c x)
theorem mkL_len {α : Type} (f : α → Nat → α) (c : α → Nat) (l : List α) (k : Nat) : (mkL f c l k).length = l.length := by
  induction l generalizing k with
  | nil => rfl
  | cons x l ih => simp [mkL, ih]
theorem mkL_get {α : Type} (f : α → Nat → α) (c : α → Nat) (l : List α) (k i : Nat) (h : i < l.length) : (mkL f c l k)[i]'(by rw [mkL_len]; exact h) = f l[i] (k + cntL c (l.take i)) := by
  induction l generalizing k i with
  | nil => simp at h
  | cons x l ih =>
    cases i with
    | zero => simp [mkL, cntL]
    | succ i => simp only [mkL, List.getElem_cons_succ, List.take_succ_cons, cntL]; rw [ih (k + c x) i (by simpa using h)]; rw [Nat.add_assoc]
theorem cntL_take {α : Type} (c : α → Nat) (l : List α) (i : Nat) (h : i < l.length) : cntL c (l.take (i + 1)) = cntL c (l.take i) + c l[i] := by
  induction l generalizing i with
  | nil => simp at h
  | cons x l ih =>
    cases i with
    | zero => simp [cntL]
    | succ i => simp only [List.take_succ_cons, cntL, List.getElem_cons_succ]; rw [ih i (by simpa using h)]; omega
theorem cntL_le {α : Type} (c : α → Nat) (l : List α) (i : Nat) : cntL c (l.take i) ≤ cntL c l := by
  induction l generalizing i with
  | nil => simp [cntL]
  | cons x l ih =>
    cases i with
    | zero => simp [cntL]
    | succ i => simp only [List.take_succ_cons, cntL]; have := ih i; omega
theorem cntL_all {α : Type} (c : α → Nat) (l : List α) : cntL c (l.take l.length) = cntL c l := by rw [List.take_length]
/-- What is owned, opened for a marking loop. -/
theorem RowOwn.form {α : Type} {n : Nat} {E : OwnRd α} {w : World} {v : Value} {l : List α} {F : List Nat} (h : RowOwn n E w v l F) :
    (l = [] ∧ F = [] ∧ ∃ a cap, v = .slice a 0 cap) ∨ ∃ (g cap : Nat) (Fs : List (List Nat)), v = .slice (some ⟨g, 0, none⟩) l.length cap ∧ (l.length ≤ maxLen ∧ l.length ≤ cap) ∧ 0 < l.length ∧ Fs.length = l.length ∧ F = g :: Fs.flatten ∧ ∀ l', MInv n E w g Fs l l' 0 w := by
  rcases h with h | ⟨g, cap, Fs, h1, h2, h3, h4, h5, h6, h7, h8⟩
  · exact .inl h
  · exact .inr ⟨g, cap, Fs, h1, h2, h5, h6, h7, fun l' => ⟨h3, h4, fun i hi => absurd hi (by omega), fun i _ h1 h2 => h8 i h1 h2, ButF.refl _ _⟩⟩
theorem MInv.fin {α : Type} {n : Nat} {E : OwnRd α} {w wr : World} {g cap m : Nat} {Fs : List (List Nat)} {l l' : List α} (h : MInv n E w g Fs l l' m wr) (hm : m = l.length) (hl : l'.length = l.length) (hf : Fs.length = l.length) (h0 : 0 < l.length) (h1 : l.length ≤ maxLen ∧ l.length ≤ cap) :
    RowOwn n E wr (.slice (some ⟨g, 0, none⟩) l.length cap) l' (g :: Fs.flatten) :=
  .inr ⟨g, cap, Fs, by rw [hl], ⟨by omega, by omega⟩, h.lt, h.fr, by omega, by omega, rfl, fun i hi hi' => h.done i (by omega) hi hi'⟩
/-! ### A loop that fills a slice of its own, element by element -/
structure TInv {α : Type} (n : Nat) (E : OwnRd α) (w : World) (g : Nat) (l : List α) (Fs : List (List Nat)) (j : Nat) (wr : World) : Prop where
  len : Fs.length = j
  ge : w.heap.size ≤ g
  lt : g < wr.heap.size
  fr : ∀ i, wr.frozen? ⟨g, i, none⟩ = false
  all : ∀ i, i < l.length * n → ∃ u, wr.cell? ⟨g, i, none⟩ = some u
  done : ∀ i (h : i < j) (h1 : i < l.length) (h2 : i < Fs.length), E wr g (i * n) l[i] Fs[i]
  far : ∀ f ∈ Fs.flatten, g < f
  nd : Fs.flatten.Nodup
  bel : Below w.heap.size w wr
theorem TInv.step {α : Type} {n : Nat} {E : OwnRd α} (hE : Loc n E) (hZ : Sized E) {w : World} {g : Nat} {Fs : List (List Nat)} {l : List α} {j : Nat} {wr wc : World} (h : TInv n E w g l Fs j wr) (hj : j < l.length) {F : List Nat}
    (hF : ∀ f ∈ F, wr.heap.size ≤ f) (hN : F.Nodup) (hO : Out g (j * n) n [] wr wc) (hA : ∀ d, d < n → ∃ u, wc.cell? ⟨g, j * n + d, none⟩ = some u) (hD : E wc g (j * n) l[j] F) : TInv n E w g l (Fs ++ [F]) (j + 1) wc := by
  have hlt := h.lt
  have hln := h.len
  have hc : ∀ i, i ≠ j → ∀ d, d < n → wc.cell? ⟨g, i * n + d, none⟩ = wr.cell? ⟨g, i * n + d, none⟩ := fun i hne d hd => hO.cell _ (by
    rcases Nat.lt_or_gt_of_ne hne with h | h
    · left; have := Nat.mul_le_mul_right n (show i + 1 ≤ j by omega); rw [Nat.succ_mul] at this; omega
    · right; have := Nat.mul_le_mul_right n (show j + 1 ≤ i by omega); rw [Nat.succ_mul] at this; omega)
  have hold : ∀ f ∈ Fs.flatten, f < wr.heap.size := by
    intro f hf
    obtain ⟨F', hF', hf'⟩ := List.mem_flatten.1 hf
    obtain ⟨i, hi, rfl⟩ := List.getElem_of_mem hF'
    exact hZ wr g _ _ _ (h.done i (by omega) (by omega) hi) f hf'
  refine ⟨by simp [hln], h.ge, Nat.lt_of_lt_of_le hlt hO.size, fun i => (hO.fr i).trans (h.fr i), fun i hi => ?_, fun i hi h1 h2 => ?_, fun f hf => ?_, ?_, ?_⟩
  · by_cases hin : j * n ≤ i ∧ i < j * n + n
    · obtain ⟨u, hu⟩ := hA (i - j * n) (by omega)
      exact ⟨u, by rw [show j * n + (i - j * n) = i from by omega] at hu; exact hu⟩
    · rw [hO.cell i (by omega)]; exact h.all i hi
  · by_cases he : i = j
    · subst he
      have : (Fs ++ [F])[i] = F := by rw [List.getElem_append_right (by omega)]; simp [hln]
      rw [this]; exact hD
    · have hx := h.done i (by omega) h1 (by omega)
      have : (Fs ++ [F])[i] = Fs[i]'(by omega) := List.getElem_append_left (by omega)
      rw [this]
      refine hE wr wc g _ _ _ hO.size (hc i he) (fun k hk => ?_) hx
      have hk' : k ∈ Fs.flatten := List.mem_flatten.2 ⟨_, List.getElem_mem _, hk⟩
      exact hO.block k (hold k hk') (by have := h.far k hk'; omega) (by simp)
  · rw [List.flatten_append] at hf
    rcases List.mem_append.1 hf with hf | hf
    · exact h.far f hf
    · have := hF f (by simpa using hf); omega
  · rw [List.flatten_append]
    refine List.nodup_append.2 ⟨h.nd, by simpa using hN, fun a ha b hb => ?_⟩
    have h1 := hold a ha
    have h2 := hF b (by simpa using hb)
    omega
  · have hg := h.ge
    have hsz := h.bel.size
    refine h.bel.trans ⟨hO.os, hO.tape, hO.output, hO.size, fun k hk => hO.block k (by omega) (by omega) (by simp)⟩
/-- A new slice that a call hands back. -/
def RowPost {α : Type} (n : Nat) (E : OwnRd α) (l : List α) (w : World) (e : Ending) (w' : World) : Prop :=
  ∃ u F, e = .returned u ∧ RowOwn n E w' u l F ∧ (∀ g ∈ F, w.heap.size ≤ g) ∧ F.Nodup ∧ Below w.heap.size w w'
theorem TInv.fin {α : Type} {n : Nat} {E : OwnRd α} {w wr : World} {g m : Nat} {Fs : List (List Nat)} {l : List α} (h : TInv n E w g l Fs m wr) (hm : m = l.length) (h1 : l.length ≤ maxLen) {e : Ending} (he : e = .returned (.slice (some ⟨g, 0, none⟩) l.length l.length)) :
    RowPost n E l w e wr := by
  by_cases h0 : 0 < l.length
  · refine ⟨_, g :: Fs.flatten, he, .inr ⟨g, l.length, Fs, rfl, ⟨h1, Nat.le_refl _⟩, h.lt, h.fr, h0, by rw [h.len, hm], rfl, fun i hi hi' => h.done i (by omega) hi hi'⟩, fun f hf => ?_, List.nodup_cons.2 ⟨fun hg => ?_, h.nd⟩, h.bel⟩
    · rcases List.mem_cons.1 hf with rfl | hf
      · exact h.ge
      · have := h.far f hf; have := h.ge; omega
    · have := h.far g hg; omega
  · obtain rfl : l = [] := List.eq_nil_of_length_eq_zero (by omega)
    exact ⟨_, [], he, .inl ⟨rfl, rfl, _, _, rfl⟩, fun f hf => by simp at hf, List.nodup_nil, h.bel⟩
theorem make_t {α : Type} {P : Program} {E : OwnRd α} (w : World) (t e : TypeId) (z : Value) (size bytes : Nat) (l : List α) (ht : P.underlying t = some (.slice e)) (hi : (P.info? e).map (fun i => (i.zero, i.size, i.bytes)) = some (some z, size, bytes))
    (hn : l.length ≤ 1048576) (hs : size ≤ 16) (hb : bytes ≤ 4096) :
    ∃ W0, (Instr.makeSlice t (.int .i64 (l.length : Int)) (.int .i64 (l.length : Int))).run P w = .ok (.slice (some ⟨w.heap.size, 0, none⟩) l.length l.length) W0 ∧ TInv size E w w.heap.size l [] 0 W0 := by
  obtain ⟨i, hi', hz, hsz, hby⟩ : ∃ i, P.info? e = some i ∧ i.zero = some z ∧ i.size = size ∧ i.bytes = bytes := by
    cases h : P.info? e with
    | none => rw [h] at hi; simp at hi
    | some i => rw [h] at hi; simp at hi; exact ⟨i, rfl, hi.1, hi.2.1, hi.2.2⟩
  have h1 : l.length * size ≤ 16777216 := Nat.le_trans (Nat.mul_le_mul hn hs) (by decide)
  have h2 : i.bytes * l.length ≤ 281474976710656 := by rw [hby]; exact Nat.le_trans (Nat.mul_le_mul hb hn) (by decide)
  obtain ⟨W0, hr, ho, hg⟩ := run_makeSlice_full (P := P) w w.heap.size t e i z size ht hi' hz hsz .i64 .i64 l.length h1 h2 (by unfold maxLen; omega) (Nat.le_refl _)
  have hlt := ho.lt w.heap.size rfl
  refine ⟨W0, hr, rfl, Nat.le_refl _, hlt.2, fun j => ho.frozenAt j, fun j hj => ?_, fun j hj => absurd hj (by omega), fun f hf => by simp at hf, by simp, ⟨hg.os, hg.tape, hg.output, hg.size, fun k hk => hg.block k hk (by simp)⟩⟩
  have := ho.cellAt j hj
  have hlen := ho.1
  rw [this, List.getElem?_eq_getElem (by omega)]
  exact ⟨_, rfl⟩
end Go.Proofs.Ytpgefkdojplamaa
