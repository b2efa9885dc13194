/- Rows of values, rows of cells: their cells in a row, what is read, what is owned. -/
import Derived.Test.YtdhpmblhejcehaaDoorOwnRow
import Derived.Test.YtdhpmblhejcehaaDoorOkS
import Derived.Maps.AppendAt
namespace Go.Proofs.YtdhpmblhejcehaaDoor
set_option linter.unusedVariables false
open Go.ChangeShapes Go.WideShapes Go.ChangeAt Go.RowKit

def vl3 (x : Vl) : List Value := [.int .i64 x.kind, .int .i64 x.n, .string x.s]
def ce9 (x : Ce) : List Value := [.int .i64 x.kind, .int .i64 x.n, .string x.s, .int .i64 x.a.kind, .int .i64 x.a.n, .string x.a.s, .int .i64 x.b.kind, .int .i64 x.b.n, .string x.b.s]
/-- The cells of values in a row. -/
def vc (l : List Vl) : List Value := l.flatMap vl3
/-- The cells of cells in a row. -/
def cc (l : List Ce) : List Value := l.flatMap ce9
def VlOk (x : Vl) : Prop := I64 x.kind ∧ I64 x.n ∧ x.s.size ≤ maxLen
def CeOk (x : Ce) : Prop := I64 x.kind ∧ I64 x.n ∧ x.s.size ≤ maxLen ∧ VlOk x.a ∧ VlOk x.b
theorem vc_app (l m : List Vl) : vc (l ++ m) = vc l ++ vc m := by simp [vc]
theorem cc_app (l m : List Ce) : cc (l ++ m) = cc l ++ cc m := by simp [cc]
theorem vc_len (l : List Vl) : (vc l).length = l.length * 3 := by
  induction l with
  | nil => rfl
  | cons x l ih => simp only [vc, List.flatMap_cons, List.length_append, List.length_cons] at ih ⊢; rw [ih]; simp [vl3]; omega
theorem cc_len (l : List Ce) : (cc l).length = l.length * 9 := by
  induction l with
  | nil => rfl
  | cons x l ih => simp only [cc, List.flatMap_cons, List.length_append, List.length_cons] at ih ⊢; rw [ih]; simp [ce9]; omega
theorem vc_cell (l : List Vl) : ∀ u ∈ vc l, u.oneCell' = true := by
  intro u hu
  simp only [vc, List.mem_flatMap] at hu
  obtain ⟨x, _, hx⟩ := hu
  simp [vl3] at hx
  rcases hx with rfl | rfl | rfl <;> rfl
theorem cc_cell (l : List Ce) : ∀ u ∈ cc l, u.oneCell' = true := by
  intro u hu
  simp only [cc, List.mem_flatMap] at hu
  obtain ⟨x, _, hx⟩ := hu
  simp [ce9] at hx
  rcases hx with rfl | rfl | rfl | rfl | rfl | rfl | rfl | rfl | rfl <;> rfl
theorem vc_get (l : List Vl) (i j : Nat) (hi : i < l.length) (hj : j < 3) : (vc l)[i * 3 + j]? = (vl3 l[i])[j]? := flat_get vl3 3 (fun _ => rfl) l i j hi hj
theorem cc_get (l : List Ce) (i j : Nat) (hi : i < l.length) (hj : j < 9) : (cc l)[i * 9 + j]? = (ce9 l[i])[j]? := flat_get ce9 9 (fun _ => rfl) l i j hi hj
/-- What reads so has these cells. -/
theorem vc_read {w : World} {b o : Nat} {l : List Vl} (h : ∀ i (hi : i < l.length), VlEl w b (o + i * 3) l[i]) : ∀ j u, (vc l)[j]? = some u → w.cell? ⟨b, o + j, none⟩ = some u := by
  intro j u hj
  have hjl : j < l.length * 3 := by rw [← vc_len]; exact (List.getElem?_eq_some_iff.1 hj).1
  obtain ⟨i, d, hd, rfl⟩ : ∃ i d, d < 3 ∧ j = i * 3 + d := ⟨j / 3, j % 3, by omega, by omega⟩
  have hi : i < l.length := by omega
  rw [vc_get l i d hi hd] at hj
  obtain ⟨⟨e0, -⟩, ⟨e1, -⟩, ⟨e2, -⟩⟩ := h i hi
  rw [← Nat.add_assoc]
  have hd3 : d = 0 ∨ d = 1 ∨ d = 2 := by omega
  rcases hd3 with rfl | rfl | rfl
  · simp [vl3] at hj; subst hj; exact e0
  · simp [vl3] at hj; subst hj; exact e1
  · simp [vl3] at hj; subst hj; exact e2
/-- Owned rows: an element's cells. -/
theorem own_dims {B e n m : Nat} {w : World} {v : Value} {xs : List Value} (h : w.ownsRow B e m v n xs) (hn : 0 < n) : ∃ g cap, v = .slice (some ⟨g, 0, none⟩) n cap ∧ B ≤ g ∧ g < w.heap.size ∧ n ≤ cap ∧ (∀ j, j < n * m → w.cell? ⟨g, j, none⟩ = xs[j]?) ∧ (∀ j, w.frozen? ⟨g, j, none⟩ = false) := by
  have h' := h
  obtain ⟨_, ⟨_, h0⟩ | ⟨g, cap, cur, rfl, h1, h2, h3, h4, h5, h6⟩⟩ := h
  · omega
  · exact ⟨g, cap, rfl, h1, by have := (h'.lt g rfl).2; exact this, h3, fun j hj => h'.cellAt j (by omega), fun j => h'.frozenAt j⟩
theorem own_belN {B e n m : Nat} {wr w1 : World} {v : Value} {xs : List Value} (h : wr.ownsRow B e m v n xs) (hb : Below wr.heap.size wr w1) : w1.ownsRow B e m v n xs := by
  obtain ⟨h0, h1 | ⟨g, cap, cur, rfl, h1, h2, h3, h4, h5, h6⟩⟩ := h
  · exact ⟨h0, .inl h1⟩
  · refine ⟨h0, .inr ⟨g, cap, cur, rfl, h1, ?_, h3, h4, h5, h6⟩⟩
    rw [hb.block g (by have := (Array.getElem?_eq_some_iff.1 h2).1; exact this)]; exact h2
/-- .. and where its own block has not turned. -/
theorem own_blkN {B e n m : Nat} {wr w1 : World} {v : Value} {xs : List Value} (h : wr.ownsRow B e m v n xs) (hb : ∀ g, v.ownBlock = some g → w1.heap[g]? = wr.heap[g]?) : w1.ownsRow B e m v n xs := by
  obtain ⟨h0, h1 | ⟨g, cap, cur, rfl, h1, h2, h3, h4, h5, h6⟩⟩ := h
  · exact ⟨h0, .inl h1⟩
  · exact ⟨h0, .inr ⟨g, cap, cur, rfl, h1, (hb g rfl).trans h2, h3, h4, h5, h6⟩⟩
theorem own_mon {w : World} {B B' e size n : Nat} {v : Value} {xs : List Value} (h : w.ownsRow B' e size v n xs) (hB : B ≤ B') : w.ownsRow B e size v n xs := by
  obtain ⟨h0, h1 | ⟨g, cap, cur, rfl, h1, h2, h3, h4, h5, h6⟩⟩ := h
  · exact ⟨h0, .inl h1⟩
  · exact ⟨h0, .inr ⟨g, cap, cur, rfl, Nat.le_trans hB h1, h2, h3, h4, h5, h6⟩⟩
theorem own_slN {w : World} {B e n m : Nat} {v : Value} {xs : List Value} (h : w.ownsRow B e n v m xs) : ∃ a c, v = .slice a m c := by
  obtain ⟨_, ⟨rfl, rfl⟩ | ⟨g, cap, cur, rfl, _⟩⟩ := h
  · exact ⟨_, _, rfl⟩
  · exact ⟨_, _, rfl⟩
/-- Rows of one type, blocks of another: apart. -/
theorem hp_ne {w : World} {B e e2 n m g : Nat} {v : Value} {xs : List Value} {c : Array Value} {f : Nat × Nat} (h : w.ownsRow B e m v n xs) (h2 : w.heap[g]? = some (.cells c e2 f)) (he : e ≠ e2) : v.ownBlock ≠ some g := by
  obtain ⟨_, ⟨rfl, _⟩ | ⟨g', cap, cur, rfl, _, h3, _⟩⟩ := h
  · simp [Value.ownBlock]
  · intro hg
    cases hg
    rw [h3] at h2
    injection h2 with h2
    injection h2 with _ h5
    exact he h5
theorem hp_two {w : World} {B e B2 e2 n m n2 m2 g : Nat} {v v2 : Value} {xs xs2 : List Value} (h : w.ownsRow B e m v n xs) (h2 : w.ownsRow B2 e2 m2 v2 n2 xs2) (he : e ≠ e2) (hg : v2.ownBlock = some g) : v.ownBlock ≠ some g := by
  obtain ⟨_, ⟨rfl, _⟩ | ⟨g2, cap2, cur2, rfl, _, h4, _⟩⟩ := h2
  · cases hg
  · cases hg
    exact hp_ne h h4 he
/-- The last element taken off. -/
theorem own_popN {B e n m : Nat} {w : World} {g cap : Nat} {xs : List Value} (h : w.ownsRow B e m (.slice (some ⟨g, 0, none⟩) (n + 1) cap) (n + 1) xs) : w.ownsRow B e m (.slice (some ⟨g, 0, none⟩) n cap) n (xs.take (n * m)) := by
  obtain ⟨h0, ⟨h1, _⟩ | ⟨g', cap', cur, e1, h1, h2, h3, h4, h5, h6⟩⟩ := h
  · cases h1
  · cases e1
    refine ⟨by rw [List.length_take, h0, Nat.succ_mul]; omega, .inr ⟨g, cap, cur, rfl, h1, h2, by omega, h4, h5, ?_⟩⟩
    rw [← h6, List.take_take, Nat.succ_mul, Nat.min_eq_left (by omega)]
theorem vc_pop (l : List Vl) (x : Vl) : (vc (l ++ [x])).take (l.length * 3) = vc l := by rw [vc_app, List.take_left' (vc_len l)]
theorem own_grow {B B0 e n m : Nat} {w wr w1 : World} {v : Value} {xs : List Value} {C : Array Value} {T : TypeId} (hown : wr.ownsRow B e m v n xs) (hbel : Below B0 w wr) (h0 : B0 ≤ B) (hBs : B ≤ wr.heap.size)
    (hgrow : (wr.alloc (.cells C T)).grownBy w1 v.ownBlock) : Below B0 w w1 ∧ B ≤ w1.heap.size := by
  have hb2 : Below B0 w (wr.alloc (.cells C T)) := hbel.alloc (by omega) _
  refine ⟨hb2.grown hgrow (by simp; omega) (fun k hk => by have := (hown.lt k hk).1; omega), ?_⟩
  have := hgrow.size; simp at this; omega
theorem own_vcs {B e m : Nat} {w1 : World} {v' : Value} {l l' : List Vl} {n : Nat} {xs news : List Value} (hn : n = l.length) (hxs : xs = vc l) (hnews : news = vc l') (hm : m = l'.length) (hown' : w1.ownsRow B e 3 v' (n + m) (xs ++ news)) :
    w1.ownsRow B e 3 v' (l ++ l').length (vc (l ++ l')) := by
  subst hn hxs hnews hm; rw [vc_app, List.length_append]; exact hown'
theorem own_ccs {B e m : Nat} {w1 : World} {v' : Value} {l l' : List Ce} {n : Nat} {xs news : List Value} (hn : n = l.length) (hxs : xs = cc l) (hnews : news = cc l') (hm : m = l'.length) (hown' : w1.ownsRow B e 9 v' (n + m) (xs ++ news)) :
    w1.ownsRow B e 9 v' (l ++ l').length (cc (l ++ l')) := by
  subst hn hxs hnews hm; rw [cc_app, List.length_append]; exact hown'
/-- Handed back. -/
theorem own_vals {B e : Nat} {w : World} {v : Value} {l : List Vl} (h : w.ownsRow B e 3 v l.length (vc l)) (hI : ∀ x ∈ l, VlOk x) : ∃ F, RowOwn 3 VlOwn w v l F ∧ (∀ g ∈ F, B ≤ g) ∧ F.Nodup := by
  refine own_flat (by omega) h fun g i hi hc => ?_
  have hg := fun j hj => (hc j hj).trans (vc_get l i j hi hj)
  obtain ⟨i0, i1, i2⟩ := hI _ (List.getElem_mem hi)
  exact ⟨⟨hg 0 (by omega), i0⟩, ⟨hg 1 (by omega), i1⟩, ⟨hg 2 (by omega), i2⟩⟩
theorem own_cells {B e : Nat} {w : World} {v : Value} {l : List Ce} (h : w.ownsRow B e 9 v l.length (cc l)) (hI : ∀ x ∈ l, CeOk x) : ∃ F, RowOwn 9 CeOwn w v l F ∧ (∀ g ∈ F, B ≤ g) ∧ F.Nodup := by
  refine own_flat (by omega) h fun g i hi hc => ?_
  have hg := fun j hj => (hc j hj).trans (cc_get l i j hi hj)
  obtain ⟨i0, i1, i2, ⟨i3, i4, i5⟩, ⟨i6, i7, i8⟩⟩ := hI _ (List.getElem_mem hi)
  exact ⟨⟨hg 0 (by omega), i0⟩, ⟨hg 1 (by omega), i1⟩, ⟨hg 2 (by omega), i2⟩, ⟨⟨hg 3 (by omega), i3⟩, ⟨hg 4 (by omega), i4⟩, ⟨hg 5 (by omega), i5⟩⟩, ⟨⟨hg 6 (by omega), i6⟩, ⟨hg 7 (by omega), i7⟩, ⟨hg 8 (by omega), i8⟩⟩⟩
theorem info_vl : (Tryd.prog.info? 33).map (fun i => (i.zero, i.size, i.bytes)) = some (some (.agg #[.int .i64 0, .int .i64 0, .string ⟨#[]⟩]), 3, 32) := by kernel_rfl
theorem info_ce : (Tryd.prog.info? 53).map (fun i => (i.zero, i.size, i.bytes)) = some (some (.agg #[.int .i64 0, .int .i64 0, .string ⟨#[]⟩, .int .i64 0, .int .i64 0, .string ⟨#[]⟩, .int .i64 0, .int .i64 0, .string ⟨#[]⟩]), 9, 96) := by kernel_rfl
end Go.Proofs.YtdhpmblhejcehaaDoor
