/- A row that a call made and appends to, its elements with blocks of their own below them. -/
import Derived.Test.YtkalkmgnjlohnaaOwnRow
import Derived.Maps.AppendAt
namespace Go.Proofs.Ytkalkmgnjlohnaa
set_option linter.unusedVariables false
open Go.ChangeShapes Go.WideShapes Go.ChangeAt Go.RowKit

/-- An element told by its cells, with the blocks below it. -/
abbrev CellRd (α : Type) := World → List Value → α → List Nat → Prop
/-- It hangs on the blocks below it alone. -/
def CLoc {α : Type} (ED : CellRd α) : Prop := ∀ w w' cs x F, w.heap.size ≤ w'.heap.size → (∀ g ∈ F, w'.heap[g]? = w.heap[g]?) → ED w cs x F → ED w' cs x F
structure Grow {α : Type} (n : Nat) (ED : CellRd α) (B e : Nat) (w : World) (v : Value) (zs : List (List Value × α × List Nat)) : Prop where
  own : w.ownsRow B e n v zs.length (zs.flatMap (·.1))
  el : ∀ z ∈ zs, ED w z.1 z.2.1 z.2.2 ∧ z.1.length = n ∧ ∀ u ∈ z.1, u.oneCell' = true
  lo : ∀ z ∈ zs, ∀ g ∈ z.2.2, B ≤ g ∧ g < w.heap.size ∧ v.ownBlock ≠ some g
  nd : (zs.flatMap (·.2.2)).Nodup
theorem own_bel {B e n m : Nat} {wr w1 : World} {v : Value} {xs : List Value} (h : wr.ownsRow B e m v n xs) (hb : ∀ k, v.ownBlock = some k → w1.heap[k]? = wr.heap[k]?) : w1.ownsRow B e m v n xs := by
  obtain ⟨h0, h1 | ⟨g, cap, cur, rfl, h1, h2, h3, h4, h5, h6⟩⟩ := h
  · exact ⟨h0, .inl h1⟩
  · refine ⟨h0, .inr ⟨g, cap, cur, rfl, h1, ?_, h3, h4, h5, h6⟩⟩
    rw [hb g rfl]; exact h2
theorem Grow.nil {α : Type} {n : Nat} {ED : CellRd α} {B e : Nat} {w : World} {v : Value} (h : w.ownsRow B e n v 0 []) : Grow n ED B e w v [] := ⟨h, by simp, by simp, by simp⟩
/-- What has turned lies elsewhere. -/
theorem Grow.same {α : Type} {n : Nat} {ED : CellRd α} (hL : CLoc ED) {B e : Nat} {w w' : World} {v : Value} {zs : List (List Value × α × List Nat)} (h : Grow n ED B e w v zs) (hs : w.heap.size ≤ w'.heap.size)
    (hb : ∀ k, k < w.heap.size → (v.ownBlock = some k ∨ ∃ z ∈ zs, k ∈ z.2.2) → w'.heap[k]? = w.heap[k]?) : Grow n ED B e w' v zs := by
  refine ⟨own_bel h.own fun k hk => hb k (h.own.lt k hk).2 (.inl hk), fun z hz => ?_, fun z hz g hg => ?_, h.nd⟩
  · obtain ⟨h1, h2, h3⟩ := h.el z hz
    exact ⟨hL w w' _ _ _ hs (fun g hg => hb g (h.lo z hz g hg).2.1 (.inr ⟨z, hz, hg⟩)) h1, h2, h3⟩
  · obtain ⟨h1, h2, h3⟩ := h.lo z hz g hg
    exact ⟨h1, by omega, h3⟩
theorem Grow.below {α : Type} {n : Nat} {ED : CellRd α} (hL : CLoc ED) {B e : Nat} {w w' : World} {v : Value} {zs : List (List Value × α × List Nat)} (h : Grow n ED B e w v zs) (hb : Below w.heap.size w w') : Grow n ED B e w' v zs :=
  h.same hL hb.size fun k hk _ => hb.block k hk
theorem Grow.set {α : Type} {n : Nat} {ED : CellRd α} (hL : CLoc ED) {B e : Nat} {w : World} {v : Value} {zs : List (List Value × α × List Nat)} (h : Grow n ED B e w v zs) (b o : Nat) (u : Value)
    (hb : v.ownBlock ≠ some b) (hz : ∀ z ∈ zs, b ∉ z.2.2) : Grow n ED B e (w.setCell ⟨b, o, none⟩ u) v zs := by
  refine h.same hL (by simp [World.setCell]) fun k hk hh => Below.heap_setCell _ _ _ _ fun e => ?_
  have e : k = b := e
  rcases hh with hh | ⟨z, hz', hk'⟩
  · exact hb (e ▸ hh)
  · exact hz z hz' (e ▸ hk')
/-- Behind an append. -/
theorem Grow.app {α : Type} {n : Nat} {ED : CellRd α} (hL : CLoc ED) {B e : Nat} {w w2 : World} {v v2 : Value} {zs ys : List (List Value × α × List Nat)} {m : Nat} {news : List Value} (h : Grow n ED B e w v zs)
    (hown : w2.ownsRow B e n v2 (zs.length + m) (zs.flatMap (·.1) ++ news)) (hgrow : w.grownBy w2 v.ownBlock) (hat : v2.ownBlock = v.ownBlock ∨ v2.ownBlock = some w.heap.size) (hm : m = ys.length) (hn : news = ys.flatMap (·.1))
    (hel : ∀ z ∈ ys, ED w z.1 z.2.1 z.2.2 ∧ z.1.length = n ∧ ∀ u ∈ z.1, u.oneCell' = true) (hlo : ∀ z ∈ ys, ∀ g ∈ z.2.2, B ≤ g ∧ g < w.heap.size ∧ v.ownBlock ≠ some g) (hnd : (ys.flatMap (·.2.2)).Nodup)
    (hdis : ∀ z ∈ zs, ∀ y ∈ ys, ∀ g ∈ z.2.2, g ∉ y.2.2) : Grow n ED B e w2 v2 (zs ++ ys) := by
  subst hm hn
  have hblk : ∀ k, k < w.heap.size → v.ownBlock ≠ some k → w2.heap[k]? = w.heap[k]? := fun k hk hne => hgrow.block k hk (fun e => hne e.symm)
  refine ⟨by rw [List.length_append, List.flatMap_append]; exact hown, fun z hz => ?_, fun z hz g hg => ?_, ?_⟩
  · have hz' : ED w z.1 z.2.1 z.2.2 ∧ z.1.length = n ∧ (∀ u ∈ z.1, u.oneCell' = true) ∧ ∀ g ∈ z.2.2, B ≤ g ∧ g < w.heap.size ∧ v.ownBlock ≠ some g := by
      rcases List.mem_append.1 hz with hz | hz
      · exact ⟨(h.el z hz).1, (h.el z hz).2.1, (h.el z hz).2.2, h.lo z hz⟩
      · exact ⟨(hel z hz).1, (hel z hz).2.1, (hel z hz).2.2, hlo z hz⟩
    obtain ⟨h1, h2, h3, h4⟩ := hz'
    exact ⟨hL w w2 _ _ _ hgrow.size (fun g hg => hblk g (h4 g hg).2.1 (h4 g hg).2.2) h1, h2, h3⟩
  · have hz' : B ≤ g ∧ g < w.heap.size ∧ v.ownBlock ≠ some g := by
      rcases List.mem_append.1 hz with hz | hz
      · exact h.lo z hz g hg
      · exact hlo z hz g hg
    obtain ⟨h1, h2, h3⟩ := hz'
    have hs := hgrow.size
    refine ⟨h1, by omega, fun e => ?_⟩
    rcases hat with hat | hat
    · exact h3 (hat ▸ e)
    · rw [hat] at e; injection e with e; omega
  · rw [List.flatMap_append]
    refine List.nodup_append.2 ⟨h.nd, hnd, fun a ha b hb hab => ?_⟩
    subst hab
    obtain ⟨z, hz, ha⟩ := List.mem_flatMap.1 ha
    obtain ⟨y, hy, hb⟩ := List.mem_flatMap.1 hb
    exact hdis z hz y hy a ha hb
/-- The world behind an append lies below. -/
theorem Grow.bel {α : Type} {n : Nat} {ED : CellRd α} {B B0 e : Nat} {w0 w w2 : World} {v : Value} {zs : List (List Value × α × List Nat)} (h : Grow n ED B e w v zs) (hbel : Below B0 w0 w) (h0 : B0 ≤ B) (hB0 : B0 ≤ w.heap.size) (hgrow : w.grownBy w2 v.ownBlock) : Below B0 w0 w2 :=
  hbel.grown hgrow hB0 fun k hk => by have := (h.own.lt k hk).1; omega
/-- As owned data. -/
theorem Grow.rowOwn {α : Type} {n : Nat} {ED : CellRd α} {E : OwnRd α} (hn : 0 < n) (hE : ∀ w g o cs x F, (∀ j, j < n → w.cell? ⟨g, o + j, none⟩ = cs[j]?) → ED w cs x F → E w g o x F) {B e : Nat} {w : World} {v : Value} {zs : List (List Value × α × List Nat)} (h : Grow n ED B e w v zs) :
    ∃ F, RowOwn n E w v (zs.map (·.2.1)) F ∧ (∀ g ∈ F, B ≤ g) ∧ F.Nodup := by
  by_cases h0 : 0 < zs.length
  · have hO := h.own
    have hO' := hO
    obtain ⟨hx, ⟨_, h1⟩ | ⟨g, cap, cur, rfl, h1, h2, h3, h4, h5, h6⟩⟩ := hO
    · omega
    · have hF : zs.flatMap (·.2.2) = (zs.map (·.2.2)).flatten := by rw [List.flatMap_def]
      refine ⟨g :: (zs.map (·.2.2)).flatten, .inr ⟨g, cap, zs.map (·.2.2), by rw [List.length_map], by rw [List.length_map]; exact ⟨Nat.le_trans h3 h4, h3⟩, (hO'.lt g rfl).2, fun i => hO'.frozenAt i, by rw [List.length_map]; exact h0, by simp, rfl, fun i hi hi' => ?_⟩, fun k hk => ?_, ?_⟩
      · have hi2 : i < zs.length := by simpa using hi
        obtain ⟨e1, e2, e3⟩ := h.el zs[i] (List.getElem_mem hi2)
        rw [List.getElem_map, List.getElem_map]
        refine hE w g (i * n) zs[i].1 _ _ (fun j hj => ?_) e1
        rw [hO'.cellAt (i * n + j) (by have := Nat.mul_le_mul_right n (show i + 1 ≤ zs.length by omega); rw [Nat.succ_mul] at this; omega)]
        -- the cells of the i-th
        have key : ∀ (zs : List (List Value × α × List Nat)), (∀ z ∈ zs, z.1.length = n) → ∀ i (hi : i < zs.length), (zs.flatMap (·.1))[i * n + j]? = zs[i].1[j]? := by
          intro zs
          induction zs with
          | nil => intro _ i hi; simp at hi
          | cons z zs ih =>
            intro hz i hi
            have hzl := hz z (by simp)
            rw [List.flatMap_cons]
            cases i with
            | zero => rw [Nat.zero_mul, Nat.zero_add, List.getElem?_append_left (by omega)]; rfl
            | succ i =>
              rw [List.getElem?_append_right (by rw [hzl, Nat.succ_mul]; omega), hzl]
              rw [show (i + 1) * n + j - n = i * n + j from by rw [Nat.succ_mul]; omega]
              exact ih (fun z hz' => hz z (List.mem_cons_of_mem _ hz')) i (by simpa using hi)
        exact key zs (fun z hz => (h.el z hz).2.1) i hi2
      · rcases List.mem_cons.1 hk with rfl | hk
        · exact h1
        · rw [← hF] at hk
          obtain ⟨z, hz, hk⟩ := List.mem_flatMap.1 hk
          exact (h.lo z hz k hk).1
      · rw [← hF]
        refine List.nodup_cons.2 ⟨fun hg => ?_, h.nd⟩
        obtain ⟨z, hz, hk⟩ := List.mem_flatMap.1 hg
        exact (h.lo z hz g hk).2.2 rfl
  · obtain rfl : zs = [] := List.eq_nil_of_length_eq_zero (by omega)
    obtain ⟨hx, ⟨rfl, _⟩ | ⟨g, cap, cur, rfl, _⟩⟩ := h.own
    · exact ⟨[], .inl ⟨rfl, rfl, _, _, rfl⟩, fun g hg => by simp at hg, List.nodup_nil⟩
    · exact ⟨[], .inl ⟨rfl, rfl, _, _, rfl⟩, fun g hg => by simp at hg, List.nodup_nil⟩

/-! ### Nodes of values, values -/
/-- A node of a value by its cells. -/
def DNCell : CellRd DN := fun w cs x F => ∃ u, cs = [.int .i64 x.kind, .int .i64 x.n, .string x.s, u] ∧ I64 x.kind ∧ I64 x.n ∧ x.s.size ≤ maxLen ∧ RowOwn 1 (Flat IntEl) w u x.kids F
theorem DNCell.loc : CLoc DNCell := fun w w' cs x F hs hb ⟨u, h1, h2, h3, h4, h5⟩ => ⟨u, h1, h2, h3, h4, h5.loc IntFlat.loc hs hb⟩
theorem DNCell.own (w : World) (g o : Nat) (cs : List Value) (x : DN) (F : List Nat) (hc : ∀ j, j < 4 → w.cell? ⟨g, o + j, none⟩ = cs[j]?) (h : DNCell w cs x F) : DNOwn w g o x F := by
  obtain ⟨u, rfl, h2, h3, h4, h5⟩ := h
  exact ⟨F, rfl, ⟨hc 0 (by omega), h2⟩, ⟨hc 1 (by omega), h3⟩, ⟨hc 2 (by omega), h4⟩, ⟨u, hc 3 (by omega), h5⟩⟩
/-- A value by its cell. -/
def DataCell : CellRd (List DN) := fun w cs x F => ∃ u, cs = [u] ∧ RowOwn 4 DNOwn w u x F
theorem DataCell.loc : CLoc DataCell := fun w w' cs x F hs hb ⟨u, h1, h5⟩ => ⟨u, h1, h5.loc DNOwn.loc hs hb⟩
theorem DataCell.own (w : World) (g o : Nat) (cs : List Value) (x : List DN) (F : List Nat) (hc : ∀ j, j < 1 → w.cell? ⟨g, o + j, none⟩ = cs[j]?) (h : DataCell w cs x F) : DataOwn w g o x F := by
  obtain ⟨u, rfl, h5⟩ := h
  exact ⟨u, by have := hc 0 (by omega); rw [Nat.add_zero] at this; exact this, h5⟩
end Go.Proofs.Ytkalkmgnjlohnaa
