/- The model's TyCanon. -/
import Derived.Test.YtciohamonmmciaaCanJ
import Derived.Sort.Row
import Derived.Deep.QuietTactic
import Derived.BigQuiet
namespace Go.Proofs.Ytciohamonmmciaa
set_option linter.unusedVariables false
set_option maxRecDepth 100000
open Go.ChangeShapes Go.WideShapes Go.ChangeAt Go.RowKit

theorem own_ne {w : World} {B e e2 n m g : Nat} {v : Value} {xs : List Value} {c : Array Value} {f : Nat × Nat} (h : w.ownsRow B e m v n xs) (h2 : w.heap[g]? = some (.cells c e2 f)) (he : e ≠ e2) : v.ownBlock ≠ some g := by
  intro hg
  obtain ⟨_, ⟨rfl, _⟩ | ⟨g', cap, cur, rfl, _, h3, _⟩⟩ := h
  · cases hg
  · cases hg
    rw [h2] at h3
    injection h3 with h3
    injection h3 with _ h4
    exact he h4.symm
theorem own_two {w : World} {B e B2 e2 n m n2 m2 : Nat} {v v2 : Value} {xs xs2 : List Value} (h : w.ownsRow B e m v n xs) (h2 : w.ownsRow B2 e2 m2 v2 n2 xs2) (he : e ≠ e2) : v.ownBlock = none ∨ v.ownBlock ≠ v2.ownBlock := by
  obtain ⟨_, ⟨rfl, _⟩ | ⟨g', cap, cur, rfl, _, h3, _⟩⟩ := h
  · exact .inl rfl
  · right
    exact fun hg => own_ne h2 h3 (fun e => he e.symm) hg.symm
theorem own_setCell {w : World} {B e n m b o : Nat} {v u : Value} {xs : List Value} (h : w.ownsRow B e m v n xs) (hne : v.ownBlock ≠ some b) : (w.setCell ⟨b, o, none⟩ u).ownsRow B e m v n xs := by
  obtain ⟨h0, h1 | ⟨g, cap, cur, rfl, h1, h2, h3⟩⟩ := h
  · exact ⟨h0, .inl h1⟩
  · exact ⟨h0, .inr ⟨g, cap, cur, rfl, h1, by rw [Below.heap_setCell _ _ _ _ (fun e => hne (by show some g = some b; rw [e]))]; exact h2, h3⟩⟩
theorem box_set {w : World} {b : Nat} {y u : Value} {T : TypeId} {f : Nat × Nat} (h : w.heap[b]? = some (.cells #[y] T f)) : (w.setCell ⟨b, 0, none⟩ u).heap[b]? = some (.cells #[u] T f) := by
  rw [Go.Sort.setCell_eq]
  simp [Go.Sort.mapBlock, Array.getElem?_modify, h, Go.Sort.onCells]
theorem box_cell {w : World} {b : Nat} {y : Value} {T : TypeId} (h : w.heap[b]? = some (.cells #[y] T (0, 0))) : w.cell? ⟨b, 0, none⟩ = some y ∧ w.frozen? ⟨b, 0, none⟩ = false := by
  constructor
  · simp [World.cell?, h]
  · simp [World.frozen?, h]
theorem putT_snoc (x : List TyI) (k : Nat) (h : k < x.length) : putT canV [] (x.take (k + 1)) = ((putT canV [] (x.take k)).1 ++ (putT canV (putT canV [] (x.take k)).2 [x[k]]).1, (putT canV (putT canV [] (x.take k)).2 [x[k]]).2) := by
  rw [List.take_succ_eq_append_getElem h, putT_app]
theorem putT_one_no (s : List Int) (t : TyI) (h : ¬ t.name.toList = []) : putT canV s [t] = ([t], s) := by rw [putT, if_neg h]; rfl
theorem putT_one_yes (s : List Int) (t : TyI) (h : t.name.toList = []) : putT canV s [t] = ([⟨(placeOf s t.var : Int), noName, 0⟩], seeN s t.var) := by rw [putT, if_pos h]; simp [canV, putT]
/-- Where the model's renaming stands: -/
structure CInv (w W2 : World) (S : List Int) (O : List TyI) (seen vo : Value) (wr : World) : Prop where
  s : wr.ownsRow (w.heap.size + 2) 3 1 seen S.length (ic S)
  o : wr.ownsRow (w.heap.size + 2) 68 3 vo O.length (tyC O)
  b : wr.heap[w.heap.size + 3]? = some (.cells #[vo] 28 (0, 0))
  bel : Below (w.heap.size + 2) W2 wr
  sz : w.heap.size + 4 ≤ wr.heap.size
theorem CInv.below {w W2 wr wz : World} {S : List Int} {O : List TyI} {seen vo : Value} (h : CInv w W2 S O seen vo wr) (hb : Below wr.heap.size wr wz) : CInv w W2 S O seen vo wz :=
  ⟨own_belowN h.s hb, own_belowN h.o hb, (hb.block _ (by have := h.sz; omega)).trans h.b, h.bel.trans (hb.mono (by have := h.sz; omega)), Nat.le_trans h.sz hb.size⟩
theorem CInv.tail {w W2 wz w2 : World} {S : List Int} {O O' : List TyI} {seen vo v2 : Value} {OO : Obj} (h : CInv w W2 S O seen vo wz) (hgrow : (wz.alloc OO).grownBy w2 vo.ownBlock) (hown : w2.ownsRow (w.heap.size + 2) 68 3 v2 O'.length (tyC O')) :
    CInv w W2 S O' seen v2 (w2.setCell ⟨w.heap.size + 3, 0, none⟩ v2) := by
  have h2 := h.below ((Below.refl _ _).alloc (Nat.le_refl _) OO)
  have hb2 : w2.heap[w.heap.size + 3]? = some (.cells #[vo] 28 (0, 0)) := (hgrow.block _ (by have := h2.sz; omega) (fun e => own_ne h2.o h2.b (by decide) e.symm)).trans h2.b
  have hs2 := h2.s.kept hgrow (own_two h2.s h2.o (by decide))
  refine ⟨own_setCell hs2 (own_ne hs2 hb2 (by decide)), own_setCell hown (own_ne hown hb2 (by decide)), box_set hb2, ?_, ?_⟩
  · exact (h2.bel.grown hgrow (by have := h2.sz; omega) (fun k hk => by have := (h2.o.lt k hk).1; omega)).setCell (Nat.le_succ _) _
  · rw [setCell_size]; exact Nat.le_trans h2.sz hgrow.size
theorem CInv.box2 {w W2 wz w2 : World} {S : List Int} {O : List TyI} {seen vo : Value} {OO : Obj} (h : CInv w W2 S O seen vo wz) (hgrow : (wz.alloc OO).grownBy w2 vo.ownBlock) : w2.cell? ⟨w.heap.size + 3, 0, none⟩ = some vo ∧ w2.frozen? ⟨w.heap.size + 3, 0, none⟩ = false := by
  have h2 := h.below ((Below.refl _ _).alloc (Nat.le_refl _) OO)
  exact box_cell ((hgrow.block _ (by have := h2.sz; omega) (fun e => own_ne h2.o h2.b (by decide) e.symm)).trans h2.b)
theorem CInv.see {w W2 wz w2 : World} {S S' : List Int} {O : List TyI} {seen v2 vo : Value} {OO : Obj} (h : CInv w W2 S O seen vo wz) (hgrow : (wz.alloc OO).grownBy w2 seen.ownBlock) (hown : w2.ownsRow (w.heap.size + 2) 3 1 v2 S'.length (ic S')) :
    CInv w W2 S' O v2 vo w2 := by
  have h2 := h.below ((Below.refl _ _).alloc (Nat.le_refl _) OO)
  refine ⟨hown, h2.o.kept hgrow (own_two h2.o h2.s (by decide)), (hgrow.block _ (by have := h2.sz; omega) (fun e => own_ne h2.s h2.b (by decide) e.symm)).trans h2.b, ?_, Nat.le_trans h2.sz hgrow.size⟩
  exact h2.bel.grown hgrow (by have := h2.sz; omega) (fun k hk => by have := (h2.s.lt k hk).1; omega)
theorem CInv.setX {w W2 wz : World} {S : List Int} {O : List TyI} {seen vo u : Value} {q o : Nat} (h : CInv w W2 S O seen vo wz) (hs : seen.ownBlock ≠ some q) (ho : vo.ownBlock ≠ some q) (hq : w.heap.size + 4 ≤ q) : CInv w W2 S O seen vo (wz.setCell ⟨q, o, none⟩ u) :=
  ⟨own_setCell h.s hs, own_setCell h.o ho, by rw [Below.heap_setCell _ _ _ _ (fun e => by have : w.heap.size + 3 = q := e; omega)]; exact h.b, h.bel.setCell (by show w.heap.size + 2 ≤ q; omega) _, by rw [setCell_size]; exact h.sz⟩
theorem own_form {w : World} {B e n m : Nat} {v : Value} {xs : List Value} (h : w.ownsRow B e m v n xs) : ∃ a cap, v = .slice a n cap ∧ (0 < n → ∃ g, a = some ⟨g, 0, none⟩ ∧ ∀ j, j < n * m → w.cell? ⟨g, j, none⟩ = xs[j]?) := by
  have h' := h
  obtain ⟨_, ⟨rfl, rfl⟩ | ⟨g, cap, cur, rfl, _⟩⟩ := h
  · exact ⟨none, 0, rfl, fun h => absurd h (by omega)⟩
  · exact ⟨_, cap, rfl, fun _ => ⟨g, rfl, fun j hj => h'.cellAt j hj⟩⟩
theorem box3 {w : World} {q : Nat} {a b c : Value} {T : TypeId} (h : w.heap[q]? = some (.cells #[a, b, c] T (0, 0))) : w.cell? ⟨q, 0, none⟩ = some a ∧ w.cell? ⟨q, 1, none⟩ = some b ∧ w.cell? ⟨q, 2, none⟩ = some c ∧ w.frozen? ⟨q, 0, none⟩ = false := by
  refine ⟨?_, ?_, ?_, ?_⟩
  · simp [World.cell?, h]
  · simp [World.cell?, h]
  · simp [World.cell?, h]
  · simp [World.frozen?, h]
theorem box3_set {w : World} {q : Nat} {a b c u : Value} {T : TypeId} {f : Nat × Nat} (h : w.heap[q]? = some (.cells #[a, b, c] T f)) : (w.setCell ⟨q, 0, none⟩ u).heap[q]? = some (.cells #[u, b, c] T f) := by
  rw [Go.Sort.setCell_eq]
  simp [Go.Sort.mapBlock, Array.getElem?_modify, h, Go.Sort.onCells]
theorem place_found {S : List Int} {n : Int} {a : Nat} (ha : a < S.length) (h : S[a] = n) (hb : ∀ i (hi : i < S.length), i < a → S[i] ≠ n) : placeOf S n = a ∧ n ∈ S := by
  refine ⟨?_, h ▸ List.getElem_mem ha⟩
  unfold placeOf
  rw [List.findIdx_eq ha]
  exact ⟨by simpa using h, fun j hj => by simpa using hb j (by omega) hj⟩
theorem place_none {S : List Int} {n : Int} (hb : ∀ i (hi : i < S.length), i < S.length → S[i] ≠ n) : n ∉ S := fun h => by
  obtain ⟨i, hi, e⟩ := List.getElem_of_mem h
  exact hb i hi hi e
theorem seeN_len (s : List Int) (n : Int) : (seeN s n).length ≤ s.length + 1 := by unfold seeN; split <;> simp
theorem can_items (l : List TyI) : ∀ s : List Int, s.length + l.length ≤ 1000000000000 → (∀ y ∈ l, I64 y.var ∧ y.name.size ≤ maxLen ∧ I64 y.arity) → ∀ y ∈ (putT canV s l).1, I64 y.var ∧ y.name.size ≤ maxLen ∧ I64 y.arity := by
  induction l with
  | nil => intro s _ _ y hy; simp [putT] at hy
  | cons x l ih =>
    intro s hl h y hy
    simp only [List.length_cons] at hl
    by_cases hn : x.name.toList = []
    · rw [putT, if_pos hn] at hy
      rcases List.mem_append.1 hy with hy | hy
      · simp [canV] at hy
        subst hy
        have := place_le s x.var
        exact ⟨i64_nat _ (by omega), by show noName.size ≤ maxLen; decide, i64_nat 0 (by omega)⟩
      · exact ih _ (by have := seeN_len s x.var; show (seeN s x.var).length + _ ≤ _; omega) (fun y hy => h y (List.mem_cons_of_mem _ hy)) y hy
    · rw [putT, if_neg hn] at hy
      rcases List.mem_cons.1 hy with rfl | hy
      · exact h _ (by simp)
      · exact ih _ (by omega) (fun y hy => h y (List.mem_cons_of_mem _ hy)) y hy
theorem len_one {k : Nat} (O : List TyI) (y : TyI) (h : O.length = k) : (O ++ [y]).length = k + 1 := by rw [List.length_append, h]; rfl
theorem can_len (l : List TyI) : ∀ s : List Int, (putT canV s l).2.length ≤ s.length + l.length := by
  induction l with
  | nil => intro s; simp [putT]
  | cons x l ih =>
    intro s
    by_cases hn : x.name.toList = []
    · rw [putT, if_pos hn]; have h1 := ih (seeN s x.var); have h2 := seeN_len s x.var; simp only [List.length_cons]; show (putT canV (seeN s x.var) l).2.length ≤ _; omega
    · rw [putT, if_neg hn]; have h1 := ih s; simp only [List.length_cons]; show (putT canV s l).2.length ≤ _; omega
theorem row_items {w : World} {v : Value} {x : List TyI} (h : RowRd 3 TyIEl w v x) : ∀ y ∈ x, I64 y.var ∧ y.name.size ≤ maxLen ∧ I64 y.arity := by
  intro y hy
  obtain ⟨i, hi, rfl⟩ := List.getElem_of_mem hy
  obtain ⟨a, cap, -, -, hR⟩ := h.form
  obtain ⟨b, o, -, -, hc⟩ := hR (by omega)
  exact ⟨(hc i hi).1.2, (hc i hi).2.1.2, (hc i hi).2.2.2⟩
set_option maxHeartbeats 4000000 in
theorem sCanon (x : List TyI) (v : Value) (w : World) (hR : RowRd 3 TyIEl w v x) (hl : x.length ≤ 1048576) (hva : ∀ y ∈ x, y.name.toList = [] → y.arity = 0) :
    Calls Try.prog 20 #[.agg #[v]] w (ToTyPost (putT canV [] x).1 w) := by
  have hR0 := hR
  obtain ⟨p, cap, rfl, _, hRf⟩ := hR.form
  obtain ⟨i0, hi, hz0, hz1, hz2⟩ := info_parts info_int
  obtain ⟨j0, gi, gz0, gz1, gz2⟩ := info_parts info_item
  have hitems := can_items x [] (by simp; omega) (row_items hR0)
  have hxi := row_items hR0
  have hk2 : Kept w ((w.alloc (.cells #[.slice p x.length cap] 28)).alloc (.cells #[.slice none 0 0] 28)) := Kept.al2 _ _ _
  have bw2 : Below w.heap.size w ((w.alloc (.cells #[.slice p x.length cap] 28)).alloc (.cells #[.slice none 0 0] 28)) := Joins.below_alloc2 w _ _
  have r2 : ((w.alloc (.cells #[.slice p x.length cap] 28)).alloc (.cells #[.slice none 0 0] 28)).cell? ⟨w.heap.size + 1, 0, none⟩ = some (.slice none 0 0) ∧ ((w.alloc (.cells #[.slice p x.length cap] 28)).alloc (.cells #[.slice none 0 0] 28)).frozen? ⟨w.heap.size + 1, 0, none⟩ = false := ⟨by simp, by simp⟩
  have z2 : ((w.alloc (.cells #[.slice p x.length cap] 28)).alloc (.cells #[.slice none 0 0] 28)).heap.size = w.heap.size + 2 := by simp
  have hst : CInv w ((w.alloc (.cells #[.slice p x.length cap] 28)).alloc (.cells #[.slice none 0 0] 28)) [] [] (.slice (some ⟨w.heap.size + 2, 0, none⟩) 0 0) (.slice none 0 0) ((((w.alloc (.cells #[.slice p x.length cap] 28)).alloc (.cells #[.slice none 0 0] 28)).alloc (.cells #[] 3)).alloc (.cells #[.slice none 0 0] 28)) := by
    generalize ((w.alloc (.cells #[.slice p x.length cap] 28)).alloc (.cells #[.slice none 0 0] 28)) = W2 at *
    refine ⟨(own_lit0 z2.symm (by omega)).alloc _, World.ownsRow_nil _ _ _ _, ?_, ((Below.refl _ _).alloc (by omega) _).alloc (by simp; omega) _, by simp; omega⟩
    have := heap_alloc_new (W2.alloc (.cells #[] 3)) (.cells #[.slice none 0 0] 28)
    have e : (W2.alloc (.cells #[] 3)).heap.size = w.heap.size + 3 := by simp; omega
    rw [e] at this
    exact this
  obtain ⟨W2, hW2⟩ : ∃ W, W = ((w.alloc (.cells #[.slice p x.length cap] 28)).alloc (.cells #[.slice none 0 0] 28)) := ⟨_, rfl⟩
  rw [← hW2] at hk2 bw2 r2 z2 hst
  go_enter Try.func20, Try.ntmps20
  go_wp2
  go_loopw [3, 13] (fun seen i wr => ∃ (k : Nat) (vo : Value), k ≤ x.length ∧ i = .int .i64 k ∧ CInv w W2 (putT canV [] (x.take k)).2 (putT canV [] (x.take k)).1 seen vo wr) (fun _ i _ => x.length - (intOf i).toNat)
  case atStart => exact ⟨0, _, Nat.zero_le _, rfl, by rw [hW2] at hst ⊢; exact hst⟩
  case round =>
    obtain ⟨k, vo, hk, rfl, hI⟩ := hrel
    generalize wr = wo at *
    clear hst hW2
    have holen : (putT canV [] (x.take k)).1.length = k := by rw [putT_len]; simp; omega
    by_cases hlt : k < x.length
    · obtain ⟨b, o, rfl, hbw, hc⟩ := hRf (by omega)
      have hKw : Kept w wo := Kept.of_below (bw2.trans (hI.bel.mono (by omega)))
      have ex := TyIEl.st w wo b _ _ hKw hbw (hc k hlt)
      have hbo : b < wo.heap.size := Nat.lt_of_lt_of_le hbw hKw.size
      have hsn := putT_snoc x k hlt
      have hva' := hva x[k] (List.getElem_mem hlt)
      have hslen : (putT canV [] (x.take k)).2.length ≤ k := by
        have := can_len (x.take k) []
        simp at this; omega
      clear hc hRf hR hR0 hva hxi hitems
      generalize x[k] = t at *
      obtain ⟨S, hS⟩ : ∃ S, S = (putT canV [] (x.take k)).2 := ⟨_, rfl⟩
      obtain ⟨O, hO⟩ : ∃ O, O = (putT canV [] (x.take k)).1 := ⟨_, rfl⟩
      rw [← hS, ← hO] at hI hsn
      rw [← hO] at holen
      rw [← hS] at hslen
      have HSN := Lib.hid hsn
      clear hS hO hsn
      obtain ⟨⟨e0, ii0⟩, ⟨e1, ii1⟩, ⟨e2, ii2⟩⟩ := ex
      have hsq : u3.ownBlock ≠ some wo.heap.size := fun e => by have := (hI.s.lt _ e).2; omega
      have hoq : vo.ownBlock ≠ some wo.heap.size := fun e => by have := (hI.o.lt _ e).2; omega
      have hwsz := hI.sz
      by_cases hn : t.name.toList = []
      · have hn1 : t.name.toList.isEmpty = true := by simp [hn]
        have har := hva' hn
        have HN := Lib.hid hn
        have HAR := Lib.hid har
        clear hn har hva'
        have hIx := hI.below ((Below.refl _ _).alloc (Nat.le_refl _) (.cells #[.int .i64 t.var, .string t.name, .int .i64 t.arity] 68))
        have hX : (wo.alloc (.cells #[.int .i64 t.var, .string t.name, .int .i64 t.arity] 68)).heap[wo.heap.size]? = some (.cells #[.int .i64 t.var, .string t.name, .int .i64 t.arity] 68 (0, 0)) := heap_alloc_new wo _
        have zi : wo.heap.size < (wo.alloc (.cells #[.int .i64 t.var, .string t.name, .int .i64 t.arity] 68)).heap.size := by simp
        obtain ⟨sa, sc, rfl, hsf⟩ := own_form hI.s
        go_wp2
        go_loopw [7] (fun at_ wr => ∃ a : Nat, a ≤ S.length ∧ at_ = .int .i64 a ∧ (∀ i (hi : i < S.length), i < a → S[i] ≠ t.var) ∧ Below (wo.alloc (.cells #[.int .i64 t.var, .string t.name, .int .i64 t.arity] 68)).heap.size (wo.alloc (.cells #[.int .i64 t.var, .string t.name, .int .i64 t.arity] 68)) wr) (fun a _ => S.length - (intOf a).toNat)
        case atStart => exact ⟨0, Nat.zero_le _, rfl, fun i hi h => absurd h (by omega), Below.refl _ _⟩
        case round =>
          obtain ⟨a, ha, rfl, hnot, hbz⟩ := hrel
          have HNot := Lib.hid hnot
          clear hnot
          have hXr := (hbz.block _ zi).trans hX
          obtain ⟨x0, x1, x2, xf⟩ := box3 hXr
          by_cases hal : a < S.length
          · obtain ⟨sg, rfl, hcs⟩ := hsf (by omega)
            have hsr := own_belowN hIx.s hbz
            have hcell : wr.cell? ⟨sg, a, none⟩ = some (.int .i64 S[a]) := by
              rw [hsr.cellAt a (by omega)]; exact ic_get S a hal
            have hal2 : (a : Int) < S.length := by omega
            have hal3 : decide ((a : Int) < (S.length : Int)) = true := decide_eq_true hal2
            have hal4 : ((a : Int) == (S.length : Int)) = false := by simp; omega
            have HF := Lib.hid (fun h => place_found hal h (fun i hi h => HNot.out i hi h))
            have HStep := Lib.hid (fun (h : S[a] ≠ t.var) i (hi : i < S.length) (h2 : i < a + 1) => (show S[i] ≠ t.var from if e : i = a then by subst e; exact h else HNot.out i hi (by omega)))
            clear hsf hcs hsr
            generalize S[a] = y at *
            by_cases hy : y = t.var
            · have hy1 : (y != t.var) = false := by simpa using hy
              have HP := Lib.hid (HF.out hy)
              clear hy
              go_wp2_with fail
              go_quiet (fail)
              have hDz := below_drewN hbz nq
              have hCz := hIx.below hDz
              have hXz := (hDz.block _ zi).trans hX
              generalize wr.drewN nq = wz at *
              obtain ⟨x0, x1, x2, xf⟩ := box3 hXz
              have hC2 := hCz.setX (u := .int .i64 a) (o := 0) hsq hoq hwsz
              obtain ⟨w0', w1', w2', wf'⟩ := box3 (box3_set (u := .int .i64 a) hXz)
              obtain ⟨w3', w4'⟩ := box_cell hC2.b
              clear x1 x2
              go_wp2_with (at_builtin; refine wpList_append_own _ rfl (.tmp 47) (.tmp 49) 26 rfl (w.heap.size + 2) 68 j0 (.agg #[.int .i64 0, .string ⟨#[]⟩, .int .i64 0]) 3 32 Try.underlying26 gi gz0 gz1 gz2 rfl (by decide) _ O.length (tyC O) rfl (hC2.o.alloc _) ⟨wz.heap.size, 0, none⟩ 1 1 [.int .i64 (a : Int), .string t.name, .int .i64 t.arity] rfl rfl (new_cells' _ _ _ _ (by rw [setCell_size]) rfl) (tyC_cell [(⟨(a : Int), t.name, t.arity⟩ : TyI)]) (by unfold maxLen; omega) (by omega) (by have := (hC2).sz; simp at this ⊢; omega) ?_; intro v2 w2 hown2 hgrow2 _; have O2 := own_app_items rfl rfl (l' := [(⟨(a : Int), t.name, t.arity⟩ : TyI)]) rfl rfl hown2; have hst := (hC2).tail hgrow2 O2; obtain ⟨y1, y2⟩ := (hC2).box2 hgrow2; have y3 : w2.cell? ⟨w.heap.size + 1 + 1 + 1, 0, none⟩ = some vo := y1; have y4 : w2.frozen? ⟨w.heap.size + 1 + 1 + 1, 0, none⟩ = false := y2; obtain ⟨a2, d2, rfl, -⟩ := own_form O2)
              go_roundw
              case rel => exact ⟨k + 1, _, by omega, by go_num, by rw [HSN.out, putT_one_yes S t HN.out]; dsimp only; rw [HP.out.1, show seeN S t.var = S from if_pos HP.out.2, show (⟨(a : Int), noName, 0⟩ : TyI) = ⟨(a : Int), t.name, t.arity⟩ from by rw [noName_of HN.out, HAR.out]]; rw [len_one O _ holen] at hst; exact hst⟩
              case measure => simp [intOf]; omega
            · have hy1 : (y != t.var) = true := by simpa using hy
              have HQ := Lib.hid (HStep.out hy)
              clear hy
              go_wp2_with fail
              go_quiet (fail)
              go_wp2
              go_roundw
              case rel => exact ⟨a + 1, by omega, by go_num, HQ.out, below_drewN hbz _⟩
              case measure => simp [intOf]; omega
          · obtain rfl : a = S.length := by omega
            have hal3 : decide ((S.length : Int) < (S.length : Int)) = false := by simp
            have HQ := Lib.hid (place_none (fun i hi h => HNot.out i hi h))
            go_wp2_with fail
            go_quiet (fail)
            have hDz := below_drewN hbz nq
            have hCz := hIx.below hDz
            have hXz := (hDz.block _ zi).trans hX
            have hqz : wo.heap.size < (wr.drewN nq).heap.size := Nat.lt_of_lt_of_le zi hDz.size
            generalize wr.drewN nq = wz at *
            obtain ⟨x0, x1, x2, xf⟩ := box3 hXz
            go_wp2_with (first
              | (at_builtin; refine wpList_append_own _ rfl (.tmp 39) (.tmp 42) 70 rfl (w.heap.size + 2) 3 i0 (.int .i64 0) 1 8 Try.underlying70 hi hz0 hz1 hz2 rfl (by decide) _ S.length (ic S) rfl (hCz.s.alloc _) ⟨wz.heap.size, 0, none⟩ 1 1 [.int .i64 t.var] rfl rfl (new_cells _ _ _ _ rfl) (ic_one [t.var]) (by unfold maxLen; omega) (by omega) (by have := hCz.sz; simp; omega) ?_; intro v1 w1 hown1 hgrow1 _; have O1 := own_app_ints rfl rfl (l' := [t.var]) rfl rfl hown1; have hC1 := hCz.see hgrow1 O1; have hX1 := ((hgrow1.block wo.heap.size (by simp; omega) (fun e => hsq e.symm)).trans (alloc_old wz _ wo.heap.size hqz)).trans hXz; have hsq1 := own_ne O1 hX1 (by decide); obtain ⟨r0, r1, r2', rf⟩ := box3 hX1; have hC2 := hC1.setX (u := .int .i64 (S.length : Int)) (o := 0) hsq1 hoq hwsz; obtain ⟨w0', w1', w2', wf'⟩ := box3 (box3_set (u := .int .i64 (S.length : Int)) hX1); obtain ⟨w3', w4'⟩ := box_cell hC2.b; clear r1 r2')
              | (at_builtin; refine wpList_append_own _ rfl (.tmp 47) (.tmp 49) 26 rfl (w.heap.size + 2) 68 j0 (.agg #[.int .i64 0, .string ⟨#[]⟩, .int .i64 0]) 3 32 Try.underlying26 gi gz0 gz1 gz2 rfl (by decide) _ O.length (tyC O) rfl (hC2.o.alloc _) ⟨w1.heap.size, 0, none⟩ 1 1 [.int .i64 (S.length : Int), .string t.name, .int .i64 t.arity] rfl rfl (new_cells' _ _ _ _ (by rw [setCell_size]) rfl) (tyC_cell [(⟨(S.length : Int), t.name, t.arity⟩ : TyI)]) (by unfold maxLen; omega) (by omega) (by have := (hC2).sz; simp at this ⊢; omega) ?_; intro v2 w2 hown2 hgrow2 _; have O2 := own_app_items rfl rfl (l' := [(⟨(S.length : Int), t.name, t.arity⟩ : TyI)]) rfl rfl hown2; have hst := (hC2).tail hgrow2 O2; obtain ⟨y1, y2⟩ := (hC2).box2 hgrow2; have y3 : w2.cell? ⟨w.heap.size + 1 + 1 + 1, 0, none⟩ = some vo := y1; have y4 : w2.frozen? ⟨w.heap.size + 1 + 1 + 1, 0, none⟩ = false := y2; obtain ⟨a2, d2, rfl, -⟩ := own_form O2))
            go_roundw
            case rel => exact ⟨k + 1, _, by omega, by go_num, by rw [HSN.out, putT_one_yes S t HN.out]; dsimp only; rw [place_not HQ.out, show seeN S t.var = S ++ [t.var] from if_neg HQ.out, show (⟨(S.length : Int), noName, 0⟩ : TyI) = ⟨(S.length : Int), t.name, t.arity⟩ from by rw [noName_of HN.out, HAR.out]]; rw [len_one O _ holen] at hst; exact hst⟩
            case measure => simp [intOf]; omega
      · have hn1 : t.name.toList.isEmpty = false := by simpa using hn
        have HN := Lib.hid hn
        clear hn
        have hIx := hI.below ((Below.refl _ _).alloc (Nat.le_refl _) (.cells #[.int .i64 t.var, .string t.name, .int .i64 t.arity] 68))
        obtain ⟨w3', w4'⟩ := box_cell hI.b
        have w5' : wo.cell? ⟨w.heap.size + 1 + 1 + 1, 0, none⟩ = some vo := w3'
        have hne3 : wo.heap.size ≠ w.heap.size + 1 + 1 + 1 := by omega
        have hne4 : wo.heap.size ≠ w.heap.size + 3 := by omega
        have hlt3 : w.heap.size + 1 + 1 + 1 < wo.heap.size := by omega
        have w6' : (wo.alloc (.cells #[.int .i64 t.var, .string t.name, .int .i64 t.arity] 68)).cell? ⟨w.heap.size + 1 + 1 + 1, 0, none⟩ = some vo := (box_cell hIx.b).1
        go_wp2_with (at_builtin; refine wpList_append_own _ rfl (.tmp 47) (.tmp 49) 26 rfl (w.heap.size + 2) 68 j0 (.agg #[.int .i64 0, .string ⟨#[]⟩, .int .i64 0]) 3 32 Try.underlying26 gi gz0 gz1 gz2 rfl (by decide) _ O.length (tyC O) rfl ((hI.o.alloc _).alloc _) ⟨wo.heap.size + 1, 0, none⟩ 1 1 [.int .i64 t.var, .string t.name, .int .i64 t.arity] rfl rfl (new_cells' _ _ _ _ (by simp) rfl) (tyC_cell [t]) (by unfold maxLen; omega) (by omega) (by have := (hIx).sz; simp at this ⊢; omega) ?_; intro v2 w2 hown2 hgrow2 _; have O2 := own_app_items rfl rfl (l' := [t]) rfl rfl hown2; have hst := (hIx).tail hgrow2 O2; obtain ⟨y1, y2⟩ := (hIx).box2 hgrow2; have y3 : w2.cell? ⟨w.heap.size + 1 + 1 + 1, 0, none⟩ = some vo := y1; have y4 : w2.frozen? ⟨w.heap.size + 1 + 1 + 1, 0, none⟩ = false := y2; obtain ⟨a2, d2, rfl, -⟩ := own_form O2)
        go_roundw
        case rel => exact ⟨k + 1, _, by omega, by go_num, by rw [HSN.out, putT_one_no S t HN.out]; dsimp only; rw [len_one O _ holen] at hst; exact hst⟩
        case measure => simp [intOf]; omega
    · obtain rfl : k = x.length := by omega
      rw [List.take_length] at hI
      obtain ⟨q1, q2⟩ := box_cell hI.b
      obtain ⟨a5, d5, rfl, -⟩ := own_form hI.o
      have q3 := (hI.bel.cell (p := ⟨w.heap.size + 1, 0, none⟩) (by show w.heap.size + 1 < _; omega)).trans r2.1
      have q4 := (hI.bel.frozen (p := ⟨w.heap.size + 1, 0, none⟩) (by show w.heap.size + 1 < _; omega)).trans r2.2
      have HI := Lib.hid hI
      clear hI
      go_wp2
      obtain ⟨F5, hF5, hlo5, hnd5⟩ := own_items HI.out.o hitems
      refine bodyPost_ret (v := .agg #[.slice a5 (putT canV [] x).1.length d5]) (by simp [results, Try.results20, go_sem, q3]) rfl ⟨_, F5, rfl, hF5.set TyIOwn.loc TyIOwn.sized _ _ (fun e => by have := hlo5 _ e; omega), fun g hg => by have := hlo5 g hg; omega, hnd5, (bw2.trans (HI.out.bel.mono (by omega))).setCell (Nat.le_succ _) _⟩
end Go.Proofs.Ytciohamonmmciaa
