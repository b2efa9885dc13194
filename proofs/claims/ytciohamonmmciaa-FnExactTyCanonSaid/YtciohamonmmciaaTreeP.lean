/- The program's trees: the items of a tree, and what is put for its variables. -/
import Derived.Test.YtciohamonmmciaaTree
import Derived.Test.YtciohamonmmciaaOwnRow
import Derived.Test.YtciohamonmmciaaTo
namespace Go.Proofs.Ytciohamonmmciaa
set_option linter.unusedVariables false
set_option maxRecDepth 100000
open Go.ChangeShapes Go.WideShapes Go.ChangeAt Go.RowKit

theorem iTreeOfTy (x : List TyI) (v : Value) (w : World) (hR : RowRd 3 TyIEl w v x) (ht : IsTr x) (hl : x.length ≤ 1048576) :
    Calls Try.prog 25 #[.agg #[v]] w fun e w' => ∃ u, e = .returned u ∧ TreeRd (fun k => w.heap.size ≤ k) w' u x ∧ Below w.heap.size w w' := by
  obtain ⟨p, cap, rfl, _, _⟩ := hR.form
  have hc := fun T => iFirst ht [] _ w (w.alloc (.cells #[.slice p x.length cap] T)) hl (by rw [List.append_nil]; exact hR) (Kept.alloc _ _)
  go_enter Try.func25, Try.ntmps25
  go_wp2_with fail
  refine (hc _).mono ?_
  rintro e w1 ⟨u, v', rfl, h1, h2, hb1⟩
  obtain ⟨Tu, xu, rfl⟩ := h1.shape
  go_wp2
  go_ret
  exact ⟨_, rfl, h1.same (fun k hk _ => ⟨by simp at hk; omega, rfl⟩) (Nat.le_refl _), below_tr (Joins.below_alloc1 w _) hb1⟩
theorem tree_cases {A : Nat → Prop} {w : World} {u : Value} {t : List TyI} (h : TreeRd A w u t) : (∃ n, u = .iface 77 (.int .i64 n)) ∨ (∃ s v, u = .iface 97 (.agg #[.string s, v])) := by
  cases h
  · exact .inl ⟨_, rfl⟩
  · exact .inr ⟨_, _, rfl⟩
theorem info_item : (Try.prog.info? 68).map (fun i => (i.zero, i.size, i.bytes)) = some (some (.agg #[.int .i64 0, .string ⟨#[]⟩, .int .i64 0]), 3, 32) := by kernel_rfl
theorem tyC_app (l m : List TyI) : tyC (l ++ m) = tyC l ++ tyC m := by simp [tyC]
theorem tyC_one (x : TyI) : tyC [x] = [.int .i64 x.var, .string x.name, .int .i64 x.arity] := by simp [tyC]
theorem tyC_cell (l : List TyI) : ∀ u ∈ tyC l, u.oneCell' = true := by
  intro u hu
  simp only [tyC, List.mem_flatMap] at hu
  obtain ⟨x, _, hx⟩ := hu
  simp at hx
  rcases hx with rfl | rfl | rfl <;> rfl
theorem own_app_items {B e m : Nat} {w1 : World} {v' : Value} {l l' : List TyI} {n : Nat} {xs news : List Value} (hn : n = l.length) (hxs : xs = tyC l) (hnews : news = tyC l') (hm : m = l'.length) (hown' : w1.ownsRow B e 3 v' (n + m) (xs ++ news)) :
    w1.ownsRow B e 3 v' (l ++ l').length (tyC (l ++ l')) := by
  subst hn hxs hnews hm; rw [tyC_app, List.length_append]; exact hown'
theorem own_app3 {B B0 e n : Nat} {w wr w1 : World} {v : Value} {xs : List Value} {C : Array Value} {T : TypeId} (hown : wr.ownsRow B e 3 v n xs) (hbel : Below B0 w wr) (h0 : B0 ≤ B) (hBs : B ≤ wr.heap.size)
    (hgrow : (wr.alloc (.cells C T)).grownBy w1 v.ownBlock) : Below B0 w w1 ∧ B ≤ w1.heap.size := by
  have hb2 : Below B0 w (wr.alloc (.cells C T)) := hbel.alloc (by omega) _
  refine ⟨hb2.grown hgrow (by simp; omega) (fun k hk => by have := (hown.lt k hk).1; omega), ?_⟩
  have := hgrow.size; simp at this; omega
theorem own_belowN {B e n m : Nat} {wr w1 : World} {v : Value} {xs : List Value} (h : wr.ownsRow B e m v n xs) (hb : Below wr.heap.size wr w1) : w1.ownsRow B e m v n xs := by
  obtain ⟨h0, h1 | ⟨g, cap, cur, rfl, h1, h2, h3, h4, h5, h6⟩⟩ := h
  · exact ⟨h0, .inl h1⟩
  · refine ⟨h0, .inr ⟨g, cap, cur, rfl, h1, ?_, h3, h4, h5, h6⟩⟩
    rw [hb.block g (by have := (Array.getElem?_eq_some_iff.1 h2).1; exact this)]; exact h2
theorem RowV.form {A : Nat → Prop} {w : World} {v : Value} {us : List Value} (h : RowV A w v us) : ∃ a cap, v = .slice a us.length cap ∧ (0 < us.length → ∃ b o, a = some ⟨b, o, none⟩ ∧ A b ∧ b < w.heap.size ∧ ∀ i (h : i < us.length), w.cell? ⟨b, o + i, none⟩ = some us[i]) := by
  rcases h with ⟨rfl, a, cap, rfl⟩ | ⟨b, o, cap, h1, h2, h3, h4, h5, h6⟩
  · exact ⟨a, cap, rfl, fun h => absurd h (by simp)⟩
  · exact ⟨_, cap, h1, fun _ => ⟨b, o, rfl, h3, h4, h6⟩⟩
theorem flat_len (ls : List (List TyI)) (h : ∀ t ∈ ls, IsTr t) : ls.length ≤ ls.flatten.length := by
  induction ls with
  | nil => simp
  | cons t ls ih =>
    have h1 := (h t (by simp)).pos
    have h2 := ih fun t ht => h t (by simp [ht])
    rw [List.flatten_cons, List.length_append, List.length_cons]
    omega
theorem flat_take (ls : List (List TyI)) (j : Nat) (h : j < ls.length) : (ls.take j).flatten.length + ls[j].length ≤ ls.flatten.length := by
  have e : ls.flatten = (ls.take j).flatten ++ (ls[j] ++ (ls.drop (j + 1)).flatten) := by
    rw [← List.flatten_cons, ← List.drop_eq_getElem_cons h, ← List.flatten_append, List.take_append_drop]
  rw [e]; simp only [List.length_append]; omega
def ItemsPost (B : Nat) (L : List TyI) (w : World) (e : Ending) (w' : World) : Prop :=
  ∃ v', e = .returned v' ∧ w'.ownsRow B 68 3 v' L.length (tyC L) ∧ Below B w w' ∧ B ≤ w'.heap.size
/-- The method items of a tree. -/
def CallItems (u v : Value) (w : World) (Q : Ending → World → Prop) : Prop := match u with
  | .iface T x => Calls Try.prog (if T = 77 then 93 else 95) #[x, v] w Q
  | _ => False
theorem iVarItem (n : Int) (w : World) : Calls Try.prog 92 #[.int .i64 n] w fun e w' => e = .returned (.agg #[.int .i64 n, .string noName, .int .i64 0]) ∧ Below w.heap.size w w' := by
  go_enter Try.func92, Try.ntmps92
  go_wp2
  refine bodyPost_ret (v := .agg #[.int .i64 n, .string noName, .int .i64 0]) (by simp [results, Try.results92, go_sem, noName]) rfl ⟨rfl, ?_⟩
  exact Joins.below_alloc1 w _
theorem iItems_var (n : Int) (L : List TyI) (v : Value) (B : Nat) (w : World) (hO : w.ownsRow B 68 3 v L.length (tyC L)) (hl : L.length ≤ 1073741824) (hB : B ≤ w.heap.size) :
    Calls Try.prog 93 #[.int .i64 n, v] w (ItemsPost B (L ++ [⟨n, noName, 0⟩]) w) := by
  obtain ⟨i0, hi, hz0, hz1, hz2⟩ := info_parts info_item
  go_enter Try.func93, Try.ntmps93
  go_wp2_with fail
  refine (iVarItem n _).mono ?_
  rintro e w1 ⟨rfl, hb1⟩
  have hO1 := own_belowN hO hb1
  go_wp2_with (at_builtin; refine wpList_append_own _ rfl (.tmp 5) (.tmp 8) 26 rfl B 68 i0 (.agg #[.int .i64 0, .string ⟨#[]⟩, .int .i64 0]) 3 32 Try.underlying26 hi hz0 hz1 hz2 rfl (by decide) _ L.length (tyC L) rfl (hO1.alloc _) ⟨w1.heap.size, 0, none⟩ 1 1 [.int .i64 n, .string noName, .int .i64 0] rfl rfl (new_cells _ _ _ _ rfl) (tyC_cell [⟨n, noName, 0⟩]) (by unfold maxLen; omega) (by omega) (by have := hb1.size; simp; omega) ?_; intro v2 w2 hown2 hgrow2 _; have R2 := own_app3 hO1 (hb1.mono hB) (Nat.le_refl _) (by have := hb1.size; omega) hgrow2; have O2 := own_app_items rfl rfl (l' := [⟨n, noName, 0⟩]) rfl rfl hown2)
  go_ret
  exact ⟨_, rfl, O2, R2.1, R2.2⟩
theorem m_items_var (n : Int) (w : World) : (method 227 77 (.int .i64 n) "loop.example/g00395/impl.items").run Try.prog w = .ok (93, .int .i64 n) w := by kernel_rfl
theorem m_items_con (s : ByteArray) (v : Value) (w : World) : (method 227 97 (.agg #[.string s, v]) "loop.example/g00395/impl.items").run Try.prog w = .ok (95, .agg #[.string s, v]) w := by kernel_rfl
set_option maxHeartbeats 1000000 in
theorem iItems {A : Nat → Prop} {w0 : World} {u : Value} {t : List TyI} (h : TreeRd A w0 u t) : ∀ (L : List TyI) (v : Value) (B : Nat) (w : World), (∀ k, A k → k < w0.heap.size → k < B ∧ w.heap[k]? = w0.heap[k]?) →
    w.ownsRow B 68 3 v L.length (tyC L) → L.length + t.length ≤ 1073741824 → B ≤ w.heap.size → CallItems u v w (ItemsPost B (L ++ t) w) := by
  induction h with
  | var n hn => intro L v B w _ hO hl hB; exact iItems_var n L v B w hO (by omega) hB
  | con s v0 us ls hs hm hlen hv hsub ih =>
    intro L v B w hA hO hl hB
    obtain ⟨i0, hi, hz0, hz1, hz2⟩ := info_parts info_item
    obtain ⟨a0, cap0, rfl, hcells⟩ := hv.form
    show Calls Try.prog 95 #[.agg #[.string s, .slice a0 us.length cap0], v] w (ItemsPost B (L ++ (⟨0, s, ls.length⟩ :: ls.flatten)) w)
    simp only [List.length_cons] at hl
    have hll : us.length ≤ 1073741824 := by
      have := flat_len ls fun t ht => by
        obtain ⟨i, hi, rfl⟩ := List.getElem_of_mem ht
        exact (hsub i (by omega) hi).form
      omega
    have hne : some w.heap.size ≠ v.ownBlock := fun e => by have := (hO.lt _ e.symm).2; omega
    rw [← hlen]
    have HLn := Lib.hid hlen
    clear hlen
    go_enter Try.func95, Try.ntmps95
    go_wp2_with (at_builtin; refine wpList_append_own _ rfl (.tmp 8) (.tmp 15) 26 rfl B 68 i0 (.agg #[.int .i64 0, .string ⟨#[]⟩, .int .i64 0]) 3 32 Try.underlying26 hi hz0 hz1 hz2 rfl (by decide) _ L.length (tyC L) rfl ((hO.alloc _).alloc _) ⟨w.heap.size + 1, 0, none⟩ 1 1 [.int .i64 0, .string s, .int .i64 (us.length : Int)] rfl rfl (new_cells' _ _ _ _ (by simp) rfl) (tyC_cell [⟨0, s, us.length⟩]) (by unfold maxLen; omega) (by omega) (by simp; omega) ?_; intro v2 w2 hown2 hgrow2 _; have R2 := own_app3 (hO.alloc _) ((Below.refl _ _).alloc hB _) (Nat.le_refl _) (by simp; omega) hgrow2; have O2 := own_app_items rfl rfl (l' := [⟨0, s, us.length⟩]) rfl rfl hown2; have q1 : w2.cell? ⟨w.heap.size, 1, none⟩ = some (.slice a0 us.length cap0) := (World.cell?_of_block (a := ⟨w.heap.size, 1, none⟩) (hgrow2.block w.heap.size (by simp <;> omega) hne)).trans (by simp))
    clear hown2 hgrow2 hO hne
    go_loopw [5, 20] (fun out i wr => ∃ j : Nat, i = .int .i64 j ∧ j ≤ us.length ∧ wr.ownsRow B 68 3 out (L ++ [(⟨0, s, us.length⟩ : TyI)] ++ (ls.take j).flatten).length (tyC (L ++ [(⟨0, s, us.length⟩ : TyI)] ++ (ls.take j).flatten)) ∧ Below B w wr ∧ B ≤ wr.heap.size) (fun _ i _ => us.length - (intOf i).toNat)
    case atStart => exact ⟨0, rfl, Nat.zero_le _, by rw [List.take_zero, List.flatten_nil, List.append_nil]; exact O2, R2.1, R2.2⟩
    case round =>
      obtain ⟨j, rfl, hj, hown, hbel, hBs⟩ := hrel
      clear O2 R2 q1
      by_cases hlt : j < us.length
      · have hl2 : j < ls.length := by have := HLn.out; omega
        obtain ⟨b, o, rfl, hAb, hbw, hc⟩ := hcells (by omega)
        obtain ⟨hbB, hbk⟩ := hA b hAb hbw
        have hcell : wr.cell? ⟨b, o + j, none⟩ = some us[j] := ((World.cell?_of_block (a := ⟨b, o + j, none⟩) (hbel.block b hbB)).trans (World.cell?_of_block (a := ⟨b, o + j, none⟩) hbk)).trans (hc j hlt)
        have hA' : ∀ k, A k → k < w0.heap.size → k < B ∧ wr.heap[k]? = w0.heap[k]? := fun k h1 h2 => ⟨(hA k h1 h2).1, (hbel.block k (hA k h1 h2).1).trans (hA k h1 h2).2⟩
        have hlen2 : (L ++ [(⟨0, s, us.length⟩ : TyI)] ++ (ls.take j).flatten).length + ls[j].length ≤ 1073741824 := by
          have := flat_take ls j hl2
          simp only [List.length_append, List.length_cons, List.length_nil]
          omega
        have hcall := ih j hlt hl2 (L ++ [(⟨0, s, us.length⟩ : TyI)] ++ (ls.take j).flatten) u5 B wr hA' hown hlen2 hBs
        have htk : (ls.take (j + 1)).flatten = (ls.take j).flatten ++ ls[j] := by rw [List.take_succ_eq_append_getElem hl2, List.flatten_append]; simp
        have HTK := Lib.hid htk
        rcases tree_cases (hsub j hlt hl2) with ⟨n, hu⟩ | ⟨s', v', hu⟩
        · rw [hu] at hcell hcall
          have hcall : Calls Try.prog 93 #[.int .i64 n, u5] wr (ItemsPost B (L ++ [(⟨0, s, us.length⟩ : TyI)] ++ (ls.take j).flatten ++ ls[j]) wr) := hcall
          have hmm := m_items_var n
          clear htk hu hcells hc ih hsub
          go_wp2_with (go_at_call 93; refine hcall.mono ?_; rintro e w3 ⟨v3, rfl, hown3, hbel3, hBs3⟩)
          go_roundw
          case rel => exact ⟨j + 1, by go_num, by omega, by rw [HTK.out, ← List.append_assoc]; exact hown3, hbel.trans hbel3, hBs3⟩
          case measure => simp [intOf]; omega
        · rw [hu] at hcell hcall
          have hcall : Calls Try.prog 95 #[.agg #[.string s', v'], u5] wr (ItemsPost B (L ++ [(⟨0, s, us.length⟩ : TyI)] ++ (ls.take j).flatten ++ ls[j]) wr) := hcall
          have hmm := m_items_con s' v'
          clear htk hu hcells hc ih hsub
          go_wp2_with (go_at_call 95; refine hcall.mono ?_; rintro e w3 ⟨v3, rfl, hown3, hbel3, hBs3⟩)
          go_roundw
          case rel => exact ⟨j + 1, by go_num, by omega, by rw [HTK.out, ← List.append_assoc]; exact hown3, hbel.trans hbel3, hBs3⟩
          case measure => simp [intOf]; omega
      · obtain rfl : j = us.length := by omega
        rw [show ls.take us.length = ls from List.take_of_length_le (by have := HLn.out; omega)] at hown
        go_wp2
        go_ret
        refine ⟨_, rfl, ?_, hbel, hBs⟩
        rw [List.append_assoc] at hown
        exact hown
theorem IsTr.items {t : List TyI} (h : IsTr t) (hl : t.length ≤ 1073741824) : ∀ x ∈ t, I64 x.var ∧ x.name.size ≤ maxLen ∧ I64 x.arity := by
  induction h with
  | var n h => intro x hx; simp at hx; subst hx; exact ⟨h, by show noName.size ≤ maxLen; decide, i64_nat 0 (by omega)⟩
  | con s ls hs hm htr ih =>
    intro x hx
    simp only [List.length_cons] at hl
    rcases List.mem_cons.1 hx with rfl | hx
    · have := flat_len ls htr
      exact ⟨i64_nat 0 (by omega), hm, i64_nat ls.length (by omega)⟩
    · obtain ⟨t, ht, hx⟩ := List.mem_flatten.1 hx
      have := flat_mem ls t ht
      exact ih t ht (by omega) x hx
theorem iTyOfTree {A : Nat → Prop} {w0 : World} {u : Value} {t : List TyI} (h : TreeRd A w0 u t) (w : World) (hA : ∀ k, A k → k < w0.heap.size → k < w.heap.size ∧ w.heap[k]? = w0.heap[k]?) (hl : t.length ≤ 1073741824) :
    Calls Try.prog 23 #[u] w (ToTyPost t w) := by
  have hitems := h.form.items hl
  have key : ∀ W, Below w.heap.size w W → w.heap.size < W.heap.size → CallItems u (.slice none 0 0) W (ItemsPost W.heap.size t W) := fun W hB hlt =>
    iItems h [] (.slice none 0 0) W.heap.size W (fun k h1 h2 => ⟨by have := (hA k h1 h2).1; omega, (hB.block k (hA k h1 h2).1).trans (hA k h1 h2).2⟩) (World.ownsRow_nil _ _ _ _) (by simpa using hl) (Nat.le_refl _)
  rcases tree_cases h with ⟨n, rfl⟩ | ⟨s, v, rfl⟩
  · have hcall : ∀ W, Below w.heap.size w W → w.heap.size < W.heap.size → Calls Try.prog 93 #[.int .i64 n, .slice none 0 0] W (ItemsPost W.heap.size t W) := key
    have hmm := m_items_var n
    clear key
    go_enter Try.func23, Try.ntmps23
    go_wp2_with (go_at_call 93; refine (hcall _ (Joins.below_alloc1 w _) (by simp)).mono ?_; rintro e w3 ⟨v3, rfl, hown3, hbel3, hBs3⟩; have q0 : w3.cell? ⟨w.heap.size, 0, none⟩ = some (.slice none 0 0) := (hbel3.cell (p := ⟨w.heap.size, 0, none⟩) (by simp)).trans (by simp); have f0 : w3.frozen? ⟨w.heap.size, 0, none⟩ = false := (hbel3.frozen (p := ⟨w.heap.size, 0, none⟩) (by simp)).trans (by simp); obtain ⟨F3, hF3, hlo3, hnd3⟩ := own_items hown3 hitems; obtain ⟨a3, c3, e3, _, _⟩ := (hF3.reads TyIOwn.reads).form; subst e3)
    have hs3 : w.heap.size + 1 ≤ w3.heap.size := by simpa using hBs3
    have hb3 : Below w.heap.size w w3 := below_tr (Joins.below_alloc1 w _) hbel3
    have hlo4 : ∀ g ∈ F3, w.heap.size + 1 ≤ g := fun g hg => by have := hlo3 g hg; simpa using this
    refine bodyPost_ret (v := .agg #[.slice a3 t.length c3]) (by simp [results, Try.results23, go_sem, q0]) rfl ⟨_, F3, rfl, hF3.set TyIOwn.loc TyIOwn.sized _ _ (fun e => by have := hlo4 _ e; omega), fun g hg => by have := hlo4 g hg; omega, hnd3, hb3.setCell (Nat.le_refl _) _⟩
  · have hcall : ∀ W, Below w.heap.size w W → w.heap.size < W.heap.size → Calls Try.prog 95 #[.agg #[.string s, v], .slice none 0 0] W (ItemsPost W.heap.size t W) := key
    have hmm := m_items_con s v
    clear key
    go_enter Try.func23, Try.ntmps23
    go_wp2_with (go_at_call 95; refine (hcall _ (Joins.below_alloc1 w _) (by simp)).mono ?_; rintro e w3 ⟨v3, rfl, hown3, hbel3, hBs3⟩; have q0 : w3.cell? ⟨w.heap.size, 0, none⟩ = some (.slice none 0 0) := (hbel3.cell (p := ⟨w.heap.size, 0, none⟩) (by simp)).trans (by simp); have f0 : w3.frozen? ⟨w.heap.size, 0, none⟩ = false := (hbel3.frozen (p := ⟨w.heap.size, 0, none⟩) (by simp)).trans (by simp); obtain ⟨F3, hF3, hlo3, hnd3⟩ := own_items hown3 hitems; obtain ⟨a3, c3, e3, _, _⟩ := (hF3.reads TyIOwn.reads).form; subst e3)
    have hs3 : w.heap.size + 1 ≤ w3.heap.size := by simpa using hBs3
    have hb3 : Below w.heap.size w w3 := below_tr (Joins.below_alloc1 w _) hbel3
    have hlo4 : ∀ g ∈ F3, w.heap.size + 1 ≤ g := fun g hg => by have := hlo3 g hg; simpa using this
    refine bodyPost_ret (v := .agg #[.slice a3 t.length c3]) (by simp [results, Try.results23, go_sem, q0]) rfl ⟨_, F3, rfl, hF3.set TyIOwn.loc TyIOwn.sized _ _ (fun e => by have := hlo4 _ e; omega), fun g hg => by have := hlo4 g hg; omega, hnd3, hb3.setCell (Nat.le_refl _) _⟩
end Go.Proofs.Ytciohamonmmciaa
