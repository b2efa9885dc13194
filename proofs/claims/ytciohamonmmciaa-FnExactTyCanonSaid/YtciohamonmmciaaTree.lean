/- The program's trees of types in memory; a tree out of its items. -/
import Derived.Test.YtciohamonmmciaaTrMath
import Derived.Test.YtciohamonmmciaaOkW3
import Derived.Test.YtciohamonmmciaaTake
import Derived.RegionTactic
import Derived.Deep.RegionHeld3
import Derived.Deep.RegionWith
import Derived.Outline
namespace Go.Proofs.Ytciohamonmmciaa
set_option linter.unusedVariables false
set_option maxRecDepth 100000
open Go.ChangeShapes Go.WideShapes Go.ChangeAt Go.RowKit

/-- A slice that holds these values, its block one of A. -/
def RowV (A : Nat → Prop) (w : World) (v : Value) (us : List Value) : Prop :=
  (us = [] ∧ ∃ a cap, v = .slice a 0 cap) ∨ ∃ b o cap, v = .slice (some ⟨b, o, none⟩) us.length cap ∧ us.length ≤ maxLen ∧ A b ∧ b < w.heap.size ∧ 0 < us.length ∧ ∀ i (h : i < us.length), w.cell? ⟨b, o + i, none⟩ = some us[i]
/-- A value that reads as the tree of these items, its blocks of A. -/
inductive TreeRd (A : Nat → Prop) (w : World) : Value → List TyI → Prop
  | var (n : Int) (h : I64 n) : TreeRd A w (.iface 77 (.int .i64 n)) [⟨n, noName, 0⟩]
  | con (s : ByteArray) (v : Value) (us : List Value) (ls : List (List TyI)) (hs : s.toList ≠ []) (hm : s.size ≤ maxLen) (hl : us.length = ls.length) (hv : RowV A w v us) (h : ∀ i (h1 : i < us.length) (h2 : i < ls.length), TreeRd A w us[i] ls[i]) :
      TreeRd A w (.iface 97 (.agg #[.string s, v])) (⟨0, s, ls.length⟩ :: ls.flatten)
theorem RowV.same {A A' : Nat → Prop} {w w' : World} {v : Value} {us : List Value} (h : RowV A w v us) (hk : ∀ k, A k → k < w.heap.size → A' k ∧ w'.heap[k]? = w.heap[k]?) (hs : w.heap.size ≤ w'.heap.size) : RowV A' w' v us := by
  rcases h with h | ⟨b, o, cap, h1, h2, h3, h4, h5, h6⟩
  · exact .inl h
  · obtain ⟨k1, k2⟩ := hk b h3 h4
    exact .inr ⟨b, o, cap, h1, h2, k1, Nat.lt_of_lt_of_le h4 hs, h5, fun i hi => (World.cell?_of_block (a := ⟨b, o + i, none⟩) k2).trans (h6 i hi)⟩
theorem TreeRd.same {A A' : Nat → Prop} {w w' : World} {v : Value} {t : List TyI} (h : TreeRd A w v t) (hk : ∀ k, A k → k < w.heap.size → A' k ∧ w'.heap[k]? = w.heap[k]?) (hs : w.heap.size ≤ w'.heap.size) : TreeRd A' w' v t := by
  induction h with
  | var n h => exact .var n h
  | con s v us ls h1 h2 h3 h4 h5 ih => exact .con s v us ls h1 h2 h3 (h4.same hk hs) ih
theorem TreeRd.kept {A : Nat → Prop} {w w' : World} {v : Value} {t : List TyI} (h : TreeRd A w v t) (hb : Below w.heap.size w w') : TreeRd A w' v t := h.same (fun k ha hk => ⟨ha, hb.block k hk⟩) hb.size
theorem TreeRd.shape {A : Nat → Prop} {w : World} {v : Value} {t : List TyI} (h : TreeRd A w v t) : ∃ T x, v = .iface T x := by
  cases h <;> exact ⟨_, _, rfl⟩
theorem TreeRd.form {A : Nat → Prop} {w : World} {v : Value} {t : List TyI} (h : TreeRd A w v t) : IsTr t := by
  induction h with
  | var n h => exact .var n h
  | con s v us ls h1 h2 h3 h4 h5 ih =>
    refine .con s ls h1 h2 fun t ht => ?_
    obtain ⟨i, hi, rfl⟩ := List.getElem_of_mem ht
    exact ih i (by omega) hi
theorem flat_mem (ls : List (List TyI)) (t : List TyI) (h : t ∈ ls) : t.length ≤ ls.flatten.length := by
  induction ls with
  | nil => simp at h
  | cons x ls ih =>
    rw [List.flatten_cons, List.length_append]
    rcases List.mem_cons.1 h with rfl | h
    · omega
    · have := ih h; omega
/-- What is behind the first item. -/
theorem RowRd.tail {w : World} {b o cap : Nat} {x : TyI} {l : List TyI} (h : RowRd 3 TyIEl w (.slice (some ⟨b, o, none⟩) (l.length + 1) cap) (x :: l)) : RowRd 3 TyIEl w (.slice (if cap = 1 then some ⟨b, o, none⟩ else some ⟨b, o + 3, none⟩) l.length (cap - 1)) l := by
  by_cases h0 : 0 < l.length
  · have hcap := h.cap (by simp)
    simp only [List.length_cons] at hcap
    rw [if_neg (by omega)]
    obtain ⟨a, cap', e, hm, hR⟩ := h.form
    obtain ⟨b', o', e2, hb, hc⟩ := hR (by simp)
    cases e
    cases e2
    refine RowRd.mk (by simp at hm; omega) (by omega) fun h0 => ⟨b, o + 3, rfl, hb, fun i hi => ?_⟩
    have := hc (i + 1) (by simp; omega)
    simp only [List.getElem_cons_succ] at this
    rw [show o + 3 + i * 3 = o + (i + 1) * 3 from by omega]
    exact this
  · obtain rfl : l = [] := List.eq_nil_of_length_eq_zero (by omega)
    exact .inl ⟨rfl, _, _, rfl⟩
def FirstPost (t r : List TyI) (w0 w : World) (e : Ending) (w' : World) : Prop :=
  ∃ u v', e = .returned (.tuple #[u, v']) ∧ TreeRd (fun k => w.heap.size ≤ k) w' u t ∧ RowRd 3 TyIEl w0 v' r ∧ Below w.heap.size w w'
theorem iFirst_var (n : Int) (hn : I64 n) (r : List TyI) (v : Value) (w0 w : World) (hR : RowRd 3 TyIEl w0 v (⟨n, noName, 0⟩ :: r)) (hK : Kept w0 w) : Calls Try.prog 45 #[v] w (FirstPost [⟨n, noName, 0⟩] r w0 w) := by
  obtain ⟨a, cap, rfl, hm, hRf⟩ := hR.form
  obtain ⟨b, o, rfl, hb0, hc⟩ := hRf (by simp)
  have ex := TyIEl.st w0 w b _ _ hK hb0 (hc 0 (by simp))
  obtain ⟨⟨e0, i0⟩, ⟨e1, i1⟩, ⟨e2, i2⟩⟩ := ex
  simp only [List.getElem_cons_zero, Nat.zero_mul, Nat.add_zero] at e0 e1 e2
  have hT := Lib.hid (RowRd.tail hR)
  unfold maxLen at hm
  simp only [List.length_cons] at hm ⊢
  have hb : b < w.heap.size := Nat.lt_of_lt_of_le hb0 hK.size
  have h1 : (0 : Int) < (r.length : Int) + 1 := by omega
  have h2 : (1 : Int) ≤ (r.length : Int) + 1 := by omega
  have h3 : (0 : Int) < ((r.length + 1 : Nat) : Int) := by omega
  have h4 : (1 : Int) ≤ ((r.length + 1 : Nat) : Int) := by omega
  have hn1 : noName.toList.isEmpty = true := by rw [toList_data]; rfl
  clear hc hRf hR
  go_enter Try.func45, Try.ntmps45
  go_wp2
  go_region
  generalize (if cap = 1 then some (⟨b, o, none⟩ : Addr) else some ⟨b, o + 3, none⟩) = a' at *
  go_wp2
  go_ret2
  exact ⟨_, _, rfl, .var n hn, hT.out, (Joins.below_alloc1 w _).drew⟩
def ValOwn : OwnRd Value := fun w b o x F => F = [] ∧ w.cell? ⟨b, o, none⟩ = some x
theorem make_trees (W : World) (n : Nat) (hn : n ≤ 1048576) : ∃ W0, (Instr.makeSlice 95 (.int .i64 (n : Int)) (.int .i64 (n : Int))).run Try.prog W = .ok (.slice (some ⟨W.heap.size, 0, none⟩) n n) W0 ∧
    W.heap.size < W0.heap.size ∧ (∀ i, W0.frozen? ⟨W.heap.size, i, none⟩ = false) ∧ (∀ i, i < n → ∃ u, W0.cell? ⟨W.heap.size, i, none⟩ = some u) ∧ Below W.heap.size W W0 := by
  obtain ⟨W0, hr, hT⟩ := make_t (P := Try.prog) (E := ValOwn) W 95 48 .nilIface 1 16 (List.replicate n .nilIface) Try.underlying95 (by kernel_rfl) (by simpa using hn) (by decide) (by decide)
  simp only [List.length_replicate] at hr
  exact ⟨W0, hr, hT.lt, hT.fr, fun i hi => hT.all i (by simpa using hi), hT.bel⟩
/-- Where the loop stands that gathers the arguments. -/
structure FInv (ls : List (List TyI)) (r : List TyI) (w0 wb : World) (g : Nat) (rest : Value) (us : List Value) (j : Nat) (wr : World) : Prop where
  len : us.length = j
  row : RowRd 3 TyIEl w0 rest ((ls.drop j).flatten ++ r)
  done : ∀ k (hk : k < us.length) (h2 : k < ls.length), wr.cell? ⟨g, k, none⟩ = some us[k] ∧ TreeRd (fun q => g < q) wr us[k] ls[k]
  all : ∀ k, k < ls.length → ∃ u, wr.cell? ⟨g, k, none⟩ = some u
  fr : ∀ k, wr.frozen? ⟨g, k, none⟩ = false
  lt : g < wr.heap.size
  bel : Below wb.heap.size wb wr
theorem FInv.step {ls : List (List TyI)} {r : List TyI} {w0 wb wr w1 : World} {g j : Nat} {rest v' u : Value} {us : List Value} (h : FInv ls r w0 wb g rest us j wr) (hj : j < ls.length) (hg : wb.heap.size ≤ g)
    (hb : Below wr.heap.size wr w1) (ht : TreeRd (fun k => wr.heap.size ≤ k) w1 u ls[j]) (hr : RowRd 3 TyIEl w0 v' ((ls.drop (j + 1)).flatten ++ r)) :
    FInv ls r w0 wb g v' (us ++ [u]) (j + 1) (w1.setCell ⟨g, j, none⟩ u) := by
  have hlt1 : g < w1.heap.size := Nat.lt_of_lt_of_le h.lt hb.size
  have hex : ∀ k, k < ls.length → ∃ y, w1.cell? ⟨g, k, none⟩ = some y := fun k hk => by obtain ⟨y, hy⟩ := h.all k hk; exact ⟨y, (hb.cell (p := ⟨g, k, none⟩) h.lt).trans hy⟩
  have hset : (w1.setCell ⟨g, j, none⟩ u).cell? ⟨g, j, none⟩ = some u := by obtain ⟨y, hy⟩ := hex j hj; exact World.cell?_setCell_same _ _ _ hy
  have hlen := h.len
  have hup : ∀ k, g < k → (w1.setCell ⟨g, j, none⟩ u).heap[k]? = w1.heap[k]? := fun k hk => Below.heap_setCell _ _ _ _ (fun e => by have : k = g := e; omega)
  refine ⟨by simp [hlen], hr, fun k hk h2 => ?_, fun k hk => ?_, fun k => ?_, ?_, ?_⟩
  · by_cases he : k = j
    · subst he
      have : (us ++ [u])[k] = u := by rw [List.getElem_append_right (by omega)]; simp [hlen]
      rw [this]
      exact ⟨hset, ht.same (fun q hq _ => ⟨Nat.lt_of_lt_of_le h.lt hq, hup q (Nat.lt_of_lt_of_le h.lt hq)⟩) (by rw [setCell_size]; exact Nat.le_refl _)⟩
    · have hk' : k < us.length := by simp at hk; omega
      obtain ⟨d1, d2⟩ := h.done k hk' h2
      have : (us ++ [u])[k] = us[k] := List.getElem_append_left hk'
      rw [this]
      refine ⟨?_, d2.same (fun q hq hq2 => ⟨hq, (hup q hq).trans (hb.block q hq2)⟩) (by rw [setCell_size]; exact hb.size)⟩
      rw [cell_off (by omega)]
      exact (hb.cell (p := ⟨g, k, none⟩) h.lt).trans d1
  · by_cases he : k = j
    · subst he; exact ⟨u, hset⟩
    · obtain ⟨y, hy⟩ := hex k hk
      exact ⟨y, by rw [cell_off (by omega)]; exact hy⟩
  · rw [World.frozen?_setCell]; exact (hb.frozen (p := ⟨g, k, none⟩) h.lt).trans (h.fr k)
  · rw [setCell_size]; exact hlt1
  · exact (h.bel.trans (hb.mono h.bel.size)).setCell hg _
theorem FInv.fin {ls : List (List TyI)} {r : List TyI} {w0 wb wr : World} {g n cap : Nat} {rest : Value} {us : List Value} (h : FInv ls r w0 wb g rest us ls.length wr) (B : Nat) (hB : B ≤ g) (hm : ls.length ≤ maxLen) (s : ByteArray) (hs : s.toList ≠ []) (hm2 : s.size ≤ maxLen) (hn : n = ls.length) :
    TreeRd (fun k => B ≤ k) wr (.iface 97 (.agg #[.string s, .slice (some ⟨g, 0, none⟩) n cap])) (⟨0, s, ls.length⟩ :: ls.flatten) := by
  subst hn
  refine .con s _ us ls hs hm2 h.len ?_ fun i h1 h2 => (h.done i h1 h2).2.same (fun q hq _ => ⟨by omega, rfl⟩) (Nat.le_refl _)
  by_cases h0 : 0 < ls.length
  · refine .inr ⟨g, 0, cap, by rw [h.len], by rw [h.len]; exact hm, hB, h.lt, by rw [h.len]; exact h0, fun i hi => ?_⟩
    rw [Nat.zero_add]
    exact (h.done i hi (by have := h.len; omega)).1
  · exact .inl ⟨List.eq_nil_of_length_eq_zero (by have := h.len; omega), _, _, by rw [show ls.length = 0 from by omega]⟩
set_option maxHeartbeats 1000000 in
theorem iFirst {t : List TyI} (ht : IsTr t) : ∀ (r : List TyI) (v : Value) (w0 w : World), t.length ≤ 1048576 → RowRd 3 TyIEl w0 v (t ++ r) → Kept w0 w → Calls Try.prog 45 #[v] w (FirstPost t r w0 w) := by
  induction ht with
  | var n hn => intro r v w0 w _ hR hK; exact iFirst_var n hn r v w0 w hR hK
  | con s ls hs hm0 htr ih =>
    intro r v w0 w hlen hR hK
    have hll : ls.length ≤ 1048576 := by
      have h1 : ls.length ≤ ls.flatten.length := by
        clear ih hR hlen
        induction ls with
        | nil => simp
        | cons t ls ih2 =>
          have h1 := (htr t (by simp)).pos
          have h2 := ih2 (fun t ht => htr t (by simp [ht]))
          rw [List.flatten_cons, List.length_append, List.length_cons]
          omega
      simp only [List.length_cons] at hlen
      omega
    obtain ⟨L, hL⟩ : ∃ L, L = ls.flatten ++ r := ⟨_, rfl⟩
    rw [List.cons_append, ← hL] at hR
    obtain ⟨a, cap, rfl, hm, hRf⟩ := hR.form
    obtain ⟨b, o, rfl, hb0, hc⟩ := hRf (by simp)
    have ex := TyIEl.st w0 w b _ _ hK hb0 (hc 0 (by simp))
    obtain ⟨⟨e0, i0⟩, ⟨e1, i1⟩, ⟨e2, i2⟩⟩ := ex
    simp only [List.getElem_cons_zero, Nat.zero_mul, Nat.add_zero] at e0 e1 e2
    have hT := RowRd.tail hR
    rw [hL] at hT
    have HT := Lib.hid hT
    unfold maxLen at hm
    simp only [List.length_cons] at hm ⊢
    have hb : b < w.heap.size := Nat.lt_of_lt_of_le hb0 hK.size
    have h1 : (0 : Int) < (L.length : Int) + 1 := by omega
    have h2 : (1 : Int) ≤ (L.length : Int) + 1 := by omega
    have h3 : (0 : Int) < ((L.length + 1 : Nat) : Int) := by omega
    have h4 : (1 : Int) ≤ ((L.length + 1 : Nat) : Int) := by omega
    have hn1 : s.toList.isEmpty = false := by simpa using hs
    have HL := Lib.hid hL
    clear hc hRf hR hT hL
    go_enter Try.func45, Try.ntmps45
    go_wp2
    go_region
    generalize (if cap = 1 then some (⟨b, o, none⟩ : Addr) else some ⟨b, o + 3, none⟩) = a' at *
    have hbw : Below w.heap.size w (w.alloc (Obj.cells #[.int .i64 0, .string s, .int .i64 (ls.length : Int)] 68)).drew := (Joins.below_alloc1 w _).drew
    have c1 : (w.alloc (Obj.cells #[.int .i64 0, .string s, .int .i64 (ls.length : Int)] 68)).drew.cell? ⟨w.heap.size, 1, none⟩ = some (.string s) := by simp
    have c2 : (w.alloc (Obj.cells #[.int .i64 0, .string s, .int .i64 (ls.length : Int)] 68)).drew.cell? ⟨w.heap.size, 2, none⟩ = some (.int .i64 (ls.length : Int)) := by simp
    have z1 : w.heap.size < (w.alloc (Obj.cells #[.int .i64 0, .string s, .int .i64 (ls.length : Int)] 68)).drew.heap.size := by simp
    generalize (w.alloc (Obj.cells #[.int .i64 0, .string s, .int .i64 (ls.length : Int)] 68)).drew = wb at *
    obtain ⟨W0, hmk, k1, k2, k3, k4⟩ := make_trees wb ls.length hll
    have hI0 : FInv ls r w0 wb wb.heap.size (.slice a' L.length (cap - 1)) [] 0 W0 := ⟨rfl, by rw [List.drop_zero]; have := HT.out; rw [← HL.out] at this ⊢; exact this, fun k hk => absurd hk (by simp), k3, k2, k1, k4⟩
    have hbk : b < wb.heap.size := Nat.lt_trans hb z1
    clear k1 k2 k3 k4
    go_wp2
    clear hmk
    go_loopw [5, 25] (fun rest i wr => ∃ (j : Nat) (us : List Value), i = .int .i64 j ∧ j ≤ ls.length ∧ FInv ls r w0 wb wb.heap.size rest us j wr) (fun _ i _ => ls.length - (intOf i).toNat)
    case atStart => exact ⟨0, [], rfl, Nat.zero_le _, hI0⟩
    case round =>
      obtain ⟨j, us, rfl, hj, hI⟩ := hrel
      clear hI0
      by_cases hlt : j < ls.length
      · have hrow : RowRd 3 TyIEl w0 u5 (ls[j] ++ ((ls.drop (j + 1)).flatten ++ r)) := by
          have := hI.row
          rw [List.drop_eq_getElem_cons hlt, List.flatten_cons, List.append_assoc] at this
          exact this
        have hKr : Kept w0 wr := hK.trans (Kept.of_below (hbw.trans (hI.bel.mono hbw.size)))
        have hlen' : ls[j].length ≤ 1048576 := by
          have h1 := flat_mem ls ls[j] (List.getElem_mem hlt)
          simp only [List.length_cons] at hlen
          omega
        have hcall := ih ls[j] (List.getElem_mem hlt) _ u5 w0 wr hlen' hrow hKr
        have hglt := hI.lt
        have hfr := hI.fr j
        obtain ⟨y, hy⟩ := hI.all j hlt
        have HI := Lib.hid hI
        clear hI hrow
        go_wp2_with (go_at_call 45; refine hcall.mono ?_; rintro e w1 ⟨u, v', rfl, ht1, hr1, hb1⟩; obtain ⟨Tu, xu, rfl⟩ := ht1.shape; have hy1 := (hb1.cell (p := ⟨wb.heap.size, j, none⟩) hglt).trans hy; have hf1 := (hb1.frozen (p := ⟨wb.heap.size, j, none⟩) hglt).trans hfr)
        go_roundw
        case rel => exact ⟨j + 1, us ++ [_], by go_num, by omega, HI.out.step hlt (Nat.le_refl _) hb1 ht1 hr1⟩
        case measure => simp [intOf]; omega
      · obtain rfl : j = ls.length := by omega
        have c1' : wr.cell? ⟨w.heap.size, 1, none⟩ = some (.string s) := (hI.bel.cell (p := ⟨w.heap.size, 1, none⟩) z1).trans c1
        have hrow : RowRd 3 TyIEl w0 u5 r := by have := hI.row; rw [List.drop_length] at this; simpa using this
        have HI := Lib.hid hI
        clear hI
        go_wp2
        go_ret2
        exact ⟨_, _, rfl, HI.out.fin w.heap.size (Nat.le_of_lt z1) (by unfold maxLen; omega) s hs hm0 rfl, hrow, hbw.trans (HI.out.bel.mono hbw.size)⟩
end Go.Proofs.Ytciohamonmmciaa
