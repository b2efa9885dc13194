/- The variables of a type, the program's: gathered, sorted, cut. -/
import Derived.Test.YtdedkjpbdpmjlaaVs
import Derived.Test.YtdedkjpbdpmjlaaOkW3
import Derived.Test.YtdedkjpbdpmjlaaShelf
import Derived.Test.YtdedkjpbdpmjlaaMkData
import Derived.WalkKit
import Derived.ProofKit
import Derived.OpenShut
import Derived.Lib.Hide
import Derived.Lib.SmallJoins
namespace Go.Proofs.Ytdedkjpbdpmjlaa
set_option linter.unusedVariables false
set_option maxRecDepth 100000
open Go.ChangeShapes Go.WideShapes Go.ChangeAt Go.RowKit

theorem heap_putRow_other {α : Type} [Inhabited α] (enc : α → Value) (W : World) (g off : Nat) (d : Array α) (k : Nat) (h : k ≠ g) : (Go.Sort.putRow enc W g off d).heap[k]? = W.heap[k]? := by
  unfold Go.Sort.putRow Go.Sort.mapBlock
  rw [Array.getElem?_modify, if_neg (fun e => h e.symm)]
theorem below_putRow {α : Type} [Inhabited α] {B : Nat} {w W : World} (h : Below B w W) (enc : α → Value) (g off : Nat) (d : Array α) (hg : B ≤ g) : Below B w (Go.Sort.putRow enc W g off d) :=
  ⟨h.os, h.tape, h.output, by rw [Go.Sort.size_putRow]; exact h.size, fun k hk => (heap_putRow_other enc W g off d k (by omega)).trans (h.block k hk)⟩
theorem below_ahead {B : Nat} {w W : World} (h : Below B w W) (n : Nat) : Below B w (Go.Sort.ahead W n) := ⟨h.os, h.tape, h.output, h.size, h.block⟩
theorem below_grow {B : Nat} {w W : World} (h : Below B w W) (os : Array Obj) (hB : B ≤ W.heap.size) : Below B w (Go.Sort.grow W os) :=
  ⟨h.os, h.tape, h.output, by rw [Go.Sort.size_grow]; have := h.size; omega, fun k hk => (Go.Sort.heap_grow_old W os (by omega)).trans (h.block k hk)⟩
theorem after_put {w W w3 : World} {B g n : Nat} {os : Array Obj} {zs ds : List Int} (hB : Below B w W) (hg : B ≤ g) (hgl : g < W.heap.size) (hH : Go.Sort.Holds (Value.int .i64) W g 0 zs.toArray) (hl : ds.length = zs.length)
    (hf : ∀ j, W.frozen? ⟨g, j, none⟩ = false) (hw : w3 = Go.Sort.grow (Go.Sort.putRow (Value.int .i64) (Go.Sort.ahead W n) g 0 ds.toArray) os) :
    Go.Sort.Holds (Value.int .i64) w3 g 0 ds.toArray ∧ Below B w w3 ∧ g < w3.heap.size ∧ ∀ j, w3.frozen? ⟨g, j, none⟩ = false := by
  subst hw
  have hgl' : g < (Go.Sort.putRow (Value.int .i64) (Go.Sort.ahead W n) g 0 ds.toArray).heap.size := by rw [Go.Sort.size_putRow]; exact hgl
  refine ⟨Go.Sort.holds_grow _ _ _ _ _ _ hgl' (Go.Sort.holds_putRow _ _ _ _ _ _ (Go.Sort.holds_ahead _ _ _ _ _ _ hH) (by simpa using hl)), ?_, ?_, fun j => ?_⟩
  · exact below_grow (below_putRow (below_ahead hB n) _ _ _ _ hg) _ (by omega)
  · rw [Go.Sort.size_grow]; omega
  · rw [Go.Sort.frozen?_grow _ _ _ hgl', Go.Sort.frozen?_putRow]; exact hf j
theorem row_ints {w : World} {g cap : Nat} {l : List Int} (h0 : 0 < l.length) (hm : l.length ≤ maxLen) (hg : g < w.heap.size) (hf : ∀ j, w.frozen? ⟨g, j, none⟩ = false) (hc : ∀ j (h : j < l.length), w.cell? ⟨g, j, none⟩ = some (.int .i64 l[j])) (hI : ∀ x ∈ l, I64 x) :
    RowOwn 1 (Flat IntEl) w (.slice (some ⟨g, 0, none⟩) l.length cap) l [g] := by
  refine .inr ⟨g, cap, List.replicate l.length [], rfl, hm, hg, hf, h0, by simp, ?_, fun i hi hi' => ?_⟩
  · have : (List.replicate l.length ([] : List Nat)).flatten = [] := by simp
    rw [this]
  · rw [List.getElem_replicate]
    exact ⟨rfl, by rw [Nat.mul_one]; exact hc i hi, hI _ (List.getElem_mem hi)⟩
theorem get_bang (l : List Int) (j : Nat) (h : j < l.length) : l.toArray[j]! = l[j] := by rw [getElem!_pos l.toArray j (by simpa using h)]; simp
set_option maxHeartbeats 1000000 in
theorem iTyVarsC (x : List TyI) (v : Value) (w : World) (hR : RowRd 3 TyIEl w v x) (hz : bTy x ≤ 1048576) :
    Calls Try.prog 12 #[.agg #[v]] w (RowPost 1 (Flat IntEl) (resTyVars x) w) := by
  obtain ⟨i0, hi, hz0, hz1, hz2⟩ := info_parts info_int
  have hl : x.length ≤ 1048576 := Nat.le_trans (bulkL_len _ _) hz
  have hR0 := hR
  have hI := varsOf_i64 hR0
  obtain ⟨p, cap, rfl, _, hRf⟩ := hR.form
  have HRes := Lib.hid (show resTyVars x = if tyOkB x then ascOf (varsOf x) else [] from rfl)
  go_enter Try.func12, Try.ntmps12
  go_wp2_with fail
  refine (iTyOkC x _ _ (hR0.kept TyIEl.st (Kept.alloc _ _)) hz).mono ?_
  rintro e w1 ⟨rfl, hb1⟩
  obtain ⟨hc1, hf1⟩ := bcell hb1
  have B1 : Below w.heap.size w w1 := below_tr (Joins.below_alloc1 w _) hb1
  have z1 := B1.size
  have c1 : w1.cell? ⟨w.heap.size, 0, none⟩ = some (.slice p x.length cap) := by rw [hc1 _ _ (by simp)]; simp
  have hs1 : w.heap.size < w1.heap.size := by have := hb1.size; simp at this; omega
  have hn1 : w.heap.size ≠ w1.heap.size := by omega
  clear hc1 hf1
  have R1 := hR0.kept TyIEl.st (Kept.of_below B1)
  cases hok : tyOkB x
  · go_wp2
    go_ret
    rw [HRes.out, hok]
    exact row_none _ _ _ rfl B1
  · rw [hok] at HRes
    clear hR0 hRf hok
    obtain ⟨p', cap', e1, _, hRx⟩ := R1.form
    obtain ⟨rfl, rfl⟩ : p' = p ∧ cap' = cap := by injection e1 with h1 h2 h3; exact ⟨h1.symm, h3.symm⟩
    clear e1
    go_wp2
    go_loopw [3, 13] (fun out i wr => ∃ k : Nat, k ≤ x.length ∧ i = .int .i64 k ∧ wr.ownsRow w1.heap.size 3 1 out (varsOf (x.take k)).length (ic (varsOf (x.take k))) ∧ Below w1.heap.size w1 wr ∧ w1.heap.size ≤ wr.heap.size)
      (fun _ i _ => x.length - (intOf i).toNat)
    case atStart => exact ⟨0, Nat.zero_le _, rfl, own_lit0 rfl (Nat.le_refl _), (Below.refl _ _).alloc (Nat.le_refl _) _, by simp⟩
    case round =>
      obtain ⟨k, hk, rfl, hown, hbel, hBs⟩ := hrel
      by_cases hlt : k < x.length
      · obtain ⟨b, o, rfl, hbw, hc⟩ := hRx (by omega)
        have ex := TyIEl.st w1 wr b _ _ (Kept.of_below hbel) hbw (hc k hlt)
        have h1 := varsOf_no x k hlt
        have h2 := varsOf_yes x k hlt
        have hlen := varsOf_len x k
        clear hc hRx
        generalize x[k] = t at *
        generalize varsOf (x.take k) = L at *
        have H1 := Lib.hid h1
        have H2 := Lib.hid h2
        clear h1 h2
        obtain ⟨⟨e0, i0'⟩, ⟨e1, i1⟩, ⟨e2, i2⟩⟩ := ex
        by_cases hn : t.name.toList = []
        · have hn1 : t.name.toList.isEmpty = true := by simp [hn]
          have HN := Lib.hid hn
          clear hn
          go_wp2_with (first
            | (at_builtin; refine wpList_append_own _ rfl (.tmp 20) (.tmp 23) 26 rfl w1.heap.size 3 i0 (.int .i64 0) 1 8 Try.underlying26 hi hz0 hz1 hz2 rfl (by decide) _ L.length (ic L) rfl ((hown.alloc _).alloc _) ⟨wr.heap.size + 1, 0, none⟩ 1 1 [.int .i64 t.var] rfl rfl (new_cells' _ _ _ _ (by simp) rfl) (ic_one [t.var]) (by unfold maxLen; omega) (by omega) (by simp; omega) ?_; intro v2 w2 hown2 hgrow2 _; have R2 := own_app (hown.alloc _) (hbel.alloc hBs _) (Nat.le_refl _) (by simp; omega) hgrow2; have O2 := own_app_ints rfl rfl (l' := [t.var]) rfl rfl hown2))
          go_roundw
          case rel => exact ⟨k + 1, by omega, by go_num, by rw [H2.out HN.out]; exact O2, R2.1, R2.2⟩
          case measure => simp [intOf]; omega
        · have hn1 : t.name.toList.isEmpty = false := by simpa using hn
          have HN := Lib.hid hn
          clear hn
          go_wp2
          go_roundw
          case rel => exact ⟨k + 1, by omega, by go_num, by rw [H1.out HN.out]; exact hown.alloc _, hbel.alloc hBs _, by simp; omega⟩
          case measure => simp [intOf]; omega
      · obtain rfl : k = x.length := by omega
        rw [List.take_length] at hown
        have hlen := varsOf_len x x.length
        rw [List.take_length] at hlen
        have hcs := ascOf_sorted (varsOf x)
        have hal := ascOf_len (varsOf x)
        have hmem := (ascOf_asc (varsOf x)).2
        generalize varsOf x = L at *
        have HC := Lib.hid hcs
        have HM := Lib.hid hmem
        clear hcs hmem
        have hB2 : Below w.heap.size w wr := B1.trans (hbel.mono z1)
        by_cases h0 : 0 < L.length
        · obtain ⟨g, cap2, rfl, hgB, hgl, hcap, hcell, hfr⟩ := own_shape hown h0
          have hH : Go.Sort.Holds (Value.int .i64) wr g 0 L.toArray := fun j hj => by
            have hj' : j < L.length := by simpa using hj
            rw [Nat.zero_add, get_bang L j hj']
            exact ⟨(hcell j hj').trans (ic_get L j hj'), hfr j⟩
          obtain ⟨S, hS⟩ : ∃ S, S = L.mergeSort (fun x y => decide (x ≤ y)) := ⟨_, rfl⟩
          have hSl : S.length = L.length := by rw [hS]; exact List.length_mergeSort _
          have hsort := Try.slices_Sort_int g 0 cap2 L wr hH hgl (by omega)
          rw [← hS] at hsort HC
          have hcmp : ∀ W, Go.Sort.Holds (Value.int .i64) W g 0 S.toArray → Calls Try.prog 40 #[.slice (some ⟨g, 0, none⟩) L.length cap2] W (fun e w' => e = .returned (.slice (some ⟨g, 0, none⟩) (ascOf L).length cap2) ∧ ∃ q, w' = Go.Sort.putRow (Value.int .i64) (Go.Sort.ahead W q) g 0 (ascOf L ++ List.replicate (L.length - (ascOf L).length) 0).toArray) := fun W hW => by
            have h := Try.slices_Compact_int g 0 cap2 S W hW (by omega) (by omega)
            rw [HC.out, hSl] at h
            exact h
          have HAfter := fun n3 os3 w3 (hw3 : w3 = Go.Sort.grow (Go.Sort.putRow (Value.int .i64) (Go.Sort.ahead wr n3) g 0 S.toArray) os3) => Lib.hid (after_put hB2 (by omega) hgl hH hSl hfr hw3)
          have hlen2 : (ascOf L ++ List.replicate (L.length - (ascOf L).length) 0).length = S.length := by simp; omega
          clear hcell hfr hown hH hS
          go_wp2_with (first
            | (go_at_call 39; refine hsort.mono ?_; rintro e w3 ⟨rfl, n3, os3, hw3⟩; obtain ⟨hH3, hB3, hg3, hf3⟩ := (HAfter _ _ _ hw3).out; clear hw3)
            | (go_at_call 40; refine (hcmp w3 hH3).mono ?_; rintro e w4 ⟨rfl, q4, hw4⟩; obtain ⟨hH4, hB4, hg4, hf4⟩ := after_put hB3 (by omega) hg3 hH3 (w3 := w4) (n := q4) (os := #[]) hlen2 hf3 (by rw [Go.Sort.grow_empty]; exact hw4); clear hw4))
          go_ret
          rw [HRes.out, if_pos trivial]
          have h0' : 0 < (ascOf L).length := List.length_pos_of_mem ((HM.out _).2 (List.getElem_mem h0))
          refine ⟨_, [g], rfl, row_ints h0' (by unfold maxLen; omega) hg4 hf4 (fun j hj => ?_) (fun y hy => hI y ((HM.out y).1 hy)), fun k hk => ?_, by simp, hB4⟩
          · have h := (hH4 j (by simp; omega)).1
            rw [Nat.zero_add, get_bang _ j (by simp; omega), List.getElem_append_left hj] at h
            exact h
          · simp at hk; omega
        · have hL : L = [] := List.eq_nil_of_length_eq_zero (by omega)
          subst hL
          obtain ⟨a2, cap2, rfl, _, _⟩ := (own_rdi hown (by simp)).form
          clear hown
          go_wp2_with (first
            | (go_at_call 39; refine (Try.slices_Sort_int_none a2 cap2 wr).mono ?_; rintro e w3 ⟨rfl, rfl⟩)
            | (go_at_call 40; refine (Try.slices_Compact_int_empty a2 cap2 _).mono ?_; rintro e w4 ⟨rfl, rfl⟩))
          go_ret
          rw [HRes.out, if_pos trivial]
          exact ⟨_, [], rfl, .inl ⟨rfl, rfl, _, _, rfl⟩, fun g hg => by simp at hg, List.nodup_nil, hB2⟩
theorem cntL_int (l : List Int) : cntL cInt l = l.length := by
  induction l with
  | nil => rfl
  | cons x l ih => simp only [cntL, cInt, List.length_cons, ih]; omega
theorem TyVars_cnt (x : List TyI) (hz : bTy x ≤ 1048576) : 1 + cntL cInt (resTyVars x) ≤ 1000000000000 := by
  have h1 : x.length ≤ 1048576 := Nat.le_trans (bulkL_len _ _) hz
  have h2 := ascOf_len (varsOf x)
  have h3 := varsOf_len x x.length
  rw [List.take_length] at h3
  rw [cntL_int]
  unfold resTyVars
  split
  · omega
  · simp
end Go.Proofs.Ytdedkjpbdpmjlaa
