/- The program's weaving of texts: the writer, the walk, the whole; PrintTy. -/
import Derived.Test.YtcllifmaokldbaaDoorPrW
import Derived.Test.YtcllifmaokldbaaDoorPrK
import Derived.Test.YtcllifmaokldbaaDoorRegionOwn
namespace Go.Proofs.YtcllifmaokldbaaDoor
set_option linter.unusedVariables false
set_option maxRecDepth 100000
open Go.ChangeShapes Go.WideShapes Go.ChangeAt Go.RowKit

theorem info_str' : (Tryd.prog.info? 9).map (fun i => (i.zero, i.size, i.bytes)) = some (some (.string ⟨#[]⟩), 1, 16) := by kernel_rfl
theorem pr_own_ne {w : World} {B e e2 n m g : Nat} {v : Value} {xs : List Value} {c : Array Value} {f : Nat × Nat} (h : w.ownsRow B e m v n xs) (h2 : w.heap[g]? = some (.cells c e2 f)) (he : e ≠ e2) : v.ownBlock ≠ some g := by
  intro hg
  obtain ⟨_, ⟨rfl, _⟩ | ⟨g', cap, cur, rfl, _, h3, _⟩⟩ := h
  · cases hg
  · cases hg
    rw [h2] at h3
    injection h3 with h3
    injection h3 with _ h4
    exact he h4.symm
theorem pr_own_set {w : World} {B e n m b o : Nat} {v u : Value} {xs : List Value} (h : w.ownsRow B e m v n xs) (hne : v.ownBlock ≠ some b) : (w.setCell ⟨b, o, none⟩ u).ownsRow B e m v n xs := by
  obtain ⟨h0, h1 | ⟨g, cap, cur, rfl, h1, h2, h3⟩⟩ := h
  · exact ⟨h0, .inl h1⟩
  · exact ⟨h0, .inr ⟨g, cap, cur, rfl, h1, by rw [Below.heap_setCell _ _ _ _ (fun e => hne (by show some g = some b; rw [e]))]; exact h2, h3⟩⟩
theorem pr_box_set {w : World} {b : Nat} {y u : Value} {T : TypeId} {f : Nat × Nat} (h : w.heap[b]? = some (.cells #[y] T f)) : (w.setCell ⟨b, 0, none⟩ u).heap[b]? = some (.cells #[u] T f) := by
  rw [Go.Sort.setCell_eq]
  simp [Go.Sort.mapBlock, Array.getElem?_modify, h, Go.Sort.onCells]
theorem pr_box_cell {w : World} {b : Nat} {y : Value} {T : TypeId} (h : w.heap[b]? = some (.cells #[y] T (0, 0))) : w.cell? ⟨b, 0, none⟩ = some y ∧ w.frozen? ⟨b, 0, none⟩ = false := by
  constructor
  · simp [World.cell?, h]
  · simp [World.frozen?, h]
theorem pr_own_lit0 {W : World} {base n sz : Nat} {e : TypeId} (hn : n = W.heap.size) (hb : base ≤ W.heap.size) : (W.alloc (.cells #[] e)).ownsRow base e sz (.slice (some ⟨n, 0, none⟩) 0 0) 0 [] := by
  subst hn; exact World.ownsRow_lit W #[] 0 hb (by decide) (by simp)
theorem iLen1 (v : Value) (P : List ByteArray) (w : World) (h : RowRd 1 StrEl w v P) :
    Calls Tryd.prog 35 #[v] w fun e w' => e = .returned (.int .i64 ((P.length : Int) - 1)) ∧ Below w.heap.size w w' := by
  obtain ⟨p, c, rfl, hm, -⟩ := h.form
  unfold maxLen at hm
  have hw : IntKind.i64.wrap ((P.length : Int) - 1) = (P.length : Int) - 1 := IntWalk.i64_in _ (by omega)
  go_enter Tryd.func35, Tryd.ntmps35
  go_wp2
  go_ret
  exact ⟨rfl, Below.refl _ _⟩
theorem e_woven1 : ∀ args w, (callFunc 35 args).run Tryd.prog w = .ok (.enter 35 args) w := enters_of Tryd.func35 (by kernel_rfl) rfl
theorem e_woven2 : ∀ args w, (callFunc 36 args).run Tryd.prog w = .ok (.enter 36 args) w := enters_of Tryd.func36 (by kernel_rfl) rfl
set_option maxHeartbeats 4000000 in
theorem iMapLen (T : List (List ByteArray)) (v : Value) (w : World) (hR : RowRd 1 (RowEl 1 StrEl) w v T) (hl : T.length ≤ 1048576) :
    Calls Tryd.prog 34 #[v, .func (.func 35) #[] #[]] w fun e w' => ∃ v', e = .returned v' ∧ RowRd 1 IntEl w' v' (T.map fun P => (P.length : Int) - 1) ∧ Below w.heap.size w w' := by
  obtain ⟨p, cap, rfl, hm, hR⟩ := hR.form
  unfold maxLen at hm
  obtain ⟨ii, hi, hz0, hz1, hz2⟩ := info_parts info_int
  obtain ⟨w0, hmk, hown0, hgr0⟩ := run_make_own (P := Tryd.prog) w w.heap.size 39 3 ii (.int .i64 0) 1 Tryd.underlying39 hi hz0 hz1 .i64 .i64 T.length (by rw [hz2]; omega) (by unfold maxLen; omega) (Nat.le_refl _)
  have hb0 : Below w.heap.size w w0 := (Below.refl _ _).grown hgr0 (Nat.le_refl _) (fun k hk => by simp at hk)
  have HI : Hid (∀ P ∈ T, P.length ≤ maxLen) := Lib.hid fun P hP => by
    obtain ⟨i, hi, rfl⟩ := List.getElem_of_mem hP
    obtain ⟨b, o, _, _, hc⟩ := hR (by omega)
    obtain ⟨u, _, r⟩ := hc i hi
    exact (rd_sizes r).1
  have e_l := e_woven1
  go_enter Tryd.func34, Tryd.ntmps34
  go_wp2
  go_loopw [5, 13] (fun nx i wr => ∃ k : Nat, i = .int .i64 k ∧ k ≤ T.length ∧ wr.ownsRow w.heap.size 3 1 nx ((T.take k).map fun P => (P.length : Int) - 1).length (ic ((T.take k).map fun P => (P.length : Int) - 1)) ∧ Below w.heap.size w wr ∧ w.heap.size ≤ wr.heap.size) (fun _ i _ => T.length - (intOf i).toNat)
  case atStart => exact ⟨0, rfl, Nat.zero_le _, hown0, hb0, hb0.size⟩
  case round =>
    obtain ⟨k, rfl, hk, hown, hbel, hsz⟩ := hrel
    have hlen : ((T.take k).map fun P => (P.length : Int) - 1).length = k := by simp; omega
    by_cases hlt : k < T.length
    · obtain ⟨b, o, rfl, hbw, hc⟩ := hR (by omega)
      have ex := RowEl.st 1 StrEl.st w wr b _ _ (Kept.of_below hbel) hbw (hc k hlt)
      rw [Nat.mul_one] at ex
      have HT := Lib.hid (take_map_succ (fun P : List ByteArray => (P.length : Int) - 1) T k hlt)
      clear hc hR hmk hown0 hgr0 hb0
      generalize T[k] = x at *
      obtain ⟨u, e0, r0⟩ := ex
      have hag := Lib.hid (iLen1 u x wr r0)
      obtain ⟨p2, c2, rfl, hm2, -⟩ := r0.form
      generalize (x.length : Int) - 1 = fx at *
      generalize ((T.take k).map fun P => (P.length : Int) - 1) = done at *
      go_wp2_with (first
        | (go_at_call 35; refine hag.out.mono ?_; rintro e w1 ⟨rfl, hb1⟩; have hown1 := own_below hown hb1; have hbel1 := below_tr hbel hb1; have hsz1 := Nat.le_trans hsz hb1.size)
        | (at_builtin; refine wpList_append_own _ rfl (.tmp 17) (.tmp 21) 39 rfl w.heap.size 3 ii (.int .i64 0) 1 8 Tryd.underlying39 hi hz0 hz1 hz2 rfl (by decide) _ done.length (ic done) rfl (hown1.alloc _) ⟨w1.heap.size, 0, none⟩ 1 1 [.int .i64 fx] rfl rfl (new_cells _ _ _ _ rfl) (ic_one [fx]) (by unfold maxLen; omega) (by omega) (by simp; omega) ?_; intro v' w2 hown' hgrow _))
      have R := own_app hown1 hbel1 (Nat.le_refl _) hsz1 hgrow
      have O := own_i rfl rfl (l' := [fx]) rfl rfl hown'
      clear hown hown1 hown' hgrow hbel hbel1
      go_roundw
      case rel => exact ⟨k + 1, by go_num, by omega, by rw [HT.out]; exact O, R.1, R.2⟩
      case measure => simp [intOf]; omega
    · obtain rfl : k = T.length := by omega
      rw [List.take_length] at hown
      clear hR hmk hown0 hgr0 hb0
      go_wp2
      go_ret
      refine ⟨_, rfl, own_rd hown (by simp; unfold maxLen; omega) ?_, hbel⟩
      intro y hy
      obtain ⟨P, hP, rfl⟩ := List.mem_map.1 hy
      have := HI.out P hP
      unfold maxLen at this
      exact ⟨by omega, by omega⟩
end Go.Proofs.YtcllifmaokldbaaDoor
