/- The program's check of type declarations. -/
import Derived.Test.YthghgbdpokplhaaGreatDoorCtMath
import Derived.Test.YthghgbdpokplhaaGreatDoorAs
import Derived.Test.YthghgbdpokplhaaGreatDoorOkZ3
namespace Go.Proofs.YthghgbdpokplhaaGreatDoor
set_option linter.unusedVariables false
set_option maxRecDepth 100000
open Go.ChangeShapes Go.WideShapes Go.ChangeAt Go.RowKit

theorem RowRd.take {α : Type} {n : Nat} {E : ElRd α} {w : World} {a : Option Addr} {c : Nat} {l : List α} (h : RowRd n E w (.slice a l.length c) l) (k : Nat) (hk : k ≤ l.length) : RowRd n E w (.slice a k c) (l.take k) := by
  obtain ⟨a', c', e, hm, hR⟩ := h.form
  cases e
  have hl : (l.take k).length = k := by rw [List.length_take]; omega
  by_cases h0 : 0 < k
  · obtain ⟨b, o, rfl, hb, hc⟩ := hR (by omega)
    have hcap := h.cap (by omega)
    rw [show (Value.slice (some ⟨b, o, none⟩) k c) = .slice (some ⟨b, o, none⟩) (l.take k).length c from by rw [hl]]
    exact RowRd.mk (by omega) (by omega) fun _ => ⟨b, o, rfl, hb, fun i hi => by rw [List.getElem_take]; exact hc i (by omega)⟩
  · obtain rfl : k = 0 := by omega
    exact .inl ⟨by simp, _, _, rfl⟩
theorem bt {w w1 w2 : World} (h : Below w.heap.size w w1) (k : Below w1.heap.size w1 w2) : Below w.heap.size w w2 := below_tr h k
theorem iGiven (s : ByteArray) (w : World) :
    Calls Tryz.prog 65 #[.string s] w fun e w' => e = .returned (.int .i64 (givenI s)) ∧ w = w' := by
  by_cases h0 : s.toList = [105, 110, 116]
  · have HG := Lib.hid (show givenI s = 0 from by simp [givenI, h0])
    have e0 : (s.toList == [105, 110, 116]) = true := by simp [h0]
    clear h0
    go_enter Tryz.func65, Tryz.ntmps65
    go_wp2
    go_ret
    exact ⟨ret_int' HG.out.symm, rfl⟩
  have e0 : (s.toList == [105, 110, 116]) = false := by simpa using h0
  by_cases h1 : s.toList = [98, 111, 111, 108]
  · have HG := Lib.hid (show givenI s = 0 from by simp [givenI, h1])
    have e1 : (s.toList == [98, 111, 111, 108]) = true := by simp [h1]
    clear h0 h1
    go_enter Tryz.func65, Tryz.ntmps65
    go_wp2
    go_ret
    exact ⟨ret_int' HG.out.symm, rfl⟩
  have e1 : (s.toList == [98, 111, 111, 108]) = false := by simpa using h1
  by_cases h2 : s.toList = [115, 116, 114, 105, 110, 103]
  · have HG := Lib.hid (show givenI s = 0 from by simp [givenI, h2])
    have e2 : (s.toList == [115, 116, 114, 105, 110, 103]) = true := by simp [h2]
    clear h0 h1 h2
    go_enter Tryz.func65, Tryz.ntmps65
    go_wp2
    go_ret
    exact ⟨ret_int' HG.out.symm, rfl⟩
  have e2 : (s.toList == [115, 116, 114, 105, 110, 103]) = false := by simpa using h2
  by_cases h3 : s.toList = [117, 110, 105, 116]
  · have HG := Lib.hid (show givenI s = 0 from by simp [givenI, h3])
    have e3 : (s.toList == [117, 110, 105, 116]) = true := by simp [h3]
    clear h0 h1 h2 h3
    go_enter Tryz.func65, Tryz.ntmps65
    go_wp2
    go_ret
    exact ⟨ret_int' HG.out.symm, rfl⟩
  have e3 : (s.toList == [117, 110, 105, 116]) = false := by simpa using h3
  by_cases h4 : s.toList = [108, 105, 115, 116]
  · have HG := Lib.hid (show givenI s = 1 from by simp [givenI, h4])
    have e4 : (s.toList == [108, 105, 115, 116]) = true := by simp [h4]
    clear h0 h1 h2 h3 h4
    go_enter Tryz.func65, Tryz.ntmps65
    go_wp2
    go_ret
    exact ⟨ret_int' HG.out.symm, rfl⟩
  have e4 : (s.toList == [108, 105, 115, 116]) = false := by simpa using h4
  by_cases h5 : s.toList = [114, 101, 102]
  · have HG := Lib.hid (show givenI s = 1 from by simp [givenI, h5])
    have e5 : (s.toList == [114, 101, 102]) = true := by simp [h5]
    clear h0 h1 h2 h3 h4 h5
    go_enter Tryz.func65, Tryz.ntmps65
    go_wp2
    go_ret
    exact ⟨ret_int' HG.out.symm, rfl⟩
  have e5 : (s.toList == [114, 101, 102]) = false := by simpa using h5
  by_cases h6 : s.toList = [45, 62]
  · have HG := Lib.hid (show givenI s = 2 from by simp [givenI, h6])
    have e6 : (s.toList == [45, 62]) = true := by simp [h6]
    clear h0 h1 h2 h3 h4 h5 h6
    go_enter Tryz.func65, Tryz.ntmps65
    go_wp2
    go_ret
    exact ⟨ret_int' HG.out.symm, rfl⟩
  have e6 : (s.toList == [45, 62]) = false := by simpa using h6
  by_cases h7 : s.toList = [42]
  · have HG := Lib.hid (show givenI s = 2 from by simp [givenI, h7])
    have e7 : (s.toList == [42]) = true := by simp [h7]
    clear h0 h1 h2 h3 h4 h5 h6 h7
    go_enter Tryz.func65, Tryz.ntmps65
    go_wp2
    go_ret
    exact ⟨ret_int' HG.out.symm, rfl⟩
  have e7 : (s.toList == [42]) = false := by simpa using h7
  have HG := Lib.hid (show givenI s = -1 from by simp [givenI, h0, h1, h2, h3, h4, h5, h6, h7])
  clear h0 h1 h2 h3 h4 h5 h6 h7
  go_enter Tryz.func65, Tryz.ntmps65
  go_wp2
  go_ret
  exact ⟨ret_int' HG.out.symm, rfl⟩
/-- u.Name == t.Name. -/
theorem iHasNameT (s : ByteArray) (bt : Nat) (x : Tp) (u : Value) (w : World) (hc : w.cell? ⟨bt, 0, none⟩ = some (.string s)) (hb : bt < w.heap.size) (hu : TpVal w u x) :
    Calls Tryz.prog 60 #[u, .pointer (some ⟨bt, 0, none⟩)] w fun e w' => e = .returned (.bool (sameNB s x.name)) ∧ Below w.heap.size w w' := by
  obtain ⟨v2, rfl, i0, i1, r2⟩ := hu
  obtain ⟨p2, c2, rfl, m2, -⟩ := r2.form
  have hne : bt ≠ w.heap.size := by omega
  have hne2 : w.heap.size ≠ bt := by omega
  go_enter Tryz.func60, Tryz.ntmps60
  go_wp2
  go_ret
  exact ⟨rfl, Joins.below_alloc1 w _⟩
theorem e_iHasNameT : ∀ args w, (callFunc 60 args).run Tryz.prog w = .ok (.enter 60 args) w := enters_of Tryz.func60 (by kernel_rfl) rfl
theorem iHasNameC (s : ByteArray) (bt : Nat) (x : Cn) (u : Value) (w : World) (hc : w.cell? ⟨bt, 0, none⟩ = some (.string s)) (hb : bt < w.heap.size) (hu : CnVal w u x) :
    Calls Tryz.prog 103 #[u, .pointer (some ⟨bt, 0, none⟩)] w fun e w' => e = .returned (.bool (sameNB s x.name)) ∧ Below w.heap.size w w' := by
  obtain ⟨v2, rfl, i0, r2⟩ := hu
  obtain ⟨p2, c2, rfl, m2, -⟩ := r2.form
  have hne : bt ≠ w.heap.size := by omega
  have hne2 : w.heap.size ≠ bt := by omega
  go_enter Tryz.func103, Tryz.ntmps103
  go_wp2
  go_ret
  exact ⟨rfl, Joins.below_alloc1 w _⟩
theorem e_iHasNameC : ∀ args w, (callFunc 103 args).run Tryz.prog w = .ok (.enter 103 args) w := enters_of Tryz.func103 (by kernel_rfl) rfl
/-- t.Name == i.Name && t.Params == i.Arity. -/
def meantB (s : ByteArray) (n : Int) (t : Tp) : Bool := t.name.toList == s.toList && decide (t.params = n)
theorem iMeant (s : ByteArray) (n : Int) (bi : Nat) (x : Tp) (u : Value) (w : World) (hc1 : w.cell? ⟨bi, 1, none⟩ = some (.string s)) (hc2 : w.cell? ⟨bi, 2, none⟩ = some (.int .i64 n)) (hb : bi < w.heap.size) (hu : TpVal w u x) :
    Calls Tryz.prog 99 #[u, .pointer (some ⟨bi, 0, none⟩)] w fun e w' => e = .returned (.bool (meantB s n x)) ∧ Below w.heap.size w w' := by
  obtain ⟨v2, rfl, i0, i1, r2⟩ := hu
  obtain ⟨p2, c2, rfl, m2, -⟩ := r2.form
  have hne : bi ≠ w.heap.size := by omega
  have hne2 : w.heap.size ≠ bi := by omega
  have HM := Lib.hid (show meantB s n x = (x.name.toList == s.toList && decide (x.params = n)) from rfl)
  cases q1 : x.name.toList == s.toList
  · go_enter Tryz.func99, Tryz.ntmps99
    go_wp2
    go_ret
    exact ⟨ret_bool (by rw [HM.out, q1]; rfl), Joins.below_alloc1 w _⟩
  · have hd : (x.params == n) = decide (x.params = n) := rfl
    have HD := Lib.hid hd
    clear hd
    go_enter Tryz.func99, Tryz.ntmps99
    go_wp2
    go_ret
    exact ⟨ret_bool (by rw [HM.out, q1, ← HD.out]; rfl), Joins.below_alloc1 w _⟩
theorem e_iMeant : ∀ args w, (callFunc 99 args).run Tryz.prog w = .ok (.enter 99 args) w := enters_of Tryz.func99 (by kernel_rfl) rfl
set_option maxHeartbeats 2000000 in
theorem iIsKnown (ts : List Tp) (v : Value) (x : TyI) (u : Value) (w : World) (hR : RowRd 3 TpEl w v ts) (hu : TyIVal w u x) :
    Calls Tryz.prog 62 #[v, u] w fun e w' => e = .returned (.bool (knownB ts x)) ∧ Below w.heap.size w w' := by
  have hkn := known_nb ts x
  have hnb : knownNB ts x.name x.arity = (decide (givenI x.name = x.arity) || ts.any (meantB x.name x.arity)) := rfl
  rw [hnb] at hkn
  obtain ⟨O, hO⟩ : ∃ O, O = (Obj.cells #[.int .i64 x.var, .string x.name, .int .i64 x.arity] 50) := ⟨_, rfl⟩
  have z0 : w.heap.size < (w.alloc O).heap.size := by simp
  have d1 : (w.alloc O).cell? ⟨w.heap.size, 1, none⟩ = some (.string x.name) := by rw [hO]; simp
  have d2 : (w.alloc O).cell? ⟨w.heap.size, 2, none⟩ = some (.int .i64 x.arity) := by rw [hO]; simp
  have bO : Below w.heap.size w (w.alloc O) := Joins.below_alloc1 w O
  have HC := fun (W : World) (hW : Below (w.alloc O).heap.size (w.alloc O) W) =>
    iContainsTp 99 #[.pointer (some ⟨w.heap.size, 0, none⟩)] e_iMeant (meantB x.name x.arity) ts v W (hR.kept TpEl.st ((Kept.of_below bO).trans (Kept.of_below hW)))
      (fun i hi u W' hW' hu => iMeant x.name x.arity w.heap.size ts[i] u W' (((bt hW hW').cell (p := ⟨w.heap.size, 1, none⟩) z0).trans d1) (((bt hW hW').cell (p := ⟨w.heap.size, 2, none⟩) z0).trans d2) (Nat.lt_of_lt_of_le z0 (bt hW hW').size) hu)
  have HG := fun (W : World) (hW : Below (w.alloc O).heap.size (w.alloc O) W) => (iGiven x.name W).mono fun e w' h => (⟨h.1, by rw [h.2]; exact Below.refl _ _⟩ : e = .returned (.int .i64 (givenI x.name)) ∧ Below W.heap.size W w')
  obtain ⟨p, cap, rfl, hm, -⟩ := hR.form
  obtain ⟨rfl, i0, i1, i2⟩ := hu
  have HK := Lib.hid hkn
  clear hkn hnb hR
  by_cases hn : x.name.toList = []
  · have hn1 : x.name.toList.isEmpty = true := by simp [hn]
    have HN := Lib.hid hn
    clear hn HC HG
    go_enter Tryz.func62, Tryz.ntmps62
    go_wp2_with fail
    rw [← hO]
    clear hO
    generalize w.alloc O = wb at *
    have hI := fun W (hB : Below wb.heap.size wb W) => (⟨(hB.cell (p := ⟨_, 1, none⟩) z0).trans d1, (hB.cell (p := ⟨_, 2, none⟩) z0).trans d2⟩ : W.cell? ⟨w.heap.size, 1, none⟩ = some (.string x.name) ∧ W.cell? ⟨w.heap.size, 2, none⟩ = some (.int .i64 x.arity))
    clear d1 d2
    refine region_begin (n := 17) (S := (fun W => Below wb.heap.size wb W ∧ (W.cell? ⟨w.heap.size, 1, none⟩ = some (.string x.name) ∧ W.cell? ⟨w.heap.size, 2, none⟩ = some (.int .i64 x.arity)))) (by kernel_rfl) rfl (by kernel_rfl) ⟨(Below.refl _ _).drew, hI _ (Below.refl _ _).drew⟩ (fun hHeld => ?_)
    refine take_next (i := 0) (v := ?_) [] (ts' := [0]) rfl (by kernel_rfl) (by kernel_rfl) (by kernel_rfl) (fun _ _ _ h => h) (.inl ⟨by rfl, ?_⟩) (by assumption) (by kernel_rfl) (d := 7) rfl (by simp only [Act.put, List.setIfInBounds_toArray, List.set_cons_zero, List.set_cons_succ]; rfl) ?_
    rotate_left
    · intro w' hSw
      try dsimp only at hSw
      go_split_ands
      go_simp
      try with_reducible rfl
    refine take_next (i := 1) (v := ?_) [0] (ts' := [0, 1]) rfl (by kernel_rfl) (by kernel_rfl) (by kernel_rfl) (fun _ _ _ h => h) (.inl ⟨by rfl, ?_⟩) (by assumption) (by kernel_rfl) (d := 8) rfl (by simp only [Act.put, List.setIfInBounds_toArray, List.set_cons_zero, List.set_cons_succ]; rfl) ?_
    rotate_left
    · intro w' hSw
      try dsimp only at hSw
      go_split_ands
      go_simp
      try with_reducible rfl
    refine take_next (i := 2) (v := ?_) [0, 1] (ts' := [0, 1, 2]) rfl (by kernel_rfl) (by kernel_rfl) (by kernel_rfl) (fun _ _ _ h => h) (.inl ⟨by rfl, ?_⟩) (by assumption) (by kernel_rfl) (d := 9) rfl (by simp only [Act.put, List.setIfInBounds_toArray, List.set_cons_zero, List.set_cons_succ]; rfl) ?_
    rotate_left
    · intro w' hSw
      try dsimp only at hSw
      go_split_ands
      go_simp
      try with_reducible rfl
    refine take_next (i := 3) (v := ?_) [0, 1, 2] (ts' := [0, 1, 2, 3]) rfl (by kernel_rfl) (by kernel_rfl) (by kernel_rfl) (fun _ _ _ h => h) (.inl ⟨by rfl, ?_⟩) (by assumption) (by kernel_rfl) (d := 10) rfl (by simp only [Act.put, List.setIfInBounds_toArray, List.set_cons_zero, List.set_cons_succ]; rfl) ?_
    rotate_left
    · intro w' hSw
      try dsimp only at hSw
      go_split_ands
      go_simp
      try with_reducible rfl
    refine take_next (i := 4) (v := _) [0, 1, 2, 3] (ts' := [0, 1, 2, 3, 4]) rfl (by kernel_rfl) (by kernel_rfl) (by kernel_rfl) (fun _ _ _ h => h) (.inr ⟨by rfl, rfl⟩) (by assumption) (by kernel_rfl) (d := 11) rfl (by simp only [Act.put, List.setIfInBounds_toArray, List.set_cons_zero, List.set_cons_succ]; rfl) ?_
    refine take_next (i := 5) (v := _) [0, 1, 2, 3, 4] (ts' := [0, 1, 2, 3, 4, 5]) rfl (by kernel_rfl) (by kernel_rfl) (by kernel_rfl) (fun _ _ _ h => h) (.inr ⟨by rfl, rfl⟩) (by assumption) (by kernel_rfl) (d := 12) rfl (by simp only [Act.put, List.setIfInBounds_toArray, List.set_cons_zero, List.set_cons_succ]; rfl) ?_
    refine take_next (i := 6) (v := _) [0, 1, 2, 3, 4, 5] (ts' := [0, 1, 2, 3, 4, 5, 6]) rfl (by kernel_rfl) (by kernel_rfl) (by kernel_rfl) (fun _ _ _ h => h) (.inr ⟨by rfl, rfl⟩) (by assumption) (by kernel_rfl) (d := 13) rfl (by simp only [Act.put, List.setIfInBounds_toArray, List.set_cons_zero, List.set_cons_succ]; rfl) ?_
    refine take_next (i := 7) (v := _) [0, 1, 2, 3, 4, 5, 6] (ts' := [0, 1, 2, 3, 4, 5, 6, 7]) rfl (by kernel_rfl) (by kernel_rfl) (by kernel_rfl) (fun _ _ _ h => h) (.inr ⟨by rfl, rfl⟩) (by assumption) (by kernel_rfl) (d := 14) rfl (by simp only [Act.put, List.setIfInBounds_toArray, List.set_cons_zero, List.set_cons_succ]; rfl) ?_
    refine take_next (i := 8) (v := _) [0, 1, 2, 3, 4, 5, 6, 7] (ts' := [0, 1, 2, 3, 4, 5, 6, 7, 8]) rfl (by kernel_rfl) (by kernel_rfl) (by kernel_rfl) (fun _ _ _ h => h) (.inr ⟨by rfl, rfl⟩) (by assumption) (by kernel_rfl) (d := 15) rfl (by simp only [Act.put, List.setIfInBounds_toArray, List.set_cons_zero, List.set_cons_succ]; rfl) ?_
    refine take_next (i := 9) (v := _) [0, 1, 2, 3, 4, 5, 6, 7, 8] (ts' := [0, 1, 2, 3, 4, 5, 6, 7, 8, 9]) rfl (by kernel_rfl) (by kernel_rfl) (by kernel_rfl) (fun _ _ _ h => h) (.inr ⟨by rfl, rfl⟩) (by assumption) (by kernel_rfl) (d := 16) rfl (by simp only [Act.put, List.setIfInBounds_toArray, List.set_cons_zero, List.set_cons_succ]; rfl) ?_
    refine take_next (i := 10) (v := ?_) [0, 1, 2, 3, 4, 5, 6, 7, 8, 9] (ts' := [0, 1, 2, 3, 4, 5, 6, 7, 8, 9, 10]) rfl (by kernel_rfl) (by kernel_rfl) (by kernel_rfl) (fun _ _ _ h => h) (.inl ⟨by rfl, ?_⟩) (by assumption) (by kernel_rfl) (d := 17) rfl (by simp only [Act.put, List.setIfInBounds_toArray, List.set_cons_zero, List.set_cons_succ]; rfl) ?_
    rotate_left
    · intro w' hSw
      try dsimp only at hSw
      go_split_ands
      go_simp
      try with_reducible rfl
    refine take_next (i := 11) (v := ?_) [0, 1, 2, 3, 4, 5, 6, 7, 8, 9, 10] (ts' := [0, 1, 2, 3, 4, 5, 6, 7, 8, 9, 10, 11]) rfl (by kernel_rfl) (by kernel_rfl) (by kernel_rfl) (fun _ _ _ h => h) (.inl ⟨by rfl, ?_⟩) (by assumption) (by kernel_rfl) (d := 18) rfl (by simp only [Act.put, List.setIfInBounds_toArray, List.set_cons_zero, List.set_cons_succ]; rfl) ?_
    rotate_left
    · intro w' hSw
      try dsimp only at hSw
      go_split_ands
      go_simp
      try with_reducible rfl
    refine take_next (i := 12) (v := _) [0, 1, 2, 3, 4, 5, 6, 7, 8, 9, 10, 11] (ts' := [0, 1, 2, 3, 4, 5, 6, 7, 8, 9, 10, 11, 12]) rfl (by kernel_rfl) (by kernel_rfl) (by kernel_rfl) (fun _ _ _ h => h) (.inr ⟨by rfl, rfl⟩) (by assumption) (by kernel_rfl) (d := 19) rfl (by simp only [Act.put, List.setIfInBounds_toArray, List.set_cons_zero, List.set_cons_succ]; rfl) ?_
    refine take_next (i := 13) (v := _) [0, 1, 2, 3, 4, 5, 6, 7, 8, 9, 10, 11, 12] (ts' := [0, 1, 2, 3, 4, 5, 6, 7, 8, 9, 10, 11, 12, 13]) rfl (by kernel_rfl) (by kernel_rfl) (by kernel_rfl) (fun _ _ _ h => h) (.inr ⟨by rfl, rfl⟩) (by assumption) (by kernel_rfl) (d := 20) rfl (by simp only [Act.put, List.setIfInBounds_toArray, List.set_cons_zero, List.set_cons_succ]; rfl) ?_
    refine take_next (i := 14) (v := _) [0, 1, 2, 3, 4, 5, 6, 7, 8, 9, 10, 11, 12, 13] (ts' := [0, 1, 2, 3, 4, 5, 6, 7, 8, 9, 10, 11, 12, 13, 14]) rfl (by kernel_rfl) (by kernel_rfl) (by kernel_rfl) (fun _ _ _ h => h) (.inr ⟨by rfl, rfl⟩) (by assumption) (by kernel_rfl) (d := 21) rfl (by simp only [Act.put, List.setIfInBounds_toArray, List.set_cons_zero, List.set_cons_succ]; rfl) ?_
    refine take_next (i := 15) (v := ?_) [0, 1, 2, 3, 4, 5, 6, 7, 8, 9, 10, 11, 12, 13, 14] (ts' := [0, 1, 2, 3, 4, 5, 6, 7, 8, 9, 10, 11, 12, 13, 14, 15]) rfl (by kernel_rfl) (by kernel_rfl) (by kernel_rfl) (fun _ _ _ h => h) (.inl ⟨by rfl, ?_⟩) (by assumption) (by kernel_rfl) (d := 22) rfl (by simp only [Act.put, List.setIfInBounds_toArray, List.set_cons_zero, List.set_cons_succ]; rfl) ?_
    rotate_left
    · intro w' hSw
      try dsimp only at hSw
      go_split_ands
      go_simp
      try with_reducible rfl
    refine take_next (i := 16) (v := ?_) [0, 1, 2, 3, 4, 5, 6, 7, 8, 9, 10, 11, 12, 13, 14, 15] (ts' := [0, 1, 2, 3, 4, 5, 6, 7, 8, 9, 10, 11, 12, 13, 14, 15, 16]) rfl (by kernel_rfl) (by kernel_rfl) (by kernel_rfl) (fun _ _ _ h => h) (.inl ⟨by rfl, ?_⟩) (by assumption) (by kernel_rfl) (d := 4) rfl (by simp only [Act.put, List.setIfInBounds_toArray, List.set_cons_zero, List.set_cons_succ]; rfl) ?_
    rotate_left
    · intro w' hSw
      try dsimp only at hSw
      go_split_ands
      go_simp
      try with_reducible rfl
    refine wpAnyH_done (by kernel_rfl) ?_ _
    try dsimp only at hHeld
    go_wp2
    go_ret
    exact ⟨ret_bool (by rw [HK.out]; simp [HN.out]), below_tr bO hHeld.1⟩
  · have hn1 : x.name.toList.isEmpty = false := by simpa using hn
    have hn2 : decide (x.name.toList = []) = false := by simpa using hn
    rw [hn2, Bool.false_or] at HK
    clear hn hn2
    generalize givenI x.name = g at *
    by_cases hg : g = x.arity
    · have hg1 : (g == x.arity) = true := by simpa using hg
      have HGG := Lib.hid hg
      clear hg HC
      go_enter Tryz.func62, Tryz.ntmps62
      go_wp2_with fail
      rw [← hO]
      clear hO
      generalize w.alloc O = wb at *
      have hI := fun W (hB : Below wb.heap.size wb W) => (⟨(hB.cell (p := ⟨_, 1, none⟩) z0).trans d1, (hB.cell (p := ⟨_, 2, none⟩) z0).trans d2⟩ : W.cell? ⟨w.heap.size, 1, none⟩ = some (.string x.name) ∧ W.cell? ⟨w.heap.size, 2, none⟩ = some (.int .i64 x.arity))
      clear d1 d2
      refine region_begin (n := 17) (S := (fun W => Below wb.heap.size wb W ∧ (W.cell? ⟨w.heap.size, 1, none⟩ = some (.string x.name) ∧ W.cell? ⟨w.heap.size, 2, none⟩ = some (.int .i64 x.arity)))) (by kernel_rfl) rfl (by kernel_rfl) ⟨(Below.refl _ _).drew, hI _ (Below.refl _ _).drew⟩ (fun hHeld => ?_)
      refine take_next (i := 0) (v := ?_) [] (ts' := [0]) rfl (by kernel_rfl) (by kernel_rfl) (by kernel_rfl) (fun _ _ _ h => h) (.inl ⟨by rfl, ?_⟩) (by assumption) (by kernel_rfl) (d := 7) rfl (by simp only [Act.put, List.setIfInBounds_toArray, List.set_cons_zero, List.set_cons_succ]; rfl) ?_
      rotate_left
      · intro w' hSw
        try dsimp only at hSw
        go_split_ands
        go_simp
        try with_reducible rfl
      refine take_next (i := 1) (v := ?_) [0] (ts' := [0, 1]) rfl (by kernel_rfl) (by kernel_rfl) (by kernel_rfl) (fun _ _ _ h => h) (.inl ⟨by rfl, ?_⟩) (by assumption) (by kernel_rfl) (d := 8) rfl (by simp only [Act.put, List.setIfInBounds_toArray, List.set_cons_zero, List.set_cons_succ]; rfl) ?_
      rotate_left
      · intro w' hSw
        try dsimp only at hSw
        go_split_ands
        go_simp
        try with_reducible rfl
      refine take_next (i := 2) (v := ?_) [0, 1] (ts' := [0, 1, 2]) rfl (by kernel_rfl) (by kernel_rfl) (by kernel_rfl) (fun _ _ _ h => h) (.inl ⟨by rfl, ?_⟩) (by assumption) (by kernel_rfl) (d := 9) rfl (by simp only [Act.put, List.setIfInBounds_toArray, List.set_cons_zero, List.set_cons_succ]; rfl) ?_
      rotate_left
      · intro w' hSw
        try dsimp only at hSw
        go_split_ands
        go_simp
        try with_reducible rfl
      refine take_next (i := 3) (v := ?_) [0, 1, 2] (ts' := [0, 1, 2, 3]) rfl (by kernel_rfl) (by kernel_rfl) (by kernel_rfl) (fun _ _ _ h => h) (.inl ⟨by rfl, ?_⟩) (by assumption) (by kernel_rfl) (d := 10) rfl (by simp only [Act.put, List.setIfInBounds_toArray, List.set_cons_zero, List.set_cons_succ]; rfl) ?_
      rotate_left
      · intro w' hSw
        try dsimp only at hSw
        go_split_ands
        go_simp
        try with_reducible rfl
      refine take_next (i := 4) (v := ?_) [0, 1, 2, 3] (ts' := [0, 1, 2, 3, 4]) rfl (by kernel_rfl) (by kernel_rfl) (by kernel_rfl) (fun _ _ _ h => h) (.inl ⟨by rfl, ?_⟩) (by assumption) (by kernel_rfl) (d := 11) rfl (by simp only [Act.put, List.setIfInBounds_toArray, List.set_cons_zero, List.set_cons_succ]; rfl) ?_
      rotate_left
      · intro w' hSw
        try dsimp only at hSw
        go_split_ands
        go_simp
        try with_reducible rfl
      refine take_next (i := 5) (v := ?_) [0, 1, 2, 3, 4] (ts' := [0, 1, 2, 3, 4, 5]) rfl (by kernel_rfl) (by kernel_rfl) (by kernel_rfl) (fun _ _ _ h => h) (.inl ⟨by rfl, ?_⟩) (by assumption) (by kernel_rfl) (d := 12) rfl (by simp only [Act.put, List.setIfInBounds_toArray, List.set_cons_zero, List.set_cons_succ]; rfl) ?_
      rotate_left
      · intro w' hSw
        try dsimp only at hSw
        go_split_ands
        go_simp
        try with_reducible rfl
      refine take_next (i := 7) (v := ?_) [0, 1, 2, 3, 4, 5] (ts' := [0, 1, 2, 3, 4, 5, 7]) rfl (by kernel_rfl) (by kernel_rfl) (by kernel_rfl) (fun _ _ _ h => h) (.inl ⟨by rfl, ?_⟩) (by assumption) (by kernel_rfl) (d := 14) rfl (by simp only [Act.put, List.setIfInBounds_toArray, List.set_cons_zero, List.set_cons_succ]; rfl) ?_
      rotate_left
      · intro w' hSw
        try dsimp only at hSw
        go_split_ands
        go_simp
        try with_reducible rfl
      refine take_next (i := 8) (v := ?_) [0, 1, 2, 3, 4, 5, 7] (ts' := [0, 1, 2, 3, 4, 5, 7, 8]) rfl (by kernel_rfl) (by kernel_rfl) (by kernel_rfl) (fun _ _ _ h => h) (.inl ⟨by rfl, ?_⟩) (by assumption) (by kernel_rfl) (d := 15) rfl (by simp only [Act.put, List.setIfInBounds_toArray, List.set_cons_zero, List.set_cons_succ]; rfl) ?_
      rotate_left
      · intro w' hSw
        try dsimp only at hSw
        go_split_ands
        go_simp
        try with_reducible rfl
      refine wpAnyH_ready (rs := [6]) (by kernel_rfl) (by simp) ?_
      refine AllReadyH.cons (o := _) rfl (fun K hK => ?_) AllReadyH.nil
      go_simp
      refine (HG _ hHeld.1).mono ?_
      rintro e w6 ⟨rfl, hb6⟩
      dsimp only
      refine hK.out _ _ ⟨below_tr hHeld.1 hb6, hI _ (below_tr hHeld.1 hb6)⟩ (fun hHeld => ?_)
      clear hK K
      refine mask_is (n := 17) [0, 1, 2, 3, 4, 5, 7, 8, 6] (by kernel_rfl) ?_
      refine take_next (i := 9) (v := ?_) [0, 1, 2, 3, 4, 5, 7, 8, 6] (ts' := [0, 1, 2, 3, 4, 5, 7, 8, 6, 9]) rfl (by kernel_rfl) (by kernel_rfl) (by kernel_rfl) (fun _ _ _ h => h) (.inl ⟨by rfl, ?_⟩) (by assumption) (by kernel_rfl) (d := 16) rfl (by simp only [Act.put, List.setIfInBounds_toArray, List.set_cons_zero, List.set_cons_succ]; rfl) ?_
      rotate_left
      · intro w' hSw
        try dsimp only at hSw
        go_split_ands
        go_simp
        try with_reducible rfl
      refine take_next (i := 10) (v := ?_) [0, 1, 2, 3, 4, 5, 7, 8, 6, 9] (ts' := [0, 1, 2, 3, 4, 5, 7, 8, 6, 9, 10]) rfl (by kernel_rfl) (by kernel_rfl) (by kernel_rfl) (fun _ _ _ h => h) (.inl ⟨by rfl, ?_⟩) (by assumption) (by kernel_rfl) (d := 17) rfl (by simp only [Act.put, List.setIfInBounds_toArray, List.set_cons_zero, List.set_cons_succ]; rfl) ?_
      rotate_left
      · intro w' hSw
        try dsimp only at hSw
        go_split_ands
        go_simp
        try with_reducible rfl
      refine take_next (i := 11) (v := ?_) [0, 1, 2, 3, 4, 5, 7, 8, 6, 9, 10] (ts' := [0, 1, 2, 3, 4, 5, 7, 8, 6, 9, 10, 11]) rfl (by kernel_rfl) (by kernel_rfl) (by kernel_rfl) (fun _ _ _ h => h) (.inl ⟨by rfl, ?_⟩) (by assumption) (by kernel_rfl) (d := 18) rfl (by simp only [Act.put, List.setIfInBounds_toArray, List.set_cons_zero, List.set_cons_succ]; rfl) ?_
      rotate_left
      · intro w' hSw
        try dsimp only at hSw
        go_split_ands
        go_simp
        try with_reducible rfl
      refine take_next (i := 12) (v := _) [0, 1, 2, 3, 4, 5, 7, 8, 6, 9, 10, 11] (ts' := [0, 1, 2, 3, 4, 5, 7, 8, 6, 9, 10, 11, 12]) rfl (by kernel_rfl) (by kernel_rfl) (by kernel_rfl) (fun _ _ _ h => h) (.inr ⟨by rfl, rfl⟩) (by assumption) (by kernel_rfl) (d := 19) rfl (by simp only [Act.put, List.setIfInBounds_toArray, List.set_cons_zero, List.set_cons_succ]; rfl) ?_
      refine take_next (i := 13) (v := _) [0, 1, 2, 3, 4, 5, 7, 8, 6, 9, 10, 11, 12] (ts' := [0, 1, 2, 3, 4, 5, 7, 8, 6, 9, 10, 11, 12, 13]) rfl (by kernel_rfl) (by kernel_rfl) (by kernel_rfl) (fun _ _ _ h => h) (.inr ⟨by rfl, rfl⟩) (by assumption) (by kernel_rfl) (d := 20) rfl (by simp only [Act.put, List.setIfInBounds_toArray, List.set_cons_zero, List.set_cons_succ]; rfl) ?_
      refine take_next (i := 14) (v := _) [0, 1, 2, 3, 4, 5, 7, 8, 6, 9, 10, 11, 12, 13] (ts' := [0, 1, 2, 3, 4, 5, 7, 8, 6, 9, 10, 11, 12, 13, 14]) rfl (by kernel_rfl) (by kernel_rfl) (by kernel_rfl) (fun _ _ _ h => h) (.inr ⟨by rfl, rfl⟩) (by assumption) (by kernel_rfl) (d := 21) rfl (by simp only [Act.put, List.setIfInBounds_toArray, List.set_cons_zero, List.set_cons_succ]; rfl) ?_
      refine take_next (i := 15) (v := ?_) [0, 1, 2, 3, 4, 5, 7, 8, 6, 9, 10, 11, 12, 13, 14] (ts' := [0, 1, 2, 3, 4, 5, 7, 8, 6, 9, 10, 11, 12, 13, 14, 15]) rfl (by kernel_rfl) (by kernel_rfl) (by kernel_rfl) (fun _ _ _ h => h) (.inl ⟨by rfl, ?_⟩) (by assumption) (by kernel_rfl) (d := 22) rfl (by simp only [Act.put, List.setIfInBounds_toArray, List.set_cons_zero, List.set_cons_succ]; rfl) ?_
      rotate_left
      · intro w' hSw
        try dsimp only at hSw
        go_split_ands
        go_simp
        try with_reducible rfl
      refine take_next (i := 16) (v := ?_) [0, 1, 2, 3, 4, 5, 7, 8, 6, 9, 10, 11, 12, 13, 14, 15] (ts' := [0, 1, 2, 3, 4, 5, 7, 8, 6, 9, 10, 11, 12, 13, 14, 15, 16]) rfl (by kernel_rfl) (by kernel_rfl) (by kernel_rfl) (fun _ _ _ h => h) (.inl ⟨by rfl, ?_⟩) (by assumption) (by kernel_rfl) (d := 4) rfl (by simp only [Act.put, List.setIfInBounds_toArray, List.set_cons_zero, List.set_cons_succ]; rfl) ?_
      rotate_left
      · intro w' hSw
        try dsimp only at hSw
        go_split_ands
        go_simp
        try with_reducible rfl
      refine wpAnyH_done (by kernel_rfl) ?_ _
      try dsimp only at hHeld
      go_wp2
      go_ret
      exact ⟨ret_bool (by rw [HK.out]; simp [HGG.out]), below_tr bO hHeld.1⟩
    · have hg1 : (g == x.arity) = false := by simpa using hg
      have HGG := Lib.hid hg
      clear hg
      generalize ts.any (meantB x.name x.arity) = bb at *
      go_enter Tryz.func62, Tryz.ntmps62
      go_wp2_with fail
      rw [← hO]
      clear hO
      generalize w.alloc O = wb at *
      have hI := fun W (hB : Below wb.heap.size wb W) => (⟨(hB.cell (p := ⟨_, 1, none⟩) z0).trans d1, (hB.cell (p := ⟨_, 2, none⟩) z0).trans d2⟩ : W.cell? ⟨w.heap.size, 1, none⟩ = some (.string x.name) ∧ W.cell? ⟨w.heap.size, 2, none⟩ = some (.int .i64 x.arity))
      clear d1 d2
      refine region_begin (n := 17) (S := (fun W => Below wb.heap.size wb W ∧ (W.cell? ⟨w.heap.size, 1, none⟩ = some (.string x.name) ∧ W.cell? ⟨w.heap.size, 2, none⟩ = some (.int .i64 x.arity)))) (by kernel_rfl) rfl (by kernel_rfl) ⟨(Below.refl _ _).drew, hI _ (Below.refl _ _).drew⟩ (fun hHeld => ?_)
      refine take_next (i := 0) (v := ?_) [] (ts' := [0]) rfl (by kernel_rfl) (by kernel_rfl) (by kernel_rfl) (fun _ _ _ h => h) (.inl ⟨by rfl, ?_⟩) (by assumption) (by kernel_rfl) (d := 7) rfl (by simp only [Act.put, List.setIfInBounds_toArray, List.set_cons_zero, List.set_cons_succ]; rfl) ?_
      rotate_left
      · intro w' hSw
        try dsimp only at hSw
        go_split_ands
        go_simp
        try with_reducible rfl
      refine take_next (i := 1) (v := ?_) [0] (ts' := [0, 1]) rfl (by kernel_rfl) (by kernel_rfl) (by kernel_rfl) (fun _ _ _ h => h) (.inl ⟨by rfl, ?_⟩) (by assumption) (by kernel_rfl) (d := 8) rfl (by simp only [Act.put, List.setIfInBounds_toArray, List.set_cons_zero, List.set_cons_succ]; rfl) ?_
      rotate_left
      · intro w' hSw
        try dsimp only at hSw
        go_split_ands
        go_simp
        try with_reducible rfl
      refine take_next (i := 2) (v := ?_) [0, 1] (ts' := [0, 1, 2]) rfl (by kernel_rfl) (by kernel_rfl) (by kernel_rfl) (fun _ _ _ h => h) (.inl ⟨by rfl, ?_⟩) (by assumption) (by kernel_rfl) (d := 9) rfl (by simp only [Act.put, List.setIfInBounds_toArray, List.set_cons_zero, List.set_cons_succ]; rfl) ?_
      rotate_left
      · intro w' hSw
        try dsimp only at hSw
        go_split_ands
        go_simp
        try with_reducible rfl
      refine take_next (i := 3) (v := ?_) [0, 1, 2] (ts' := [0, 1, 2, 3]) rfl (by kernel_rfl) (by kernel_rfl) (by kernel_rfl) (fun _ _ _ h => h) (.inl ⟨by rfl, ?_⟩) (by assumption) (by kernel_rfl) (d := 10) rfl (by simp only [Act.put, List.setIfInBounds_toArray, List.set_cons_zero, List.set_cons_succ]; rfl) ?_
      rotate_left
      · intro w' hSw
        try dsimp only at hSw
        go_split_ands
        go_simp
        try with_reducible rfl
      refine take_next (i := 4) (v := ?_) [0, 1, 2, 3] (ts' := [0, 1, 2, 3, 4]) rfl (by kernel_rfl) (by kernel_rfl) (by kernel_rfl) (fun _ _ _ h => h) (.inl ⟨by rfl, ?_⟩) (by assumption) (by kernel_rfl) (d := 11) rfl (by simp only [Act.put, List.setIfInBounds_toArray, List.set_cons_zero, List.set_cons_succ]; rfl) ?_
      rotate_left
      · intro w' hSw
        try dsimp only at hSw
        go_split_ands
        go_simp
        try with_reducible rfl
      refine take_next (i := 5) (v := ?_) [0, 1, 2, 3, 4] (ts' := [0, 1, 2, 3, 4, 5]) rfl (by kernel_rfl) (by kernel_rfl) (by kernel_rfl) (fun _ _ _ h => h) (.inl ⟨by rfl, ?_⟩) (by assumption) (by kernel_rfl) (d := 12) rfl (by simp only [Act.put, List.setIfInBounds_toArray, List.set_cons_zero, List.set_cons_succ]; rfl) ?_
      rotate_left
      · intro w' hSw
        try dsimp only at hSw
        go_split_ands
        go_simp
        try with_reducible rfl
      refine take_next (i := 7) (v := ?_) [0, 1, 2, 3, 4, 5] (ts' := [0, 1, 2, 3, 4, 5, 7]) rfl (by kernel_rfl) (by kernel_rfl) (by kernel_rfl) (fun _ _ _ h => h) (.inl ⟨by rfl, ?_⟩) (by assumption) (by kernel_rfl) (d := 14) rfl (by simp only [Act.put, List.setIfInBounds_toArray, List.set_cons_zero, List.set_cons_succ]; rfl) ?_
      rotate_left
      · intro w' hSw
        try dsimp only at hSw
        go_split_ands
        go_simp
        try with_reducible rfl
      refine take_next (i := 8) (v := ?_) [0, 1, 2, 3, 4, 5, 7] (ts' := [0, 1, 2, 3, 4, 5, 7, 8]) rfl (by kernel_rfl) (by kernel_rfl) (by kernel_rfl) (fun _ _ _ h => h) (.inl ⟨by rfl, ?_⟩) (by assumption) (by kernel_rfl) (d := 15) rfl (by simp only [Act.put, List.setIfInBounds_toArray, List.set_cons_zero, List.set_cons_succ]; rfl) ?_
      rotate_left
      · intro w' hSw
        try dsimp only at hSw
        go_split_ands
        go_simp
        try with_reducible rfl
      refine wpAnyH_ready (rs := [6]) (by kernel_rfl) (by simp) ?_
      refine AllReadyH.cons (o := _) rfl (fun K hK => ?_) AllReadyH.nil
      go_simp
      refine (HG _ hHeld.1).mono ?_
      rintro e w6 ⟨rfl, hb6⟩
      dsimp only
      refine hK.out _ _ ⟨below_tr hHeld.1 hb6, hI _ (below_tr hHeld.1 hb6)⟩ (fun hHeld => ?_)
      clear hK K
      refine mask_is (n := 17) [0, 1, 2, 3, 4, 5, 7, 8, 6] (by kernel_rfl) ?_
      refine take_next (i := 9) (v := ?_) [0, 1, 2, 3, 4, 5, 7, 8, 6] (ts' := [0, 1, 2, 3, 4, 5, 7, 8, 6, 9]) rfl (by kernel_rfl) (by kernel_rfl) (by kernel_rfl) (fun _ _ _ h => h) (.inl ⟨by rfl, ?_⟩) (by assumption) (by kernel_rfl) (d := 16) rfl (by simp only [Act.put, List.setIfInBounds_toArray, List.set_cons_zero, List.set_cons_succ]; rfl) ?_
      rotate_left
      · intro w' hSw
        try dsimp only at hSw
        go_split_ands
        go_simp
        try with_reducible rfl
      refine take_next (i := 10) (v := ?_) [0, 1, 2, 3, 4, 5, 7, 8, 6, 9] (ts' := [0, 1, 2, 3, 4, 5, 7, 8, 6, 9, 10]) rfl (by kernel_rfl) (by kernel_rfl) (by kernel_rfl) (fun _ _ _ h => h) (.inl ⟨by rfl, ?_⟩) (by assumption) (by kernel_rfl) (d := 17) rfl (by simp only [Act.put, List.setIfInBounds_toArray, List.set_cons_zero, List.set_cons_succ]; rfl) ?_
      rotate_left
      · intro w' hSw
        try dsimp only at hSw
        go_split_ands
        go_simp
        try with_reducible rfl
      refine take_next (i := 11) (v := ?_) [0, 1, 2, 3, 4, 5, 7, 8, 6, 9, 10] (ts' := [0, 1, 2, 3, 4, 5, 7, 8, 6, 9, 10, 11]) rfl (by kernel_rfl) (by kernel_rfl) (by kernel_rfl) (fun _ _ _ h => h) (.inl ⟨by rfl, ?_⟩) (by assumption) (by kernel_rfl) (d := 18) rfl (by simp only [Act.put, List.setIfInBounds_toArray, List.set_cons_zero, List.set_cons_succ]; rfl) ?_
      rotate_left
      · intro w' hSw
        try dsimp only at hSw
        go_split_ands
        go_simp
        try with_reducible rfl
      refine take_next (i := 12) (v := ?_) [0, 1, 2, 3, 4, 5, 7, 8, 6, 9, 10, 11] (ts' := [0, 1, 2, 3, 4, 5, 7, 8, 6, 9, 10, 11, 12]) rfl (by kernel_rfl) (by kernel_rfl) (by kernel_rfl) (fun _ _ _ h => h) (.inl ⟨by rfl, ?_⟩) (by assumption) (by kernel_rfl) (d := 19) rfl (by simp only [Act.put, List.setIfInBounds_toArray, List.set_cons_zero, List.set_cons_succ]; rfl) ?_
      rotate_left
      · intro w' hSw
        try dsimp only at hSw
        go_split_ands
        go_simp
        try with_reducible rfl
      refine take_next (i := 13) (v := ?_) [0, 1, 2, 3, 4, 5, 7, 8, 6, 9, 10, 11, 12] (ts' := [0, 1, 2, 3, 4, 5, 7, 8, 6, 9, 10, 11, 12, 13]) rfl (by kernel_rfl) (by kernel_rfl) (by kernel_rfl) (fun _ _ _ h => h) (.inl ⟨by rfl, ?_⟩) (by assumption) (by kernel_rfl) (d := 20) rfl (by simp only [Act.put, List.setIfInBounds_toArray, List.set_cons_zero, List.set_cons_succ]; rfl) ?_
      rotate_left
      · intro w' hSw
        try dsimp only at hSw
        go_split_ands
        go_simp
        try with_reducible rfl
      refine wpAnyH_ready (rs := [14]) (by kernel_rfl) (by simp) ?_
      refine AllReadyH.cons (o := _) rfl (fun K hK => ?_) AllReadyH.nil
      go_simp
      refine (HC _ hHeld.1).mono ?_
      rintro e w14 ⟨rfl, hb14⟩
      dsimp only
      refine hK.out _ _ ⟨below_tr hHeld.1 hb14, hI _ (below_tr hHeld.1 hb14)⟩ (fun hHeld => ?_)
      clear hK K
      refine mask_is (n := 17) [0, 1, 2, 3, 4, 5, 7, 8, 6, 9, 10, 11, 12, 13, 14] (by kernel_rfl) ?_
      refine take_next (i := 15) (v := ?_) [0, 1, 2, 3, 4, 5, 7, 8, 6, 9, 10, 11, 12, 13, 14] (ts' := [0, 1, 2, 3, 4, 5, 7, 8, 6, 9, 10, 11, 12, 13, 14, 15]) rfl (by kernel_rfl) (by kernel_rfl) (by kernel_rfl) (fun _ _ _ h => h) (.inl ⟨by rfl, ?_⟩) (by assumption) (by kernel_rfl) (d := 22) rfl (by simp only [Act.put, List.setIfInBounds_toArray, List.set_cons_zero, List.set_cons_succ]; rfl) ?_
      rotate_left
      · intro w' hSw
        try dsimp only at hSw
        go_split_ands
        go_simp
        try with_reducible rfl
      refine take_next (i := 16) (v := ?_) [0, 1, 2, 3, 4, 5, 7, 8, 6, 9, 10, 11, 12, 13, 14, 15] (ts' := [0, 1, 2, 3, 4, 5, 7, 8, 6, 9, 10, 11, 12, 13, 14, 15, 16]) rfl (by kernel_rfl) (by kernel_rfl) (by kernel_rfl) (fun _ _ _ h => h) (.inl ⟨by rfl, ?_⟩) (by assumption) (by kernel_rfl) (d := 4) rfl (by simp only [Act.put, List.setIfInBounds_toArray, List.set_cons_zero, List.set_cons_succ]; rfl) ?_
      rotate_left
      · intro w' hSw
        try dsimp only at hSw
        go_split_ands
        go_simp
        try with_reducible rfl
      refine wpAnyH_done (by kernel_rfl) ?_ _
      try dsimp only at hHeld
      go_wp2
      go_ret
      exact ⟨ret_bool (by rw [HK.out]; simp [HGG.out]), below_tr bO hHeld.1⟩
theorem iIsKnown2 (ts : List Tp) (v : Value) (b0 : Nat) (x : TyI) (u : Value) (w : World) (hc : w.cell? ⟨b0, 0, none⟩ = some v) (hb : b0 < w.heap.size) (hR : RowRd 3 TpEl w v ts) (hu : TyIVal w u x) :
    Calls Tryz.prog 61 #[u, .pointer (some ⟨b0, 0, none⟩)] w fun e w' => e = .returned (.bool (knownB ts x)) ∧ Below w.heap.size w w' := by
  have hN := fun W (hK : Kept w W) => iIsKnown ts v x u W (hR.kept TpEl.st hK) (hu.kept hK)
  obtain ⟨p, cap, rfl, hm, -⟩ := hR.form
  obtain ⟨rfl, i0, i1, i2⟩ := hu
  have hne : w.heap.size ≠ b0 := by omega
  clear hR
  go_enter Tryz.func61, Tryz.ntmps61
  go_wp2_with fail
  refine (hN _ (Kept.alloc _ _)).mono ?_
  rintro e w1 ⟨rfl, hb1⟩
  go_wp2
  go_ret
  exact ⟨rfl, below_tr (Joins.below_alloc1 w _) hb1⟩
theorem e_iIsKnown2 : ∀ args w, (callFunc 61 args).run Tryz.prog w = .ok (.enter 61 args) w := enters_of Tryz.func61 (by kernel_rfl) rfl
theorem iArgKnown (ts : List Tp) (v : Value) (b0 bk : Nat) (x : Cn) (u : Value) (w : World) (hk : w.cell? ⟨bk, 0, none⟩ = some (.func (.func 61) #[] #[.pointer (some ⟨b0, 0, none⟩)])) (hbk : bk < w.heap.size)
    (hc : w.cell? ⟨b0, 0, none⟩ = some v) (hb : b0 < w.heap.size) (hR : RowRd 3 TpEl w v ts) (hu : CnVal w u x) :
    Calls Tryz.prog 63 #[u, .pointer (some ⟨bk, 0, none⟩)] w fun e w' => e = .returned (.bool (x.arg.all (knownB ts))) ∧ Below w.heap.size w w' := by
  obtain ⟨v2, rfl, i0, r2⟩ := hu
  have hE := fun W (hW : Below w.heap.size w W) => iEveryTyI 61 #[.pointer (some ⟨b0, 0, none⟩)] e_iIsKnown2 (knownB ts) x.arg v2 W (r2.kept TyIEl.st (Kept.of_below hW))
    (fun i hi u W' hW' hu => iIsKnown2 ts v b0 x.arg[i] u W' (((bt hW hW').cell (p := ⟨b0, 0, none⟩) hb).trans hc) (Nat.lt_of_lt_of_le hb (bt hW hW').size) (hR.kept TpEl.st (Kept.of_below (bt hW hW'))) hu)
  obtain ⟨p2, c2, rfl, m2, -⟩ := r2.form
  have hne : w.heap.size ≠ bk := by omega
  clear r2 hR
  go_enter Tryz.func63, Tryz.ntmps63
  go_wp2_with fail
  refine (hE _ (Joins.below_alloc1 _ _)).mono ?_
  rintro e w1 ⟨rfl, hb1⟩
  go_wp2
  go_ret
  exact ⟨rfl, below_tr (Joins.below_alloc1 w _) hb1⟩
theorem e_iArgKnown : ∀ args w, (callFunc 63 args).run Tryz.prog w = .ok (.enter 63 args) w := enters_of Tryz.func63 (by kernel_rfl) rfl
end Go.Proofs.YthghgbdpokplhaaGreatDoor
