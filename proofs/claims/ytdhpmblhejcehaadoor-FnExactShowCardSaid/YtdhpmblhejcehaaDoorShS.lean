/- What the model shows of a value. -/
import Derived.Test.YtdhpmblhejcehaaDoorShMath
import Derived.Test.YtdhpmblhejcehaaDoorHpU
import Derived.Test.YtdhpmblhejcehaaDoorQuote
namespace Go.Proofs.YtdhpmblhejcehaaDoor
set_option linter.unusedVariables false
set_option maxRecDepth 100000
open Go.ChangeShapes Go.WideShapes Go.ChangeAt Go.RowKit

theorem sh_nat {x : Int} {d : Nat} (h : x.toNat = d + 1) : x = (d : Int) + 1 ∧ (x - 1).toNat = d := by omega
theorem shKinds {m : Int} {v : Vl} (h : valB m v = true) : v.kind = 1 ∨ v.kind = 2 ∨ v.kind = 3 ∨ v.kind = 4 ∨ v.kind = 5 ∨ v.kind = 7 ∨ v.kind = 6 := by
  unfold valB at h
  by_cases h1 : v.kind = 1
  · omega
  rw [if_neg h1] at h
  by_cases h2 : v.kind = 2
  · omega
  rw [if_neg h2] at h
  by_cases h3 : v.kind = 3 ∨ v.kind = 7
  · omega
  rw [if_neg h3] at h
  by_cases h4 : v.kind = 4 ∨ v.kind = 5
  · omega
  rw [if_neg h4] at h
  by_cases h6 : v.kind = 6
  · omega
  rw [if_neg h6] at h
  cases h
theorem heap_two {h : List Ce} {r : List Vl} (hb : heapB h r = true) {i : Nat} (hi : i < h.length) (hk : h[i].kind = 2 ∨ h[i].kind = 6) : valB h.length h[i].b = true := by
  simp only [heapB, Bool.and_eq_true, decide_eq_true_eq] at hb
  have := List.all_eq_true.1 hb.2.1 _ (List.getElem_mem hi)
  simp only [cellB, Bool.and_eq_true] at this
  have hB := this.2.2.2.1
  rwa [cellBB, if_pos hk] at hB
theorem heap_one {h : List Ce} {r : List Vl} (hb : heapB h r = true) {i : Nat} (hi : i < h.length) : valB h.length h[i].a = true ∧ 1 ≤ h[i].kind ∧ h[i].kind ≤ 6 := by
  simp only [heapB, Bool.and_eq_true, decide_eq_true_eq] at hb
  have := List.all_eq_true.1 hb.2.1 _ (List.getElem_mem hi)
  simp only [cellB, Bool.and_eq_true, decide_eq_true_eq] at this
  exact ⟨this.2.2.1, this.1, this.2.1⟩
set_option maxHeartbeats 4000000 in
theorem sShowD (h : List Ce) (r : List Vl) (hb : heapB h r = true) (hz : bulkL bCe h ≤ 1048576) : ∀ (d : Nat), d ≤ 12 → ∀ (v : Vl) (deep : Int) (va : Value) (w : World), RowRd 9 CeEl w va h → deep.toNat = d → I64 deep → valB h.length v = true → I64 v.n → v.s.size ≤ 1048576 →
    Calls Tryd.prog 34 #[va, .agg #[.int .i64 v.kind, .int .i64 v.n, .string v.s], .int .i64 deep] w fun e w' => e = .returned (.string ⟨(shT h d v).toArray⟩) ∧ Below w.heap.size w w' := by
  intro d
  induction d with
  | zero =>
    intro _ v deep va w hR hdp hdI hv hn hs
    obtain ⟨pa, ca, rfl, -, -⟩ := hR.form
    clear hR
    have hd0 : deep ≤ 0 := by omega
    have HK := shKinds hv
    obtain ⟨k, n, s⟩ := v
    simp only at HK hn hs
    rcases HK with HK | HK | HK | HK | HK | HK | HK
    · subst HK
      have HN := fun W => Lib.hid (sNumText n W (by have := hn.1; have := hn.2; omega))
      have HT := Lib.hid (show shT h 0 ⟨1, n, s⟩ = numL n from shT_pl h _ _ (by simp))
      go_enter Tryd.func34, Tryd.ntmps34
      go_wp2_with (go_at_call 54; refine (HN _).out.mono ?_; rintro e w1 ⟨rfl, hb1⟩)
      go_ret
      exact ⟨by rw [HT.out]; rfl, below_tr (Joins.below_alloc1 w _) hb1⟩
    · subst HK
      have HQ := fun W => Lib.hid (sQuote s W hs)
      have HT := Lib.hid (show shT h 0 ⟨2, n, s⟩ = quoteL s.data.toList from (shT_pl h _ _ (by simp)).trans (by simp [plT, pr_toList]))
      go_enter Tryd.func34, Tryd.ntmps34
      go_wp2_with (go_at_call 55; refine (HQ _).out.mono ?_; rintro e w1 ⟨rfl, hb1⟩)
      go_ret
      exact ⟨by rw [HT.out]; rfl, below_tr (Joins.below_alloc1 w _) hb1⟩
    · subst HK
      have HT := Lib.hid (show shT h 0 ⟨3, n, s⟩ = [40, 41] from shT_pl h _ _ (by simp))
      go_enter Tryd.func34, Tryd.ntmps34
      go_wp2
      go_ret
      exact ⟨by rw [HT.out]; rfl, Joins.below_alloc1 w _⟩
    · subst HK
      have HT := Lib.hid (show (⟨(shT h 0 ⟨4, n, s⟩).toArray⟩ : ByteArray) = s from by rw [shT_pl h _ _ (by simp)]; simp [plT, pr_toList])
      go_enter Tryd.func34, Tryd.ntmps34
      go_wp2
      go_ret
      exact ⟨by rw [HT.out]; rfl, Joins.below_alloc1 w _⟩
    · subst HK
      have HT := Lib.hid (show shT h 0 ⟨5, n, s⟩ = [60] ++ s.data.toList ++ [62] from (shT_pl h _ _ (by simp)).trans (by simp [plT, pr_toList]))
      have u1 : ¬ (9223372036854775807 < 1 + s.size) := by omega
      have u2 : ¬ (9223372036854775807 < 1 + s.size + 1) := by omega
      go_enter Tryd.func34, Tryd.ntmps34
      go_wp2
      go_ret
      exact ⟨by rw [HT.out]; rfl, Joins.below_alloc1 w _⟩
    · subst HK
      have HT := Lib.hid (show shT h 0 ⟨7, n, s⟩ = [45] from shT_pl h _ _ (by simp))
      go_enter Tryd.func34, Tryd.ntmps34
      go_wp2
      go_ret
      exact ⟨by rw [HT.out]; rfl, Joins.below_alloc1 w _⟩
    · subst HK
      have hdd : decide (deep ≤ 0) = true := by simpa using hd0
      go_enter Tryd.func34, Tryd.ntmps34
      go_wp2
      go_ret
      exact ⟨rfl, Joins.below_alloc1 w _⟩
  | succ d ih =>
    intro hd12 v deep va w hR hdp hdI hv hn hs
    have hR0 := hR
    obtain ⟨pa, ca, rfl, hm, hRf⟩ := hR.form
    unfold maxLen at hm
    clear hR
    have HK := shKinds hv
    obtain ⟨hde, dm1⟩ := sh_nat hdp
    clear hdp
    have hdd : decide (deep ≤ 0) = false := by simp; omega
    have dm2 : I64 (deep - 1) := by unfold I64 at *; omega
    have wd : wrap64 (deep - 1) = deep - 1 := by have := hdI.1; have := hdI.2; unfold wrap64; omega
    have hd12' : d ≤ 12 := by omega
    clear hde
    obtain ⟨k, n, s⟩ := v
    simp only at HK hn hs
    rcases HK with HK | HK | HK | HK | HK | HK | HK
    · subst HK
      have HN := fun W => Lib.hid (sNumText n W (by have := hn.1; have := hn.2; omega))
      have HT := Lib.hid (show shT h (d + 1) ⟨1, n, s⟩ = numL n from shT_pl h _ _ (by simp))
      go_enter Tryd.func34, Tryd.ntmps34
      go_wp2_with (go_at_call 54; refine (HN _).out.mono ?_; rintro e w1 ⟨rfl, hb1⟩)
      go_ret
      exact ⟨by rw [HT.out]; rfl, below_tr (Joins.below_alloc1 w _) hb1⟩
    · subst HK
      have HQ := fun W => Lib.hid (sQuote s W hs)
      have HT := Lib.hid (show shT h (d + 1) ⟨2, n, s⟩ = quoteL s.data.toList from (shT_pl h _ _ (by simp)).trans (by simp [plT, pr_toList]))
      go_enter Tryd.func34, Tryd.ntmps34
      go_wp2_with (go_at_call 55; refine (HQ _).out.mono ?_; rintro e w1 ⟨rfl, hb1⟩)
      go_ret
      exact ⟨by rw [HT.out]; rfl, below_tr (Joins.below_alloc1 w _) hb1⟩
    · subst HK
      have HT := Lib.hid (show shT h (d + 1) ⟨3, n, s⟩ = [40, 41] from shT_pl h _ _ (by simp))
      go_enter Tryd.func34, Tryd.ntmps34
      go_wp2
      go_ret
      exact ⟨by rw [HT.out]; rfl, Joins.below_alloc1 w _⟩
    · subst HK
      have HT := Lib.hid (show (⟨(shT h (d + 1) ⟨4, n, s⟩).toArray⟩ : ByteArray) = s from by rw [shT_pl h _ _ (by simp)]; simp [plT, pr_toList])
      go_enter Tryd.func34, Tryd.ntmps34
      go_wp2
      go_ret
      exact ⟨by rw [HT.out]; rfl, Joins.below_alloc1 w _⟩
    · subst HK
      have HT := Lib.hid (show shT h (d + 1) ⟨5, n, s⟩ = [60] ++ s.data.toList ++ [62] from (shT_pl h _ _ (by simp)).trans (by simp [plT, pr_toList]))
      have u1 : ¬ (9223372036854775807 < 1 + s.size) := by omega
      have u2 : ¬ (9223372036854775807 < 1 + s.size + 1) := by omega
      go_enter Tryd.func34, Tryd.ntmps34
      go_wp2
      go_ret
      exact ⟨by rw [HT.out]; rfl, Joins.below_alloc1 w _⟩
    · subst HK
      have HT := Lib.hid (show shT h (d + 1) ⟨7, n, s⟩ = [45] from shT_pl h _ _ (by simp))
      go_enter Tryd.func34, Tryd.ntmps34
      go_wp2
      go_ret
      exact ⟨by rw [HT.out]; rfl, Joins.below_alloc1 w _⟩
    · subst HK
      obtain ⟨n0, n1, -⟩ := val_cell hv rfl
      simp only at n0 n1
      obtain ⟨p, rfl⟩ : ∃ p : Nat, n = (p : Int) := ⟨n.toNat, by omega⟩
      have hp : p < h.length := by omega
      have hlen := sh_size (v := ⟨6, (p : Int), s⟩) hz hs (d + 1) hd12
      have HT := Lib.hid (shT_at h d ⟨6, (p : Int), s⟩ p rfl (by simp) hp)
      rw [HT.out] at hlen
      obtain ⟨q1, q2, q3⟩ := heap_one hb hp
      have hbB := fun hk => heap_two hb hp hk
      have hsz := sh_bulk hz _ (List.getElem_mem hp)
      obtain ⟨b, o, rfl, hbw, hc⟩ := hRf (by omega)
      obtain ⟨⟨e0, e1, e2, e3, e4, e5, e6, e7, e8⟩, i0, i1, i2, i3, i4, i5, i6, i7, i8⟩ := ce_at (hc p hp)
      have IA := fun W (hK : Kept w W) => Lib.hid (ih hd12' h[p].a (deep - 1) _ W (hR0.kept CeEl.st hK) dm1 dm2 q1 i4 hsz.2.1)
      have IB := fun (hk : h[p].kind = 2 ∨ h[p].kind = 6) W (hK : Kept w W) => Lib.hid (ih hd12' h[p].b (deep - 1) _ W (hR0.kept CeEl.st hK) dm1 dm2 (hbB hk) i7 hsz.2.2)
      have HN := fun W => Lib.hid (sNumText h[p].n W i1)
      have lA := sh_size hz hsz.2.1 d hd12'
      have lB := sh_size hz hsz.2.2 d hd12'
      have lN := sh_num h[p].n
      have hcs := hsz.1
      have m2 : (p : Int) < (h.length : Int) := by omega
      have m3 : (0 : Int) ≤ (p : Int) := by omega
      clear hc hbB hRf hR0 q1 hsz hlen ih
      generalize h[p] = c at *
      obtain ⟨ck, cn, cs, ca', cb⟩ := c
      simp only at HT e0 e1 e2 e3 e4 e5 e6 e7 e8 IA IB HN lA lB lN hcs q2 q3
      obtain ⟨S, rfl⟩ : ∃ S : List UInt8, cs = ⟨S.toArray⟩ := ⟨cs.data.toList, rfl⟩
      have eS : (⟨S.toArray⟩ : ByteArray).toList = S := by rw [pr_toList]
      have eL : (⟨S.toArray⟩ : ByteArray).size = S.length := by show S.toArray.size = _; simp
      rw [eL] at hcs
      generalize shT h d ca' = TA at *
      generalize shT h d cb = TB at *
      generalize hNN : numL cn = NN at *
      have HNN := Lib.hid hNN
      clear hNN
      have hk6 : ck = 1 ∨ ck = 2 ∨ ck = 3 ∨ ck = 4 ∨ ck = 5 ∨ ck = 6 := by omega
      have IA0 := fun (O1 O2 : Obj) => IA _ (Kept.al2 w O1 O2)
      clear IA q2 q3 dm1 dm2 hd12'
      rcases hk6 with rfl | rfl | rfl | rfl | rfl | rfl
      · have HF := Lib.hid (show shT h (d + 1) ⟨6, (p : Int), s⟩ = [40] ++ S ++ [32] ++ TA ++ [41] from HT.out.trans (by simp [ceT, eS]))
        have u1 : ¬ (9223372036854775807 < 1 + S.length) := by omega
        have u2 : ¬ (9223372036854775807 < 1 + S.length + 1) := by omega
        have u3 : ¬ (9223372036854775807 < 1 + S.length + 1 + TA.length) := by omega
        have u4 : ¬ (9223372036854775807 < 1 + S.length + 1 + TA.length + 1) := by omega
        clear HT
        clear IB
        go_enter Tryd.func34, Tryd.ntmps34
        go_wp2_with fail
        refine (IA0 _ _).out.mono ?_
        rintro e w1 ⟨rfl, hb1⟩
        have bb1 := below_tr (Joins.below_alloc2 w _ _) hb1
        have zz := hb1.size
        simp at zz
        have f0 := hb1.cell (p := ⟨w.heap.size + 1, 0, none⟩) (by simp)
        simp at f0
        have f1 := hb1.cell (p := ⟨w.heap.size + 1, 1, none⟩) (by simp)
        simp at f1
        have f2 := hb1.cell (p := ⟨w.heap.size + 1, 2, none⟩) (by simp)
        simp at f2
        have f6 := hb1.cell (p := ⟨w.heap.size + 1, 6, none⟩) (by simp)
        simp at f6
        have f7 := hb1.cell (p := ⟨w.heap.size + 1, 7, none⟩) (by simp)
        simp at f7
        have f8 := hb1.cell (p := ⟨w.heap.size + 1, 8, none⟩) (by simp)
        simp at f8
        go_wp2
        go_ret
        exact ⟨by rw [HF.out]; rfl, bb1⟩
      · have HF := Lib.hid (show shT h (d + 1) ⟨6, (p : Int), s⟩ = [40] ++ TA ++ [44, 32] ++ TB ++ [41] from HT.out.trans (by simp [ceT]))
        have u1 : ¬ (9223372036854775807 < 1 + TA.length) := by omega
        have u2 : ¬ (9223372036854775807 < 1 + TA.length + 2) := by omega
        have u3 : ¬ (9223372036854775807 < 1 + TA.length + 2 + TB.length) := by omega
        have u4 : ¬ (9223372036854775807 < 1 + TA.length + 2 + TB.length + 1) := by omega
        clear HT
        have IB2 := IB (by simp)
        clear IB
        go_enter Tryd.func34, Tryd.ntmps34
        go_wp2_with fail
        refine (IA0 _ _).out.mono ?_
        rintro e w1 ⟨rfl, hb1⟩
        have bb1 := below_tr (Joins.below_alloc2 w _ _) hb1
        have zz := hb1.size
        simp at zz
        have f0 := hb1.cell (p := ⟨w.heap.size + 1, 0, none⟩) (by simp)
        simp at f0
        have f1 := hb1.cell (p := ⟨w.heap.size + 1, 1, none⟩) (by simp)
        simp at f1
        have f2 := hb1.cell (p := ⟨w.heap.size + 1, 2, none⟩) (by simp)
        simp at f2
        have f6 := hb1.cell (p := ⟨w.heap.size + 1, 6, none⟩) (by simp)
        simp at f6
        have f7 := hb1.cell (p := ⟨w.heap.size + 1, 7, none⟩) (by simp)
        simp at f7
        have f8 := hb1.cell (p := ⟨w.heap.size + 1, 8, none⟩) (by simp)
        simp at f8
        have IB3 := IB2 w1 (Kept.of_below bb1)
        clear IB2
        go_wp2_with fail
        refine IB3.out.mono ?_
        rintro e w2 ⟨rfl, hb2⟩
        go_wp2
        go_ret
        exact ⟨by rw [HF.out]; rfl, below_tr bb1 hb2⟩
      · have HF := Lib.hid (show shT h (d + 1) ⟨6, (p : Int), s⟩ = [60, 102, 117, 110, 32] ++ NN ++ [32] ++ TA ++ [62] from HT.out.trans (by simp [ceT, HNN.out]))
        have u1 : ¬ (9223372036854775807 < 5 + NN.length) := by omega
        have u2 : ¬ (9223372036854775807 < 5 + NN.length + 1) := by omega
        have u3 : ¬ (9223372036854775807 < 5 + NN.length + 1 + TA.length) := by omega
        have u4 : ¬ (9223372036854775807 < 5 + NN.length + 1 + TA.length + 1) := by omega
        clear HT
        clear IB
        go_enter Tryd.func34, Tryd.ntmps34
        go_wp2_with fail
        refine (IA0 _ _).out.mono ?_
        rintro e w1 ⟨rfl, hb1⟩
        have bb1 := below_tr (Joins.below_alloc2 w _ _) hb1
        have zz := hb1.size
        simp at zz
        have f0 := hb1.cell (p := ⟨w.heap.size + 1, 0, none⟩) (by simp)
        simp at f0
        have f1 := hb1.cell (p := ⟨w.heap.size + 1, 1, none⟩) (by simp)
        simp at f1
        have f2 := hb1.cell (p := ⟨w.heap.size + 1, 2, none⟩) (by simp)
        simp at f2
        have f6 := hb1.cell (p := ⟨w.heap.size + 1, 6, none⟩) (by simp)
        simp at f6
        have f7 := hb1.cell (p := ⟨w.heap.size + 1, 7, none⟩) (by simp)
        simp at f7
        have f8 := hb1.cell (p := ⟨w.heap.size + 1, 8, none⟩) (by simp)
        simp at f8
        go_wp2_with fail
        refine (HN _).out.mono ?_
        rintro e w2 ⟨rfl, hb2⟩
        go_wp2
        go_ret
        exact ⟨by rw [HF.out]; rfl, below_tr bb1 hb2⟩
      · have HF := Lib.hid (show shT h (d + 1) ⟨6, (p : Int), s⟩ = [60, 114, 101, 99, 32] ++ NN ++ [32] ++ TA ++ [62] from HT.out.trans (by simp [ceT, HNN.out]))
        have u1 : ¬ (9223372036854775807 < 5 + NN.length) := by omega
        have u2 : ¬ (9223372036854775807 < 5 + NN.length + 1) := by omega
        have u3 : ¬ (9223372036854775807 < 5 + NN.length + 1 + TA.length) := by omega
        have u4 : ¬ (9223372036854775807 < 5 + NN.length + 1 + TA.length + 1) := by omega
        clear HT
        clear IB
        go_enter Tryd.func34, Tryd.ntmps34
        go_wp2_with fail
        refine (IA0 _ _).out.mono ?_
        rintro e w1 ⟨rfl, hb1⟩
        have bb1 := below_tr (Joins.below_alloc2 w _ _) hb1
        have zz := hb1.size
        simp at zz
        have f0 := hb1.cell (p := ⟨w.heap.size + 1, 0, none⟩) (by simp)
        simp at f0
        have f1 := hb1.cell (p := ⟨w.heap.size + 1, 1, none⟩) (by simp)
        simp at f1
        have f2 := hb1.cell (p := ⟨w.heap.size + 1, 2, none⟩) (by simp)
        simp at f2
        have f6 := hb1.cell (p := ⟨w.heap.size + 1, 6, none⟩) (by simp)
        simp at f6
        have f7 := hb1.cell (p := ⟨w.heap.size + 1, 7, none⟩) (by simp)
        simp at f7
        have f8 := hb1.cell (p := ⟨w.heap.size + 1, 8, none⟩) (by simp)
        simp at f8
        go_wp2_with fail
        refine (HN _).out.mono ?_
        rintro e w2 ⟨rfl, hb2⟩
        go_wp2
        go_ret
        exact ⟨by rw [HF.out]; rfl, below_tr bb1 hb2⟩
      · have HF := Lib.hid (show shT h (d + 1) ⟨6, (p : Int), s⟩ = [123] ++ TA ++ [125] from HT.out.trans (by simp [ceT]))
        have u1 : ¬ (9223372036854775807 < 1 + TA.length) := by omega
        have u2 : ¬ (9223372036854775807 < 1 + TA.length + 1) := by omega
        clear HT
        clear IB
        go_enter Tryd.func34, Tryd.ntmps34
        go_wp2_with fail
        refine (IA0 _ _).out.mono ?_
        rintro e w1 ⟨rfl, hb1⟩
        have bb1 := below_tr (Joins.below_alloc2 w _ _) hb1
        have zz := hb1.size
        simp at zz
        have f0 := hb1.cell (p := ⟨w.heap.size + 1, 0, none⟩) (by simp)
        simp at f0
        have f1 := hb1.cell (p := ⟨w.heap.size + 1, 1, none⟩) (by simp)
        simp at f1
        have f2 := hb1.cell (p := ⟨w.heap.size + 1, 2, none⟩) (by simp)
        simp at f2
        have f6 := hb1.cell (p := ⟨w.heap.size + 1, 6, none⟩) (by simp)
        simp at f6
        have f7 := hb1.cell (p := ⟨w.heap.size + 1, 7, none⟩) (by simp)
        simp at f7
        have f8 := hb1.cell (p := ⟨w.heap.size + 1, 8, none⟩) (by simp)
        simp at f8
        go_wp2
        go_ret
        exact ⟨by rw [HF.out]; rfl, bb1⟩
      · have HF := Lib.hid (show shT h (d + 1) ⟨6, (p : Int), s⟩ = [91] ++ TA ++ [32] ++ TB ++ [93] from HT.out.trans (by simp [ceT]))
        have u1 : ¬ (9223372036854775807 < 1 + TA.length) := by omega
        have u2 : ¬ (9223372036854775807 < 1 + TA.length + 1) := by omega
        have u3 : ¬ (9223372036854775807 < 1 + TA.length + 1 + TB.length) := by omega
        have u4 : ¬ (9223372036854775807 < 1 + TA.length + 1 + TB.length + 1) := by omega
        clear HT
        have IB2 := IB (by simp)
        clear IB
        go_enter Tryd.func34, Tryd.ntmps34
        go_wp2_with fail
        refine (IA0 _ _).out.mono ?_
        rintro e w1 ⟨rfl, hb1⟩
        have bb1 := below_tr (Joins.below_alloc2 w _ _) hb1
        have zz := hb1.size
        simp at zz
        have f0 := hb1.cell (p := ⟨w.heap.size + 1, 0, none⟩) (by simp)
        simp at f0
        have f1 := hb1.cell (p := ⟨w.heap.size + 1, 1, none⟩) (by simp)
        simp at f1
        have f2 := hb1.cell (p := ⟨w.heap.size + 1, 2, none⟩) (by simp)
        simp at f2
        have f6 := hb1.cell (p := ⟨w.heap.size + 1, 6, none⟩) (by simp)
        simp at f6
        have f7 := hb1.cell (p := ⟨w.heap.size + 1, 7, none⟩) (by simp)
        simp at f7
        have f8 := hb1.cell (p := ⟨w.heap.size + 1, 8, none⟩) (by simp)
        simp at f8
        have IB3 := IB2 w1 (Kept.of_below bb1)
        clear IB2
        go_wp2_with fail
        refine IB3.out.mono ?_
        rintro e w2 ⟨rfl, hb2⟩
        go_wp2
        go_ret
        exact ⟨by rw [HF.out]; rfl, below_tr bb1 hb2⟩
set_option maxHeartbeats 1000000 in
theorem sShowC (h : List Ce) (v : Vl) (deep : Int) (va : Value) (w : World) (hR : RowRd 9 CeEl w va h) (hz : bulkL bCe h ≤ 1048576) (hzv : v.s.size ≤ 1048576) (hk : I64 v.kind) (hn : I64 v.n) (hd : I64 deep) :
    Calls Tryd.prog 14 #[va, .agg #[.int .i64 v.kind, .int .i64 v.n, .string v.s], .int .i64 deep] w fun e w' => e = .returned (.string (shRes h v deep)) ∧ Below w.heap.size w w' := by
  have hvs : v.s.size ≤ maxLen := by unfold maxLen; omega
  have HOK := fun W (hW : Below w.heap.size w W) (T : TypeId) => Lib.hid (sHeapOk h [v] va (.slice (some ⟨W.heap.size, 0, none⟩) 1 1) (W.alloc (.cells #[.int .i64 v.kind, .int .i64 v.n, .string v.s] T)) (hR.kept CeEl.st ((Kept.of_below hW).trans (Kept.alloc _ _)))
    (RowRd.mk (l := [v]) (by simp [maxLen]) (by simp) fun _ => ⟨W.heap.size, 0, rfl, by simp, fun i hi => by
      obtain rfl : i = 0 := by simpa using hi
      exact ⟨⟨by simp, hk⟩, ⟨by simp, hn⟩, ⟨by simp, hvs⟩⟩⟩))
  have HSH := fun (hb : heapB h [v] = true) (h12 : deep ≤ 12) W (hW : Below w.heap.size w W) => Lib.hid (sShowD h [v] hb hz deep.toNat (by omega) v deep va W (hR.kept CeEl.st (Kept.of_below hW)) rfl hd (by
    simp only [heapB, Bool.and_eq_true] at hb
    exact List.all_eq_true.1 hb.2.2 v (by simp)) hn hzv)
  obtain ⟨pa, ca, rfl, -, -⟩ := hR.form
  obtain ⟨k, n, s⟩ := v
  simp only at HOK HSH
  obtain ⟨O, hO⟩ : ∃ O, O = Obj.cells #[.int .i64 k, .int .i64 n, .string s] 33 := ⟨_, rfl⟩
  have bO : Below w.heap.size w (w.alloc O) := Joins.below_alloc1 w O
  have y0 : (w.alloc O).cell? ⟨w.heap.size, 0, none⟩ = some (.int .i64 k) := by rw [hO]; simp
  have y1 : (w.alloc O).cell? ⟨w.heap.size, 1, none⟩ = some (.int .i64 n) := by rw [hO]; simp
  have y2 : (w.alloc O).cell? ⟨w.heap.size, 2, none⟩ = some (.string s) := by rw [hO]; simp
  have z : w.heap.size < (w.alloc O).heap.size := by simp
  have HOK1 := HOK _ bO 33
  have hs1 : (w.alloc O).heap.size = w.heap.size + 1 := by simp
  rw [hs1, ← hO] at HOK1
  clear hs1
  clear HOK
  cases hb : heapB h [⟨k, n, s⟩]
  · rw [hb] at HOK1
    have HB := Lib.hid (show shRes h ⟨k, n, s⟩ deep = ⟨#[]⟩ from by simp [shRes, hb])
    clear HSH
    go_enter Tryd.func14, Tryd.ntmps14
    go_wp2_with fail
    rw [← hO]
    clear hO
    generalize w.alloc O = W at *
    refine HOK1.out.mono ?_
    rintro e w1 ⟨rfl, hb1⟩
    go_wp2
    go_ret
    exact ⟨by rw [HB.out]; rfl, below_tr (below_tr bO (Joins.below_alloc1 W _)) hb1⟩
  · rw [hb] at HOK1
    have HSH2 := HSH hb
    by_cases h12 : deep ≤ 12
    · have HB := Lib.hid (show shRes h ⟨k, n, s⟩ deep = ⟨(shT h deep.toNat ⟨k, n, s⟩).toArray⟩ from by simp [shRes, hb, h12])
      have hd2 : decide (12 < deep) = false := by simp; omega
      have HSH3 := HSH2 h12
      clear HSH HSH2
      generalize shT h deep.toNat ⟨k, n, s⟩ = TT at *
      go_enter Tryd.func14, Tryd.ntmps14
      go_wp2_with fail
      rw [← hO]
      clear hO
      generalize w.alloc O = W at *
      refine HOK1.out.mono ?_
      rintro e w1 ⟨rfl, hb1⟩
      have B1 := below_tr (Joins.below_alloc1 W _) hb1
      have BB := below_tr bO B1
      have f0 := (B1.cell (p := ⟨w.heap.size, 0, none⟩) z).trans y0
      have f1 := (B1.cell (p := ⟨w.heap.size, 1, none⟩) z).trans y1
      have f2 := (B1.cell (p := ⟨w.heap.size, 2, none⟩) z).trans y2
      go_wp2_with fail
      refine (HSH3 _ BB).out.mono ?_
      rintro e w2 ⟨rfl, hb2⟩
      go_wp2
      go_ret
      exact ⟨by rw [HB.out]; rfl, below_tr BB hb2⟩
    · have HB := Lib.hid (show shRes h ⟨k, n, s⟩ deep = ⟨#[]⟩ from by simp [shRes, h12])
      have hd2 : decide (12 < deep) = true := by simp; omega
      clear HSH HSH2
      go_enter Tryd.func14, Tryd.ntmps14
      go_wp2_with fail
      rw [← hO]
      clear hO
      generalize w.alloc O = W at *
      refine HOK1.out.mono ?_
      rintro e w1 ⟨rfl, hb1⟩
      go_wp2
      go_ret
      exact ⟨by rw [HB.out]; rfl, below_tr (below_tr bO (Joins.below_alloc1 W _)) hb1⟩
end Go.Proofs.YtdhpmblhejcehaaDoor
