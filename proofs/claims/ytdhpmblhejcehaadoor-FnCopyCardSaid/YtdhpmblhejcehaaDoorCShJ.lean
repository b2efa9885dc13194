/- Texts of this proof, merged: ShS, Cat, Joined, QuoteI, ShI, ShJ. -/
import Derived.Test.YtdhpmblhejcehaaDoorCShMath
import Derived.Test.YtdhpmblhejcehaaDoorHpU
import Derived.Test.YtdhpmblhejcehaaDoorQuote
import Derived.Test.YtdhpmblhejcehaaDoorRows
import Derived.Test.YtdhpmblhejcehaaDoorShelf
import Derived.WalkKit
import Derived.ProofKit
import Derived.OpenShut
import Derived.Lib.Hide
import Derived.Test.YtdhpmblhejcehaaDoorQuoteMath
import Derived.Test.YtdhpmblhejcehaaDoorShTab
import Derived.Test.YtdhpmblhejcehaaDoorHqI
namespace Go.Proofs.YtdhpmblhejcehaaDoor
set_option linter.unusedVariables false
set_option maxRecDepth 100000
open Go.ChangeShapes Go.WideShapes Go.ChangeAt Go.RowKit

theorem sh_nat {x : Int} {d : Nat} (h : x.toNat = d + 1) : x = (d : Int) + 1 ∧ (x - 1).toNat = d := by omega
theorem shKinds {m : Int} {v : Vl} (h : valB m v = true) : v.kind = 1 ∨ v.kind = 2 ∨ v.kind = 3 ∨ v.kind = 4 ∨ v.kind = 5 ∨ v.kind = 7 ∨ v.kind = 6 := by
  unfold valB at h
  by_cases h1 : v.kind = 1
  · omega
  rw [if_neg h1] at h
  by_cases h2 : v.kind = 2
  · omega
  rw [if_neg h2] at h
  by_cases h3 : v.kind = 3 ∨ v.kind = 7
  · omega
  rw [if_neg h3] at h
  by_cases h4 : v.kind = 4 ∨ v.kind = 5
  · omega
  rw [if_neg h4] at h
  by_cases h6 : v.kind = 6
  · omega
  rw [if_neg h6] at h
  cases h
theorem heap_two {h : List Ce} {r : List Vl} (hb : heapB h r = true) {i : Nat} (hi : i < h.length) (hk : h[i].kind = 2 ∨ h[i].kind = 6) : valB h.length h[i].b = true := by
  simp only [heapB, Bool.and_eq_true, decide_eq_true_eq] at hb
  have := List.all_eq_true.1 hb.2.1 _ (List.getElem_mem hi)
  simp only [cellB, Bool.and_eq_true] at this
  have hB := this.2.2.2.1
  rwa [cellBB, if_pos hk] at hB
theorem heap_one {h : List Ce} {r : List Vl} (hb : heapB h r = true) {i : Nat} (hi : i < h.length) : valB h.length h[i].a = true ∧ 1 ≤ h[i].kind ∧ h[i].kind ≤ 6 := by
  simp only [heapB, Bool.and_eq_true, decide_eq_true_eq] at hb
  have := List.all_eq_true.1 hb.2.1 _ (List.getElem_mem hi)
  simp only [cellB, Bool.and_eq_true, decide_eq_true_eq] at this
  exact ⟨this.2.2.1, this.1, this.2.1⟩
set_option maxHeartbeats 4000000 in
theorem sShowD (h : List Ce) (r : List Vl) (hb : heapB h r = true) (hz : bulkL bCe h ≤ 1048576) : ∀ (d : Nat), d ≤ 12 → ∀ (v : Vl) (deep : Int) (va : Value) (w : World), RowRd 9 CeEl w va h → deep.toNat = d → I64 deep → valB h.length v = true → I64 v.n → v.s.size ≤ 1048576 →
    Calls Tryd.prog 34 #[va, .agg #[.int .i64 v.kind, .int .i64 v.n, .string v.s], .int .i64 deep] w fun e w' => e = .returned (.string ⟨(shT h d v).toArray⟩) ∧ Below w.heap.size w w' := by
  intro d
  induction d with
  | zero =>
    intro _ v deep va w hR hdp hdI hv hn hs
    obtain ⟨pa, ca, rfl, -, -⟩ := hR.form
    clear hR
    have hd0 : deep ≤ 0 := by omega
    have HK := shKinds hv
    obtain ⟨k, n, s⟩ := v
    simp only at HK hn hs
    rcases HK with HK | HK | HK | HK | HK | HK | HK
    · subst HK
      have HN := fun W => Lib.hid (sNumText n W (by have := hn.1; have := hn.2; omega))
      have HT := Lib.hid (show shT h 0 ⟨1, n, s⟩ = numL n from shT_pl h _ _ (by simp))
      go_enter Tryd.func34, Tryd.ntmps34
      go_wp2_with (go_at_call 54; refine (HN _).out.mono ?_; rintro e w1 ⟨rfl, hb1⟩)
      go_ret
      exact ⟨by rw [HT.out]; rfl, below_tr (Joins.below_alloc1 w _) hb1⟩
    · subst HK
      have HQ := fun W => Lib.hid (sQuote s W hs)
      have HT := Lib.hid (show shT h 0 ⟨2, n, s⟩ = quoteL s.data.toList from (shT_pl h _ _ (by simp)).trans (by simp [plT, pr_toList]))
      go_enter Tryd.func34, Tryd.ntmps34
      go_wp2_with (go_at_call 55; refine (HQ _).out.mono ?_; rintro e w1 ⟨rfl, hb1⟩)
      go_ret
      exact ⟨by rw [HT.out]; rfl, below_tr (Joins.below_alloc1 w _) hb1⟩
    · subst HK
      have HT := Lib.hid (show shT h 0 ⟨3, n, s⟩ = [40, 41] from shT_pl h _ _ (by simp))
      go_enter Tryd.func34, Tryd.ntmps34
      go_wp2
      go_ret
      exact ⟨by rw [HT.out]; rfl, Joins.below_alloc1 w _⟩
    · subst HK
      have HT := Lib.hid (show (⟨(shT h 0 ⟨4, n, s⟩).toArray⟩ : ByteArray) = s from by rw [shT_pl h _ _ (by simp)]; simp [plT, pr_toList])
      go_enter Tryd.func34, Tryd.ntmps34
      go_wp2
      go_ret
      exact ⟨by rw [HT.out]; rfl, Joins.below_alloc1 w _⟩
    · subst HK
      have HT := Lib.hid (show shT h 0 ⟨5, n, s⟩ = [60] ++ s.data.toList ++ [62] from (shT_pl h _ _ (by simp)).trans (by simp [plT, pr_toList]))
      have u1 : ¬ (9223372036854775807 < 1 + s.size) := by omega
      have u2 : ¬ (9223372036854775807 < 1 + s.size + 1) := by omega
      go_enter Tryd.func34, Tryd.ntmps34
      go_wp2
      go_ret
      exact ⟨by rw [HT.out]; rfl, Joins.below_alloc1 w _⟩
    · subst HK
      have HT := Lib.hid (show shT h 0 ⟨7, n, s⟩ = [45] from shT_pl h _ _ (by simp))
      go_enter Tryd.func34, Tryd.ntmps34
      go_wp2
      go_ret
      exact ⟨by rw [HT.out]; rfl, Joins.below_alloc1 w _⟩
    · subst HK
      have hdd : decide (deep ≤ 0) = true := by simpa using hd0
      go_enter Tryd.func34, Tryd.ntmps34
      go_wp2
      go_ret
      exact ⟨rfl, Joins.below_alloc1 w _⟩
  | succ d ih =>
    intro hd12 v deep va w hR hdp hdI hv hn hs
    have hR0 := hR
    obtain ⟨pa, ca, rfl, hm, hRf⟩ := hR.form
    unfold maxLen at hm
    clear hR
    have HK := shKinds hv
    obtain ⟨hde, dm1⟩ := sh_nat hdp
    clear hdp
    have hdd : decide (deep ≤ 0) = false := by simp; omega
    have dm2 : I64 (deep - 1) := by unfold I64 at *; omega
    have wd : wrap64 (deep - 1) = deep - 1 := by have := hdI.1; have := hdI.2; unfold wrap64; omega
    have hd12' : d ≤ 12 := by omega
    clear hde
    obtain ⟨k, n, s⟩ := v
    simp only at HK hn hs
    rcases HK with HK | HK | HK | HK | HK | HK | HK
    · subst HK
      have HN := fun W => Lib.hid (sNumText n W (by have := hn.1; have := hn.2; omega))
      have HT := Lib.hid (show shT h (d + 1) ⟨1, n, s⟩ = numL n from shT_pl h _ _ (by simp))
      go_enter Tryd.func34, Tryd.ntmps34
      go_wp2_with (go_at_call 54; refine (HN _).out.mono ?_; rintro e w1 ⟨rfl, hb1⟩)
      go_ret
      exact ⟨by rw [HT.out]; rfl, below_tr (Joins.below_alloc1 w _) hb1⟩
    · subst HK
      have HQ := fun W => Lib.hid (sQuote s W hs)
      have HT := Lib.hid (show shT h (d + 1) ⟨2, n, s⟩ = quoteL s.data.toList from (shT_pl h _ _ (by simp)).trans (by simp [plT, pr_toList]))
      go_enter Tryd.func34, Tryd.ntmps34
      go_wp2_with (go_at_call 55; refine (HQ _).out.mono ?_; rintro e w1 ⟨rfl, hb1⟩)
      go_ret
      exact ⟨by rw [HT.out]; rfl, below_tr (Joins.below_alloc1 w _) hb1⟩
    · subst HK
      have HT := Lib.hid (show shT h (d + 1) ⟨3, n, s⟩ = [40, 41] from shT_pl h _ _ (by simp))
      go_enter Tryd.func34, Tryd.ntmps34
      go_wp2
      go_ret
      exact ⟨by rw [HT.out]; rfl, Joins.below_alloc1 w _⟩
    · subst HK
      have HT := Lib.hid (show (⟨(shT h (d + 1) ⟨4, n, s⟩).toArray⟩ : ByteArray) = s from by rw [shT_pl h _ _ (by simp)]; simp [plT, pr_toList])
      go_enter Tryd.func34, Tryd.ntmps34
      go_wp2
      go_ret
      exact ⟨by rw [HT.out]; rfl, Joins.below_alloc1 w _⟩
    · subst HK
      have HT := Lib.hid (show shT h (d + 1) ⟨5, n, s⟩ = [60] ++ s.data.toList ++ [62] from (shT_pl h _ _ (by simp)).trans (by simp [plT, pr_toList]))
      have u1 : ¬ (9223372036854775807 < 1 + s.size) := by omega
      have u2 : ¬ (9223372036854775807 < 1 + s.size + 1) := by omega
      go_enter Tryd.func34, Tryd.ntmps34
      go_wp2
      go_ret
      exact ⟨by rw [HT.out]; rfl, Joins.below_alloc1 w _⟩
    · subst HK
      have HT := Lib.hid (show shT h (d + 1) ⟨7, n, s⟩ = [45] from shT_pl h _ _ (by simp))
      go_enter Tryd.func34, Tryd.ntmps34
      go_wp2
      go_ret
      exact ⟨by rw [HT.out]; rfl, Joins.below_alloc1 w _⟩
    · subst HK
      obtain ⟨n0, n1, -⟩ := val_cell hv rfl
      simp only at n0 n1
      obtain ⟨p, rfl⟩ : ∃ p : Nat, n = (p : Int) := ⟨n.toNat, by omega⟩
      have hp : p < h.length := by omega
      have hlen := sh_size (v := ⟨6, (p : Int), s⟩) hz hs (d + 1) hd12
      have HT := Lib.hid (shT_at h d ⟨6, (p : Int), s⟩ p rfl (by simp) hp)
      rw [HT.out] at hlen
      obtain ⟨q1, q2, q3⟩ := heap_one hb hp
      have hbB := fun hk => heap_two hb hp hk
      have hsz := sh_bulk hz _ (List.getElem_mem hp)
      obtain ⟨b, o, rfl, hbw, hc⟩ := hRf (by omega)
      obtain ⟨⟨e0, e1, e2, e3, e4, e5, e6, e7, e8⟩, i0, i1, i2, i3, i4, i5, i6, i7, i8⟩ := ce_at (hc p hp)
      have IA := fun W (hK : Kept w W) => Lib.hid (ih hd12' h[p].a (deep - 1) _ W (hR0.kept CeEl.st hK) dm1 dm2 q1 i4 hsz.2.1)
      have IB := fun (hk : h[p].kind = 2 ∨ h[p].kind = 6) W (hK : Kept w W) => Lib.hid (ih hd12' h[p].b (deep - 1) _ W (hR0.kept CeEl.st hK) dm1 dm2 (hbB hk) i7 hsz.2.2)
      have HN := fun W => Lib.hid (sNumText h[p].n W i1)
      have lA := sh_size hz hsz.2.1 d hd12'
      have lB := sh_size hz hsz.2.2 d hd12'
      have lN := sh_num h[p].n
      have hcs := hsz.1
      have m2 : (p : Int) < (h.length : Int) := by omega
      have m3 : (0 : Int) ≤ (p : Int) := by omega
      clear hc hbB hRf hR0 q1 hsz hlen ih
      generalize h[p] = c at *
      obtain ⟨ck, cn, cs, ca', cb⟩ := c
      simp only at HT e0 e1 e2 e3 e4 e5 e6 e7 e8 IA IB HN lA lB lN hcs q2 q3
      obtain ⟨S, rfl⟩ : ∃ S : List UInt8, cs = ⟨S.toArray⟩ := ⟨cs.data.toList, rfl⟩
      have eS : (⟨S.toArray⟩ : ByteArray).toList = S := by rw [pr_toList]
      have eL : (⟨S.toArray⟩ : ByteArray).size = S.length := by show S.toArray.size = _; simp
      rw [eL] at hcs
      generalize shT h d ca' = TA at *
      generalize shT h d cb = TB at *
      generalize hNN : numL cn = NN at *
      have HNN := Lib.hid hNN
      clear hNN
      have hk6 : ck = 1 ∨ ck = 2 ∨ ck = 3 ∨ ck = 4 ∨ ck = 5 ∨ ck = 6 := by omega
      have IA0 := fun (O1 O2 : Obj) => IA _ (Kept.al2 w O1 O2)
      clear IA q2 q3 dm1 dm2 hd12'
      rcases hk6 with rfl | rfl | rfl | rfl | rfl | rfl
      · have HF := Lib.hid (show shT h (d + 1) ⟨6, (p : Int), s⟩ = [40] ++ S ++ [32] ++ TA ++ [41] from HT.out.trans (by simp [ceT, eS]))
        have u1 : ¬ (9223372036854775807 < 1 + S.length) := by omega
        have u2 : ¬ (9223372036854775807 < 1 + S.length + 1) := by omega
        have u3 : ¬ (9223372036854775807 < 1 + S.length + 1 + TA.length) := by omega
        have u4 : ¬ (9223372036854775807 < 1 + S.length + 1 + TA.length + 1) := by omega
        clear HT
        clear IB
        go_enter Tryd.func34, Tryd.ntmps34
        go_wp2_with fail
        refine (IA0 _ _).out.mono ?_
        rintro e w1 ⟨rfl, hb1⟩
        have bb1 := below_tr (Joins.below_alloc2 w _ _) hb1
        have zz := hb1.size
        simp at zz
        have f0 := hb1.cell (p := ⟨w.heap.size + 1, 0, none⟩) (by simp)
        simp at f0
        have f1 := hb1.cell (p := ⟨w.heap.size + 1, 1, none⟩) (by simp)
        simp at f1
        have f2 := hb1.cell (p := ⟨w.heap.size + 1, 2, none⟩) (by simp)
        simp at f2
        have f6 := hb1.cell (p := ⟨w.heap.size + 1, 6, none⟩) (by simp)
        simp at f6
        have f7 := hb1.cell (p := ⟨w.heap.size + 1, 7, none⟩) (by simp)
        simp at f7
        have f8 := hb1.cell (p := ⟨w.heap.size + 1, 8, none⟩) (by simp)
        simp at f8
        go_wp2
        go_ret
        exact ⟨by rw [HF.out]; rfl, bb1⟩
      · have HF := Lib.hid (show shT h (d + 1) ⟨6, (p : Int), s⟩ = [40] ++ TA ++ [44, 32] ++ TB ++ [41] from HT.out.trans (by simp [ceT]))
        have u1 : ¬ (9223372036854775807 < 1 + TA.length) := by omega
        have u2 : ¬ (9223372036854775807 < 1 + TA.length + 2) := by omega
        have u3 : ¬ (9223372036854775807 < 1 + TA.length + 2 + TB.length) := by omega
        have u4 : ¬ (9223372036854775807 < 1 + TA.length + 2 + TB.length + 1) := by omega
        clear HT
        have IB2 := IB (by simp)
        clear IB
        go_enter Tryd.func34, Tryd.ntmps34
        go_wp2_with fail
        refine (IA0 _ _).out.mono ?_
        rintro e w1 ⟨rfl, hb1⟩
        have bb1 := below_tr (Joins.below_alloc2 w _ _) hb1
        have zz := hb1.size
        simp at zz
        have f0 := hb1.cell (p := ⟨w.heap.size + 1, 0, none⟩) (by simp)
        simp at f0
        have f1 := hb1.cell (p := ⟨w.heap.size + 1, 1, none⟩) (by simp)
        simp at f1
        have f2 := hb1.cell (p := ⟨w.heap.size + 1, 2, none⟩) (by simp)
        simp at f2
        have f6 := hb1.cell (p := ⟨w.heap.size + 1, 6, none⟩) (by simp)
        simp at f6
        have f7 := hb1.cell (p := ⟨w.heap.size + 1, 7, none⟩) (by simp)
        simp at f7
        have f8 := hb1.cell (p := ⟨w.heap.size + 1, 8, none⟩) (by simp)
        simp at f8
        have IB3 := IB2 w1 (Kept.of_below bb1)
        clear IB2
        go_wp2_with fail
        refine IB3.out.mono ?_
        rintro e w2 ⟨rfl, hb2⟩
        go_wp2
        go_ret
        exact ⟨by rw [HF.out]; rfl, below_tr bb1 hb2⟩
      · have HF := Lib.hid (show shT h (d + 1) ⟨6, (p : Int), s⟩ = [60, 102, 117, 110, 32] ++ NN ++ [32] ++ TA ++ [62] from HT.out.trans (by simp [ceT, HNN.out]))
        have u1 : ¬ (9223372036854775807 < 5 + NN.length) := by omega
        have u2 : ¬ (9223372036854775807 < 5 + NN.length + 1) := by omega
        have u3 : ¬ (9223372036854775807 < 5 + NN.length + 1 + TA.length) := by omega
        have u4 : ¬ (9223372036854775807 < 5 + NN.length + 1 + TA.length + 1) := by omega
        clear HT
        clear IB
        go_enter Tryd.func34, Tryd.ntmps34
        go_wp2_with fail
        refine (IA0 _ _).out.mono ?_
        rintro e w1 ⟨rfl, hb1⟩
        have bb1 := below_tr (Joins.below_alloc2 w _ _) hb1
        have zz := hb1.size
        simp at zz
        have f0 := hb1.cell (p := ⟨w.heap.size + 1, 0, none⟩) (by simp)
        simp at f0
        have f1 := hb1.cell (p := ⟨w.heap.size + 1, 1, none⟩) (by simp)
        simp at f1
        have f2 := hb1.cell (p := ⟨w.heap.size + 1, 2, none⟩) (by simp)
        simp at f2
        have f6 := hb1.cell (p := ⟨w.heap.size + 1, 6, none⟩) (by simp)
        simp at f6
        have f7 := hb1.cell (p := ⟨w.heap.size + 1, 7, none⟩) (by simp)
        simp at f7
        have f8 := hb1.cell (p := ⟨w.heap.size + 1, 8, none⟩) (by simp)
        simp at f8
        go_wp2_with fail
        refine (HN _).out.mono ?_
        rintro e w2 ⟨rfl, hb2⟩
        go_wp2
        go_ret
        exact ⟨by rw [HF.out]; rfl, below_tr bb1 hb2⟩
      · have HF := Lib.hid (show shT h (d + 1) ⟨6, (p : Int), s⟩ = [60, 114, 101, 99, 32] ++ NN ++ [32] ++ TA ++ [62] from HT.out.trans (by simp [ceT, HNN.out]))
        have u1 : ¬ (9223372036854775807 < 5 + NN.length) := by omega
        have u2 : ¬ (9223372036854775807 < 5 + NN.length + 1) := by omega
        have u3 : ¬ (9223372036854775807 < 5 + NN.length + 1 + TA.length) := by omega
        have u4 : ¬ (9223372036854775807 < 5 + NN.length + 1 + TA.length + 1) := by omega
        clear HT
        clear IB
        go_enter Tryd.func34, Tryd.ntmps34
        go_wp2_with fail
        refine (IA0 _ _).out.mono ?_
        rintro e w1 ⟨rfl, hb1⟩
        have bb1 := below_tr (Joins.below_alloc2 w _ _) hb1
        have zz := hb1.size
        simp at zz
        have f0 := hb1.cell (p := ⟨w.heap.size + 1, 0, none⟩) (by simp)
        simp at f0
        have f1 := hb1.cell (p := ⟨w.heap.size + 1, 1, none⟩) (by simp)
        simp at f1
        have f2 := hb1.cell (p := ⟨w.heap.size + 1, 2, none⟩) (by simp)
        simp at f2
        have f6 := hb1.cell (p := ⟨w.heap.size + 1, 6, none⟩) (by simp)
        simp at f6
        have f7 := hb1.cell (p := ⟨w.heap.size + 1, 7, none⟩) (by simp)
        simp at f7
        have f8 := hb1.cell (p := ⟨w.heap.size + 1, 8, none⟩) (by simp)
        simp at f8
        go_wp2_with fail
        refine (HN _).out.mono ?_
        rintro e w2 ⟨rfl, hb2⟩
        go_wp2
        go_ret
        exact ⟨by rw [HF.out]; rfl, below_tr bb1 hb2⟩
      · have HF := Lib.hid (show shT h (d + 1) ⟨6, (p : Int), s⟩ = [123] ++ TA ++ [125] from HT.out.trans (by simp [ceT]))
        have u1 : ¬ (9223372036854775807 < 1 + TA.length) := by omega
        have u2 : ¬ (9223372036854775807 < 1 + TA.length + 1) := by omega
        clear HT
        clear IB
        go_enter Tryd.func34, Tryd.ntmps34
        go_wp2_with fail
        refine (IA0 _ _).out.mono ?_
        rintro e w1 ⟨rfl, hb1⟩
        have bb1 := below_tr (Joins.below_alloc2 w _ _) hb1
        have zz := hb1.size
        simp at zz
        have f0 := hb1.cell (p := ⟨w.heap.size + 1, 0, none⟩) (by simp)
        simp at f0
        have f1 := hb1.cell (p := ⟨w.heap.size + 1, 1, none⟩) (by simp)
        simp at f1
        have f2 := hb1.cell (p := ⟨w.heap.size + 1, 2, none⟩) (by simp)
        simp at f2
        have f6 := hb1.cell (p := ⟨w.heap.size + 1, 6, none⟩) (by simp)
        simp at f6
        have f7 := hb1.cell (p := ⟨w.heap.size + 1, 7, none⟩) (by simp)
        simp at f7
        have f8 := hb1.cell (p := ⟨w.heap.size + 1, 8, none⟩) (by simp)
        simp at f8
        go_wp2
        go_ret
        exact ⟨by rw [HF.out]; rfl, bb1⟩
      · have HF := Lib.hid (show shT h (d + 1) ⟨6, (p : Int), s⟩ = [91] ++ TA ++ [32] ++ TB ++ [93] from HT.out.trans (by simp [ceT]))
        have u1 : ¬ (9223372036854775807 < 1 + TA.length) := by omega
        have u2 : ¬ (9223372036854775807 < 1 + TA.length + 1) := by omega
        have u3 : ¬ (9223372036854775807 < 1 + TA.length + 1 + TB.length) := by omega
        have u4 : ¬ (9223372036854775807 < 1 + TA.length + 1 + TB.length + 1) := by omega
        clear HT
        have IB2 := IB (by simp)
        clear IB
        go_enter Tryd.func34, Tryd.ntmps34
        go_wp2_with fail
        refine (IA0 _ _).out.mono ?_
        rintro e w1 ⟨rfl, hb1⟩
        have bb1 := below_tr (Joins.below_alloc2 w _ _) hb1
        have zz := hb1.size
        simp at zz
        have f0 := hb1.cell (p := ⟨w.heap.size + 1, 0, none⟩) (by simp)
        simp at f0
        have f1 := hb1.cell (p := ⟨w.heap.size + 1, 1, none⟩) (by simp)
        simp at f1
        have f2 := hb1.cell (p := ⟨w.heap.size + 1, 2, none⟩) (by simp)
        simp at f2
        have f6 := hb1.cell (p := ⟨w.heap.size + 1, 6, none⟩) (by simp)
        simp at f6
        have f7 := hb1.cell (p := ⟨w.heap.size + 1, 7, none⟩) (by simp)
        simp at f7
        have f8 := hb1.cell (p := ⟨w.heap.size + 1, 8, none⟩) (by simp)
        simp at f8
        have IB3 := IB2 w1 (Kept.of_below bb1)
        clear IB2
        go_wp2_with fail
        refine IB3.out.mono ?_
        rintro e w2 ⟨rfl, hb2⟩
        go_wp2
        go_ret
        exact ⟨by rw [HF.out]; rfl, below_tr bb1 hb2⟩
set_option maxHeartbeats 1000000 in
theorem sShowC (h : List Ce) (v : Vl) (deep : Int) (va : Value) (w : World) (hR : RowRd 9 CeEl w va h) (hz : bulkL bCe h ≤ 1048576) (hzv : v.s.size ≤ 1048576) (hk : I64 v.kind) (hn : I64 v.n) (hd : I64 deep) :
    Calls Tryd.prog 14 #[va, .agg #[.int .i64 v.kind, .int .i64 v.n, .string v.s], .int .i64 deep] w fun e w' => e = .returned (.string (shRes h v deep)) ∧ Below w.heap.size w w' := by
  have hvs : v.s.size ≤ maxLen := by unfold maxLen; omega
  have HOK := fun W (hW : Below w.heap.size w W) (T : TypeId) => Lib.hid (sHeapOk h [v] va (.slice (some ⟨W.heap.size, 0, none⟩) 1 1) (W.alloc (.cells #[.int .i64 v.kind, .int .i64 v.n, .string v.s] T)) (hR.kept CeEl.st ((Kept.of_below hW).trans (Kept.alloc _ _)))
    (RowRd.mk (l := [v]) (by simp [maxLen]) (by simp) fun _ => ⟨W.heap.size, 0, rfl, by simp, fun i hi => by
      obtain rfl : i = 0 := by simpa using hi
      exact ⟨⟨by simp, hk⟩, ⟨by simp, hn⟩, ⟨by simp, hvs⟩⟩⟩))
  have HSH := fun (hb : heapB h [v] = true) (h12 : deep ≤ 12) W (hW : Below w.heap.size w W) => Lib.hid (sShowD h [v] hb hz deep.toNat (by omega) v deep va W (hR.kept CeEl.st (Kept.of_below hW)) rfl hd (by
    simp only [heapB, Bool.and_eq_true] at hb
    exact List.all_eq_true.1 hb.2.2 v (by simp)) hn hzv)
  obtain ⟨pa, ca, rfl, -, -⟩ := hR.form
  obtain ⟨k, n, s⟩ := v
  simp only at HOK HSH
  obtain ⟨O, hO⟩ : ∃ O, O = Obj.cells #[.int .i64 k, .int .i64 n, .string s] 33 := ⟨_, rfl⟩
  have bO : Below w.heap.size w (w.alloc O) := Joins.below_alloc1 w O
  have y0 : (w.alloc O).cell? ⟨w.heap.size, 0, none⟩ = some (.int .i64 k) := by rw [hO]; simp
  have y1 : (w.alloc O).cell? ⟨w.heap.size, 1, none⟩ = some (.int .i64 n) := by rw [hO]; simp
  have y2 : (w.alloc O).cell? ⟨w.heap.size, 2, none⟩ = some (.string s) := by rw [hO]; simp
  have z : w.heap.size < (w.alloc O).heap.size := by simp
  have HOK1 := HOK _ bO 33
  have hs1 : (w.alloc O).heap.size = w.heap.size + 1 := by simp
  rw [hs1, ← hO] at HOK1
  clear hs1
  clear HOK
  cases hb : heapB h [⟨k, n, s⟩]
  · rw [hb] at HOK1
    have HB := Lib.hid (show shRes h ⟨k, n, s⟩ deep = ⟨#[]⟩ from by simp [shRes, hb])
    clear HSH
    go_enter Tryd.func14, Tryd.ntmps14
    go_wp2_with fail
    rw [← hO]
    clear hO
    generalize w.alloc O = W at *
    refine HOK1.out.mono ?_
    rintro e w1 ⟨rfl, hb1⟩
    go_wp2
    go_ret
    exact ⟨by rw [HB.out]; rfl, below_tr (below_tr bO (Joins.below_alloc1 W _)) hb1⟩
  · rw [hb] at HOK1
    have HSH2 := HSH hb
    by_cases h12 : deep ≤ 12
    · have HB := Lib.hid (show shRes h ⟨k, n, s⟩ deep = ⟨(shT h deep.toNat ⟨k, n, s⟩).toArray⟩ from by simp [shRes, hb, h12])
      have hd2 : decide (12 < deep) = false := by simp; omega
      have HSH3 := HSH2 h12
      clear HSH HSH2
      generalize shT h deep.toNat ⟨k, n, s⟩ = TT at *
      go_enter Tryd.func14, Tryd.ntmps14
      go_wp2_with fail
      rw [← hO]
      clear hO
      generalize w.alloc O = W at *
      refine HOK1.out.mono ?_
      rintro e w1 ⟨rfl, hb1⟩
      have B1 := below_tr (Joins.below_alloc1 W _) hb1
      have BB := below_tr bO B1
      have f0 := (B1.cell (p := ⟨w.heap.size, 0, none⟩) z).trans y0
      have f1 := (B1.cell (p := ⟨w.heap.size, 1, none⟩) z).trans y1
      have f2 := (B1.cell (p := ⟨w.heap.size, 2, none⟩) z).trans y2
      go_wp2_with fail
      refine (HSH3 _ BB).out.mono ?_
      rintro e w2 ⟨rfl, hb2⟩
      go_wp2
      go_ret
      exact ⟨by rw [HB.out]; rfl, below_tr BB hb2⟩
    · have HB := Lib.hid (show shRes h ⟨k, n, s⟩ deep = ⟨#[]⟩ from by simp [shRes, h12])
      have hd2 : decide (12 < deep) = true := by simp; omega
      clear HSH HSH2
      go_enter Tryd.func14, Tryd.ntmps14
      go_wp2_with fail
      rw [← hO]
      clear hO
      generalize w.alloc O = W at *
      refine HOK1.out.mono ?_
      rintro e w1 ⟨rfl, hb1⟩
      go_wp2
      go_ret
      exact ⟨by rw [HB.out]; rfl, below_tr (below_tr bO (Joins.below_alloc1 W _)) hb1⟩
end Go.Proofs.YtdhpmblhejcehaaDoor
namespace Go.Proofs.YtdhpmblhejcehaaDoor
set_option linter.unusedVariables false
set_option maxRecDepth 100000
open Go.ChangeShapes Go.WideShapes Go.ChangeAt Go.RowKit

def cat (xs : List ByteArray) : List UInt8 := (xs.map (·.data.toList)).flatten
theorem join_nil (xs : List (List UInt8)) : Lib.join xs [] = xs.flatten := by
  induction xs with
  | nil => rfl
  | cons x r ih =>
    cases r with
    | nil => simp [Lib.join, List.intercalate]
    | cons y t => rw [Lib.join_cons, List.flatten_cons]; congr 1; simp [Lib.joinTail]

theorem joined (bk o c : Nat) (xs : List ByteArray) (w : World) (hcells : ∀ (j : Nat) x, xs[j]? = some x → w.cell? ⟨bk, o + j, none⟩ = some (.string x)) (hbk : bk < w.heap.size) (hN : xs.length ≤ 140737488355328) (hcap : xs.length ≤ c) (hlen : (cat xs).length ≤ 140737488355328) :
    Calls Tryd.prog 52 #[.slice (some ⟨bk, o, none⟩) xs.length c] w fun e w' => e = .returned (.string ⟨(cat xs).toArray⟩) ∧ Below w.heap.size w w' := by
  have hj : Lib.join (xs.map (·.data.toList)) (⟨#[]⟩ : ByteArray).data.toList = cat xs := join_nil _
  have hl : (Lib.join (xs.map (·.data.toList)) (⟨#[]⟩ : ByteArray).data.toList).length ≤ 140737488355328 := by rw [hj]; exact hlen
  have HJ := Lib.hid hj
  have HC := Lib.hid hcells
  clear hj hcells
  go_enter Tryd.func52, Tryd.ntmps52
  go_wp2_with (go_at_call 64; refine (Tryd.strings_Join bk o c xs _ _ HC.out hbk hN hcap hl).mono ?_; rintro e w1 ⟨rfl, hb⟩)
  go_ret
  exact ⟨by rw [← HJ.out]; rfl, hb⟩

theorem strs_new (w : World) (C : Array Value) (T : TypeId) (xs : List ByteArray) (h : C.toList = xs.map Value.string) : ∀ (j : Nat) x, xs[j]? = some x → (w.alloc (.cells C T)).cell? ⟨w.heap.size, 0 + j, none⟩ = some (.string x) := by
  intro j x hj
  rw [Nat.zero_add, World.cell?_alloc_new, ← Array.getElem?_toList, h, List.getElem?_map, hj]; rfl

theorem strs_at (w : World) (n : Nat) (C : Array Value) (T : TypeId) (xs : List ByteArray) (hn : n = w.heap.size) (h : C.toList = xs.map Value.string) : ∀ (j : Nat) x, xs[j]? = some x → (w.alloc (.cells C T)).cell? ⟨n, 0 + j, none⟩ = some (.string x) := by
  subst hn; exact strs_new w C T xs h
end Go.Proofs.YtdhpmblhejcehaaDoor
namespace Go.Proofs.YtdhpmblhejcehaaDoor
set_option linter.unusedVariables false
set_option maxRecDepth 100000
open Go.ChangeShapes Go.WideShapes Go.ChangeAt Go.RowKit

theorem hex_slice (u : Int) (v : Nat) (h : 0 ≤ u ∧ u < 16) (hv : u = v) (W : World) :
    (Instr.slice 9 (.string ⟨#[48, 49, 50, 51, 52, 53, 54, 55, 56, 57, 97, 98, 99, 100, 101, 102]⟩) (some (.int .u8 u)) (some (.int .u8 (IntKind.u8.wrap (u + 1)))) none).run Tryd.prog W = .ok (.string ⟨#[hexB v]⟩) W := by
  subst hv
  have : v = 0 ∨ v = 1 ∨ v = 2 ∨ v = 3 ∨ v = 4 ∨ v = 5 ∨ v = 6 ∨ v = 7 ∨ v = 8 ∨ v = 9 ∨ v = 10 ∨ v = 11 ∨ v = 12 ∨ v = 13 ∨ v = 14 ∨ v = 15 := by omega
  rcases this with rfl | rfl | rfl | rfl | rfl | rfl | rfl | rfl | rfl | rfl | rfl | rfl | rfl | rfl | rfl | rfl <;> rfl

theorem quotedByte (c : UInt8) (w : World) :
    Calls Tryd.prog 63 #[.int .u8 (c.toNat : Int)] w fun e w' => e = .returned (.string ⟨(qb c).toArray⟩) ∧ Below w.heap.size w w' := by
  have hcb := byte_bd' c
  have hcv := own_string (l := [c]) (World.ownsRow_lit w #[.int .u8 (c.toNat : Int)] 1 (Nat.le_refl _) (by decide) rfl) rfl (by decide) rfl
  obtain ⟨g, cap, hg, hcv⟩ := hcv
  simp only [Value.slice.injEq, Option.some.injEq, Addr.mk.injEq] at hg
  obtain ⟨⟨rfl, _⟩, _, rfl⟩ := hg
  by_cases h10 : (c.toNat : Int) = 10
  · have H10 := Lib.hid h10
    have t1 : ((c.toNat : Int) == 10) = true := by simpa using h10
    clear h10
    go_enter Tryd.func63, Tryd.ntmps63
    go_wp2
    go_ret
    exact ⟨by rw [qb_ten _ H10.out]; rfl, (Below.refl _ _).alloc (Nat.le_refl _) _⟩
  have t1 : ((c.toNat : Int) == 10) = false := by simpa using h10
  by_cases h34 : (c.toNat : Int) = 34 ∨ (c.toNat : Int) = 92
  · have H34 := Lib.hid h34
    by_cases h34a : (c.toNat : Int) = 34
    all_goals
      first
      | (have t2 : ((c.toNat : Int) == 34) = true := by simpa using h34a
         clear h34a h34)
      | (have t2 : ((c.toNat : Int) == 92) = true := by simpa [h34a] using h34
         have t3 : ((c.toNat : Int) == 34) = false := by simpa using h34a
         clear h34a h34)
      have H10 := Lib.hid h10
      clear h10
      go_enter Tryd.func63, Tryd.ntmps63
      go_wp2_with (go_at_call 52; go_loud (refine (joined (w.heap.size + 1) 0 2 [⟨#[92]⟩, ⟨#[c]⟩] ((w.alloc (.cells #[.int .u8 (c.toNat : Int)] 5)).alloc (.cells #[.string ⟨#[92]⟩, .string ⟨#[c]⟩] 9)) (strs_at _ _ _ _ _ (by simp) rfl) (by simp) (by simp) (by simp) (by simp [cat])).mono ?_); rintro e w1 ⟨rfl, hb⟩)
      go_ret
      refine ⟨by rw [qb_esc _ H10.out H34.out]; rfl, ?_⟩
      exact (((Below.refl _ _).alloc (Nat.le_refl _) _).alloc (by simp) _).trans (hb.mono (by simp; omega))
  · have n34 : ((c.toNat : Int) == 34) = false := by simpa using fun h => h34 (.inl h)
    have n92 : ((c.toNat : Int) == 92) = false := by simpa using fun h => h34 (.inr h)
    have H34 := Lib.hid h34
    have H10 := Lib.hid h10
    clear h34 h10
    by_cases h32 : 32 ≤ (c.toNat : Int) ∧ (c.toNat : Int) ≤ 126
    · have H32 := Lib.hid h32
      obtain ⟨h32a, h32b⟩ := h32
      go_enter Tryd.func63, Tryd.ntmps63
      go_wp2
      go_ret
      exact ⟨by rw [qb_self _ H10.out H34.out H32.out]; rfl, (Below.refl _ _).alloc (Nat.le_refl _) _⟩
    · have H32 := Lib.hid h32
      have hx1 := hex_slice ((c.toNat : Int) / 16) (c.toNat / 16) (by omega) (by omega)
      have hx2 := hex_slice ((c.toNat : Int) % 16) (c.toNat % 16) (by omega) (by omega)
      by_cases h33 : 32 ≤ (c.toNat : Int)
      all_goals
        first | (have n126 : 126 < (c.toNat : Int) := by omega
                 clear h32) | clear h32
        go_enter Tryd.func63, Tryd.ntmps63
        go_wp2
        go_region_with ((go_at_call 52; refine (joined (w.heap.size + 1) 0 3 [⟨#[92, 120]⟩, ⟨#[hexB (c.toNat / 16)]⟩, ⟨#[hexB (c.toNat % 16)]⟩] (((w.alloc (.cells #[.int .u8 (c.toNat : Int)] 5)).drew).alloc (.cells #[.string ⟨#[92, 120]⟩, .string ⟨#[hexB (c.toNat / 16)]⟩, .string ⟨#[hexB (c.toNat % 16)]⟩] 9)) (strs_at _ _ _ _ _ (by simp) rfl) (by simp) (by simp) (by simp) (by simp [cat])).mono ?_; rintro e w1 ⟨rfl, hb⟩))
        go_wp2
        go_ret
        refine ⟨by rw [qb_hex _ H10.out H34.out H32.out]; rfl, ?_⟩
        exact ((((Below.refl _ _).alloc (Nat.le_refl _) _).drew).alloc (by simp) _).trans (hb.mono (by simp; omega))
end Go.Proofs.YtdhpmblhejcehaaDoor
namespace Go.Proofs.YtdhpmblhejcehaaDoor
set_option linter.unusedVariables false
set_option maxRecDepth 100000
open Go.ChangeShapes Go.WideShapes Go.ChangeAt Go.RowKit

theorem info_str : (Tryd.prog.info? 9).map (fun i => (i.zero, i.size, i.bytes)) = some (some (.string ⟨#[]⟩), 1, 16) := by kernel_rfl
def piece (c : UInt8) : ByteArray := ⟨(qb c).toArray⟩
def pieces (s : ByteArray) (k : Nat) : List ByteArray := ⟨#[34]⟩ :: (s.data.toList.take k).map piece
theorem pieces_length (s : ByteArray) (k : Nat) (hk : k ≤ s.size) : (pieces s k).length = k + 1 := by simp [pieces]; omega
theorem pieces_succ (s : ByteArray) (k : Nat) (h : k < s.size) : pieces s (k + 1) = pieces s k ++ [piece s[k]] := by
  unfold pieces
  have ht : s.data.toList.take (k + 1) = s.data.toList.take k ++ [s[k]] := by
    rw [List.take_succ_eq_append_getElem (by simpa using h)]; rfl
  rw [ht]; simp
theorem pieces_end (s : ByteArray) : cat (pieces s s.size ++ [⟨#[34]⟩]) = quoteL s.data.toList := by
  have h : s.data.toList.take s.size = s.data.toList := List.take_of_length_le (by simp)
  unfold cat pieces quoteL
  rw [h]
  simp only [List.map_append, List.map_cons, List.map_map, List.map_nil, List.flatten_append, List.flatten_cons, List.flatten_nil, List.flatMap_def]
  simp [piece, Function.comp_def]
theorem cat_length (s : ByteArray) (h : s.size ≤ 1048576) : (cat (pieces s s.size ++ [⟨#[34]⟩])).length ≤ 140737488355328 := by
  rw [pieces_end]; unfold quoteL
  have := flat_length s.data.toList
  simp only [List.length_cons, List.length_append, List.length_nil]
  have hs : s.data.toList.length = s.size := rfl
  omega
set_option maxRecDepth 100000 in
set_option maxHeartbeats 1000000 in
theorem iQuote (s : ByteArray) (w : World) (hs : s.size ≤ 1048576) :
    Calls Tryd.prog 51 #[.string s] w fun e w' => e = .returned (.string ⟨(quoteL s.data.toList).toArray⟩) ∧ Below w.heap.size w w' := by
  obtain ⟨i0, hi, hz0, hz1, hz2⟩ := info_parts info_str
  go_enter Tryd.func51, Tryd.ntmps51
  go_wp2
  go_loopw [3, 4] (fun v i wr => ∃ k : Nat, k ≤ s.size ∧ i = .int .i64 k ∧ wr.ownsRow w.heap.size 9 1 v (pieces s k).length (sc (pieces s k)) ∧ Below w.heap.size w wr ∧ w.heap.size ≤ wr.heap.size)
    (fun _ i _ => s.size - (intOf i).toNat)
  case atStart => 
    refine ⟨0, Nat.zero_le _, rfl, ?_, (Below.refl _ _).alloc (Nat.le_refl _) _, by simp⟩
    exact World.ownsRow_lit w #[.string ⟨#[34]⟩] 1 (Nat.le_refl _) (by decide) rfl
  case round =>
    obtain ⟨k, hk, rfl, hown, hbel, hBs⟩ := hrel
    have hql := pieces_length s k hk
    have HL := Lib.hid hql
    have hqb : (pieces s k).length ≤ 1048577 := by omega
    clear hql
    by_cases hlt : k < s.size
    · have hq := Lib.hid (pieces_succ s k hlt)
      go_wp2_with (first
        | (go_at_call 63; refine (quotedByte _ _).mono ?_; rintro e w1 ⟨rfl, hb⟩; have hown1 := own_below hown hb; have hbel1 := hbel.trans (hb.mono hBs); have hBs1 := Nat.le_trans hBs hb.size)
        | (at_builtin; refine wpList_append_own _ rfl (.tmp 12) (.tmp 17) 85 rfl w.heap.size 9 i0 (.string ⟨#[]⟩) 1 16 Tryd.underlying85 hi hz0 hz1 hz2 rfl (by decide) _ (pieces s k).length (sc (pieces s k)) rfl (hown1.alloc _) ⟨w1.heap.size, 0, none⟩ 1 1 [.string (piece s[k])] rfl rfl (new_cells _ _ _ _ rfl) (sc_one [piece s[k]]) (by unfold maxLen; omega) (by omega) (by simp; omega) ?_; intro v' w2 hown' hgrow _))
      have R := own_app hown1 hbel1 (Nat.le_refl _) hBs1 hgrow
      have O := own_strs rfl rfl (l' := [piece s[k]]) rfl rfl hown'
      clear hown hown1 hown' hgrow hbel hbel1
      go_roundw
      case rel => exact ⟨k + 1, by omega, by go_num, by rw [hq.out]; exact O, R.1, R.2⟩
      case measure => simp [intOf]; omega
    · obtain rfl : k = s.size := by omega
      have hq := Lib.hid (pieces_end s)
      have hcl := Lib.hid (cat_length s hs)
      go_wp2_with (first
        | (at_builtin; refine wpList_append_own _ rfl (.tmp 19) (.tmp 20) 85 rfl w.heap.size 9 i0 (.string ⟨#[]⟩) 1 16 Tryd.underlying85 hi hz0 hz1 hz2 rfl (by decide) _ (pieces s s.size).length (sc (pieces s s.size)) rfl (hown.alloc _) ⟨wr.heap.size, 0, none⟩ 1 1 [.string ⟨#[34]⟩] rfl rfl (new_cells _ _ _ _ rfl) (sc_one [⟨#[34]⟩]) (by unfold maxLen; omega) (by omega) (by simp; omega) ?_; intro v' w1 hown' hgrow _; have R := own_app hown hbel (Nat.le_refl _) hBs hgrow; have O := own_strs rfl rfl (l' := [⟨#[34]⟩]) rfl rfl hown'; obtain ⟨g, cap, rfl, hg1, hg2, hg3, hg4, _⟩ := own_shape O (by simp))
        | fail)
      have hcell : ∀ (j : Nat) x, (pieces s s.size ++ [⟨#[34]⟩])[j]? = some x → w1.cell? ⟨g, 0 + j, none⟩ = some (.string x) := fun j x hj => by
        rw [Nat.zero_add, hg4 j (List.getElem?_eq_some_iff.1 hj).1, sc, List.getElem?_map, hj]; rfl
      have J := joined g 0 cap _ w1 hcell hg2 (by simp only [List.length_append, List.length_singleton]; omega) hg3 hcl.out
      simp only [List.length_append, List.length_cons, List.length_nil, Nat.zero_add] at J
      refine J.mono ?_
      rintro e w2 ⟨rfl, hb⟩
      clear hcell hg4
      go_wp2
      go_ret
      exact ⟨by rw [← hq.out]; rfl, R.1.trans (hb.mono R.2)⟩
end Go.Proofs.YtdhpmblhejcehaaDoor
namespace Go.Proofs.YtdhpmblhejcehaaDoor
set_option linter.unusedVariables false
set_option maxRecDepth 100000
open Go.ChangeShapes Go.WideShapes Go.ChangeAt Go.RowKit

/-- A text out of pieces, joined: the new literal's block, the pieces. -/
theorem joined_new (xs : List ByteArray) (C : Array Value) (n : Nat) (W : World) (hC : C.toList = xs.map Value.string) (hn : n = W.heap.size) (hx : xs.length ≤ 10) (hl : (cat xs).length ≤ 140737488355328) :
    Calls Tryd.prog 52 #[.slice (some ⟨n, 0, none⟩) xs.length xs.length] (W.alloc (.cells C 9)) fun e w' => e = .returned (.string ⟨(cat xs).toArray⟩) ∧ Below W.heap.size W w' := by
  subst hn
  exact (joined W.heap.size 0 xs.length xs _ (strs_new W C _ xs hC) (by simp) (by omega) (Nat.le_refl _) hl).mono fun e w' h => ⟨h.1, below_tr (Joins.below_alloc1 W _) h.2⟩
theorem sh_data (s : ByteArray) : s.toList = s.data.toList := by rw [pr_toList]
set_option maxHeartbeats 2000000 in
theorem iShCell (pa : Option Addr) (m ca : Nat) (deep : Int) (c : Ce) (A B : List UInt8) (w : World) (E : TabS w) (hk : 1 ≤ c.kind ∧ c.kind ≤ 6) (hn : I64 c.n) (hs : c.s.size ≤ 1048576) (hA : A.length ≤ 40000000000) (hB : B.length ≤ 40000000000)
    (HA : ∀ W, Below w.heap.size w W → Calls Tryd.prog 32 #[.slice pa m ca, .agg #[.int .i64 c.a.kind, .int .i64 c.a.n, .string c.a.s], .int .i64 deep] W fun e w' => e = .returned (.string ⟨A.toArray⟩) ∧ Below W.heap.size W w')
    (HB : (c.kind = 2 ∨ c.kind = 6) → ∀ W, Below w.heap.size w W → Calls Tryd.prog 32 #[.slice pa m ca, .agg #[.int .i64 c.b.kind, .int .i64 c.b.n, .string c.b.s], .int .i64 deep] W fun e w' => e = .returned (.string ⟨B.toArray⟩) ∧ Below W.heap.size W w') :
    Calls Tryd.prog 53 #[.slice pa m ca, .agg #[.int .i64 c.kind, .int .i64 c.n, .string c.s, .int .i64 c.a.kind, .int .i64 c.a.n, .string c.a.s, .int .i64 c.b.kind, .int .i64 c.b.n, .string c.b.s], .int .i64 deep] w fun e w' => e = .returned (.string ⟨(ceT c A B).toArray⟩) ∧ Below w.heap.size w w' := by
  obtain ⟨k, n, s, ⟨ak, an, sa⟩, ⟨bk, bn, sb⟩⟩ := c
  simp only at hk hn hs HA HB
  have HAH := fun W hW => Lib.hid (HA W hW)
  have HBH := fun h W hW => Lib.hid (HB h W hW)
  have HT := fun (W : World) (hW : Below w.heap.size w W) => Lib.hid (iNumText n W (by have := hn.1; have := hn.2; omega) (E.below hW).tab)
  have HNL := Lib.hid (sh_num n)
  obtain ⟨O, hO⟩ : ∃ O, O = Obj.cells #[.int .i64 k, .int .i64 n, .string s, .int .i64 ak, .int .i64 an, .string sa, .int .i64 bk, .int .i64 bn, .string sb] 53 := ⟨_, rfl⟩
  have bO : Below w.heap.size w (w.alloc O) := Joins.below_alloc1 w O
  have z : w.heap.size < (w.alloc O).heap.size := by simp
  have d : ∀ W, Below (w.alloc O).heap.size (w.alloc O) W → (W.cell? ⟨w.heap.size, 0, none⟩ = some (.int .i64 k) ∧ W.cell? ⟨w.heap.size, 1, none⟩ = some (.int .i64 n) ∧ W.cell? ⟨w.heap.size, 2, none⟩ = some (.string s)) ∧ (W.cell? ⟨w.heap.size, 6, none⟩ = some (.int .i64 bk) ∧ W.cell? ⟨w.heap.size, 7, none⟩ = some (.int .i64 bn) ∧ W.cell? ⟨w.heap.size, 8, none⟩ = some (.string sb)) := by
    intro W hW
    have q : ∀ i, W.cell? ⟨w.heap.size, i, none⟩ = (w.alloc O).cell? ⟨w.heap.size, i, none⟩ := fun i => hW.cell (p := ⟨w.heap.size, i, none⟩) z
    simp only [q, hO]
    simp
  have hkk : k = 1 ∨ k = 2 ∨ k = 3 ∨ k = 4 ∨ k = 5 ∨ k = 6 := by omega
  clear HA HB hk hn E
  rcases hkk with rfl | rfl | rfl | rfl | rfl | rfl
  · have HC := Lib.hid (show ceT ⟨1, n, s, ⟨ak, an, sa⟩, ⟨bk, bn, sb⟩⟩ A B = cat [⟨#[40]⟩, s, ⟨#[32]⟩, ⟨A.toArray⟩, ⟨#[41]⟩] from by simp [ceT, cat, sh_data])
    have hl : (cat [⟨#[40]⟩, s, ⟨#[32]⟩, ⟨A.toArray⟩, ⟨#[41]⟩]).length ≤ 140737488355328 := by simp [cat]; omega
    go_enter Tryd.func53, Tryd.ntmps53
    go_wp2_with fail
    rw [← hO]
    refine (HAH _ bO).out.mono ?_
    rintro e w1 ⟨rfl, hb1⟩
    obtain ⟨⟨d0, d1, d2⟩, d6, d7, d8⟩ := d w1 hb1
    have bb1 := below_tr bO hb1
    clear hO d
    go_wp2_with (go_at_call 52; refine (joined_new [⟨#[40]⟩, s, ⟨#[32]⟩, ⟨A.toArray⟩, ⟨#[41]⟩] _ w1.heap.size w1 rfl rfl (by simp) hl).mono ?_; rintro e w2 ⟨rfl, hb2⟩)
    go_ret
    exact ⟨by rw [HC.out]; rfl, below_tr bb1 hb2⟩
  · have HC := Lib.hid (show ceT ⟨2, n, s, ⟨ak, an, sa⟩, ⟨bk, bn, sb⟩⟩ A B = cat [⟨#[40]⟩, ⟨A.toArray⟩, ⟨#[44, 32]⟩, ⟨B.toArray⟩, ⟨#[41]⟩] from by simp [ceT, cat])
    have hl : (cat [⟨#[40]⟩, ⟨A.toArray⟩, ⟨#[44, 32]⟩, ⟨B.toArray⟩, ⟨#[41]⟩]).length ≤ 140737488355328 := by simp [cat]; omega
    go_enter Tryd.func53, Tryd.ntmps53
    go_wp2_with fail
    rw [← hO]
    refine (HAH _ bO).out.mono ?_
    rintro e w1 ⟨rfl, hb1⟩
    obtain ⟨⟨d0, d1, d2⟩, d6, d7, d8⟩ := d w1 hb1
    have bb1 := below_tr bO hb1
    clear hO d
    go_wp2_with fail
    refine (HBH (by simp) _ bb1).out.mono ?_
    rintro e w2 ⟨rfl, hb2⟩
    have bb2 := below_tr bb1 hb2
    go_wp2_with (go_at_call 52; refine (joined_new [⟨#[40]⟩, ⟨A.toArray⟩, ⟨#[44, 32]⟩, ⟨B.toArray⟩, ⟨#[41]⟩] _ w2.heap.size w2 rfl rfl (by simp) hl).mono ?_; rintro e w3 ⟨rfl, hb3⟩)
    go_ret
    exact ⟨by rw [HC.out]; rfl, below_tr bb2 hb3⟩
  · have HC := Lib.hid (show ceT ⟨3, n, s, ⟨ak, an, sa⟩, ⟨bk, bn, sb⟩⟩ A B = cat [⟨#[60, 102, 117, 110, 32]⟩, ⟨(numL n).toArray⟩, ⟨#[32]⟩, ⟨A.toArray⟩, ⟨#[62]⟩] from by simp [ceT, cat])
    have hl : (cat [⟨#[60, 102, 117, 110, 32]⟩, ⟨(numL n).toArray⟩, ⟨#[32]⟩, ⟨A.toArray⟩, ⟨#[62]⟩]).length ≤ 140737488355328 := by have := HNL.out; simp [cat]; omega
    go_enter Tryd.func53, Tryd.ntmps53
    go_wp2_with fail
    rw [← hO]
    refine (HAH _ bO).out.mono ?_
    rintro e w1 ⟨rfl, hb1⟩
    obtain ⟨⟨d0, d1, d2⟩, d6, d7, d8⟩ := d w1 hb1
    have bb1 := below_tr bO hb1
    clear hO d
    go_wp2_with fail
    refine (HT _ bb1).out.mono ?_
    rintro e w2 ⟨rfl, hb2⟩
    have bb2 := below_tr bb1 hb2
    go_wp2_with (go_at_call 52; refine (joined_new [⟨#[60, 102, 117, 110, 32]⟩, ⟨(numL n).toArray⟩, ⟨#[32]⟩, ⟨A.toArray⟩, ⟨#[62]⟩] _ w2.heap.size w2 rfl rfl (by simp) hl).mono ?_; rintro e w3 ⟨rfl, hb3⟩)
    go_ret
    exact ⟨by rw [HC.out]; rfl, below_tr bb2 hb3⟩
  · have HC := Lib.hid (show ceT ⟨4, n, s, ⟨ak, an, sa⟩, ⟨bk, bn, sb⟩⟩ A B = cat [⟨#[60, 114, 101, 99, 32]⟩, ⟨(numL n).toArray⟩, ⟨#[32]⟩, ⟨A.toArray⟩, ⟨#[62]⟩] from by simp [ceT, cat])
    have hl : (cat [⟨#[60, 114, 101, 99, 32]⟩, ⟨(numL n).toArray⟩, ⟨#[32]⟩, ⟨A.toArray⟩, ⟨#[62]⟩]).length ≤ 140737488355328 := by have := HNL.out; simp [cat]; omega
    go_enter Tryd.func53, Tryd.ntmps53
    go_wp2_with fail
    rw [← hO]
    refine (HAH _ bO).out.mono ?_
    rintro e w1 ⟨rfl, hb1⟩
    obtain ⟨⟨d0, d1, d2⟩, d6, d7, d8⟩ := d w1 hb1
    have bb1 := below_tr bO hb1
    clear hO d
    go_wp2_with fail
    refine (HT _ bb1).out.mono ?_
    rintro e w2 ⟨rfl, hb2⟩
    have bb2 := below_tr bb1 hb2
    go_wp2_with (go_at_call 52; refine (joined_new [⟨#[60, 114, 101, 99, 32]⟩, ⟨(numL n).toArray⟩, ⟨#[32]⟩, ⟨A.toArray⟩, ⟨#[62]⟩] _ w2.heap.size w2 rfl rfl (by simp) hl).mono ?_; rintro e w3 ⟨rfl, hb3⟩)
    go_ret
    exact ⟨by rw [HC.out]; rfl, below_tr bb2 hb3⟩
  · have HC := Lib.hid (show ceT ⟨5, n, s, ⟨ak, an, sa⟩, ⟨bk, bn, sb⟩⟩ A B = cat [⟨#[123]⟩, ⟨A.toArray⟩, ⟨#[125]⟩] from by simp [ceT, cat])
    have hl : (cat [⟨#[123]⟩, ⟨A.toArray⟩, ⟨#[125]⟩]).length ≤ 140737488355328 := by simp [cat]; omega
    go_enter Tryd.func53, Tryd.ntmps53
    go_wp2_with fail
    rw [← hO]
    refine (HAH _ bO).out.mono ?_
    rintro e w1 ⟨rfl, hb1⟩
    obtain ⟨⟨d0, d1, d2⟩, d6, d7, d8⟩ := d w1 hb1
    have bb1 := below_tr bO hb1
    clear hO d
    go_wp2_with (go_at_call 52; refine (joined_new [⟨#[123]⟩, ⟨A.toArray⟩, ⟨#[125]⟩] _ w1.heap.size w1 rfl rfl (by simp) hl).mono ?_; rintro e w2 ⟨rfl, hb2⟩)
    go_ret
    exact ⟨by rw [HC.out]; rfl, below_tr bb1 hb2⟩
  · have HC := Lib.hid (show ceT ⟨6, n, s, ⟨ak, an, sa⟩, ⟨bk, bn, sb⟩⟩ A B = cat [⟨#[91]⟩, ⟨A.toArray⟩, ⟨#[32]⟩, ⟨B.toArray⟩, ⟨#[93]⟩] from by simp [ceT, cat])
    have hl : (cat [⟨#[91]⟩, ⟨A.toArray⟩, ⟨#[32]⟩, ⟨B.toArray⟩, ⟨#[93]⟩]).length ≤ 140737488355328 := by simp [cat]; omega
    go_enter Tryd.func53, Tryd.ntmps53
    go_wp2_with fail
    rw [← hO]
    refine (HAH _ bO).out.mono ?_
    rintro e w1 ⟨rfl, hb1⟩
    obtain ⟨⟨d0, d1, d2⟩, d6, d7, d8⟩ := d w1 hb1
    have bb1 := below_tr bO hb1
    clear hO d
    go_wp2_with fail
    refine (HBH (by simp) _ bb1).out.mono ?_
    rintro e w2 ⟨rfl, hb2⟩
    have bb2 := below_tr bb1 hb2
    go_wp2_with (go_at_call 52; refine (joined_new [⟨#[91]⟩, ⟨A.toArray⟩, ⟨#[32]⟩, ⟨B.toArray⟩, ⟨#[93]⟩] _ w2.heap.size w2 rfl rfl (by simp) hl).mono ?_; rintro e w3 ⟨rfl, hb3⟩)
    go_ret
    exact ⟨by rw [HC.out]; rfl, below_tr bb2 hb3⟩
end Go.Proofs.YtdhpmblhejcehaaDoor
namespace Go.Proofs.YtdhpmblhejcehaaDoor
set_option linter.unusedVariables false
set_option maxRecDepth 100000
open Go.ChangeShapes Go.WideShapes Go.ChangeAt Go.RowKit

set_option maxHeartbeats 2000000 in
theorem iShPl (h : List Ce) (d : Nat) (m : Int) (v : Vl) (deep : Int) (pa : Option Addr) (mm ca : Nat) (w : World) (E : TabS w) (hv : valB m v = true) (hk6 : v.kind ≠ 6) (hn : I64 v.n) (hs : v.s.size ≤ 1048576) :
    Calls Tryd.prog 32 #[.slice pa mm ca, .agg #[.int .i64 v.kind, .int .i64 v.n, .string v.s], .int .i64 deep] w fun e w' => e = .returned (.string ⟨(shT h d v).toArray⟩) ∧ Below w.heap.size w w' := by
  have HK := shKinds hv
  obtain ⟨k, n, s⟩ := v
  simp only at HK hn hs hk6
  rcases HK with HK | HK | HK | HK | HK | HK | HK
  · subst HK
    have HN := fun (W : World) (hW : Below w.heap.size w W) => Lib.hid (iNumText n W (by have := hn.1; have := hn.2; omega) (E.below hW).tab)
    have HT := Lib.hid (show shT h d ⟨1, n, s⟩ = numL n from shT_pl h _ _ (by simp))
    go_enter Tryd.func32, Tryd.ntmps32
    go_wp2_with (go_at_call 50; refine (HN _ (Joins.below_alloc1 w _)).out.mono ?_; rintro e w1 ⟨rfl, hb1⟩)
    go_ret
    exact ⟨by rw [HT.out]; rfl, below_tr (Joins.below_alloc1 w _) hb1⟩
  · subst HK
    have HQ := fun W => Lib.hid (iQuote s W hs)
    have HT := Lib.hid (show shT h d ⟨2, n, s⟩ = quoteL s.data.toList from (shT_pl h _ _ (by simp)).trans (by simp [plT, pr_toList]))
    go_enter Tryd.func32, Tryd.ntmps32
    go_wp2_with (go_at_call 51; refine (HQ _).out.mono ?_; rintro e w1 ⟨rfl, hb1⟩)
    go_ret
    exact ⟨by rw [HT.out]; rfl, below_tr (Joins.below_alloc1 w _) hb1⟩
  · subst HK
    have HT := Lib.hid (show shT h d ⟨3, n, s⟩ = [40, 41] from shT_pl h _ _ (by simp))
    go_enter Tryd.func32, Tryd.ntmps32
    go_wp2
    go_ret
    exact ⟨by rw [HT.out]; rfl, Joins.below_alloc1 w _⟩
  · subst HK
    have HT := Lib.hid (show (⟨(shT h d ⟨4, n, s⟩).toArray⟩ : ByteArray) = s from by rw [shT_pl h _ _ (by simp)]; simp [plT, pr_toList])
    go_enter Tryd.func32, Tryd.ntmps32
    go_wp2
    go_ret
    exact ⟨by rw [HT.out]; rfl, Joins.below_alloc1 w _⟩
  · subst HK
    have HT := Lib.hid (show shT h d ⟨5, n, s⟩ = cat [⟨#[60]⟩, s, ⟨#[62]⟩] from (shT_pl h _ _ (by simp)).trans (by simp [plT, cat, pr_toList]))
    have hl : (cat [⟨#[60]⟩, s, ⟨#[62]⟩]).length ≤ 140737488355328 := by simp [cat]; omega
    obtain ⟨O, hO⟩ : ∃ O, O = Obj.cells #[.int .i64 5, .int .i64 n, .string s] 33 := ⟨_, rfl⟩
    have bO : Below w.heap.size w (w.alloc O) := Joins.below_alloc1 w O
    have HJ := fun (W : World) => Lib.hid (joined_new [⟨#[60]⟩, s, ⟨#[62]⟩] #[.string ⟨#[60]⟩, .string s, .string ⟨#[62]⟩] _ W rfl rfl (by simp) hl)
    go_enter Tryd.func32, Tryd.ntmps32
    go_wp2_with (go_at_call 52; rw [← hO]; refine (joined_new [⟨#[60]⟩, s, ⟨#[62]⟩] _ (w.heap.size + 1) (w.alloc O) rfl (by simp) (by simp) hl).mono ?_; rintro e w2 ⟨rfl, hb2⟩)
    go_ret
    exact ⟨by rw [HT.out]; rfl, below_tr bO hb2⟩
  · subst HK
    have HT := Lib.hid (show shT h d ⟨7, n, s⟩ = [45] from shT_pl h _ _ (by simp))
    go_enter Tryd.func32, Tryd.ntmps32
    go_wp2
    go_ret
    exact ⟨by rw [HT.out]; rfl, Joins.below_alloc1 w _⟩
  · exact absurd HK hk6
set_option maxHeartbeats 2000000 in
theorem iShowD (h : List Ce) (r : List Vl) (hb : heapB h r = true) (hz : bulkL bCe h ≤ 1048576) : ∀ (d : Nat), d ≤ 12 → ∀ (v : Vl) (deep : Int) (va : Value) (w : World), RowRd 9 CeEl w va h → TabS w → deep.toNat = d → I64 deep → valB h.length v = true → I64 v.n → v.s.size ≤ 1048576 →
    Calls Tryd.prog 32 #[va, .agg #[.int .i64 v.kind, .int .i64 v.n, .string v.s], .int .i64 deep] w fun e w' => e = .returned (.string ⟨(shT h d v).toArray⟩) ∧ Below w.heap.size w w' := by
  intro d
  induction d with
  | zero =>
    intro _ v deep va w hR E hdp hdI hv hn hs
    obtain ⟨pa, ca, rfl, -, -⟩ := hR.form
    by_cases hk6 : v.kind = 6
    · have hd0 : deep ≤ 0 := by omega
      obtain ⟨k, n, s⟩ := v
      simp only at hk6
      subst hk6
      have hdd : decide (deep ≤ 0) = true := by simpa using hd0
      clear hR E hv
      go_enter Tryd.func32, Tryd.ntmps32
      go_wp2
      go_ret
      exact ⟨rfl, Joins.below_alloc1 w _⟩
    · exact iShPl h 0 _ v deep pa h.length ca w E hv hk6 hn hs
  | succ d ih =>
    intro hd12 v deep va w hR E hdp hdI hv hn hs
    have hR0 := hR
    obtain ⟨pa, ca, rfl, hm, hRf⟩ := hR.form
    unfold maxLen at hm
    clear hR
    by_cases hk6 : v.kind = 6
    · obtain ⟨hde, dm1⟩ := sh_nat hdp
      clear hdp
      have hdd : decide (deep ≤ 0) = false := by simp; omega
      have dm2 : I64 (deep - 1) := by unfold I64 at *; omega
      have wd : wrap64 (deep - 1) = deep - 1 := by have := hdI.1; have := hdI.2; unfold wrap64; omega
      have hd12' : d ≤ 12 := by omega
      clear hde
      obtain ⟨k, n, s⟩ := v
      simp only at hk6 hn hs
      subst hk6
      obtain ⟨n0, n1, -⟩ := val_cell hv rfl
      simp only at n0 n1
      obtain ⟨p, rfl⟩ : ∃ p : Nat, n = (p : Int) := ⟨n.toNat, by clear wd; omega⟩
      have hp : p < h.length := by clear wd; omega
      have HT := Lib.hid (show shT h (d + 1) ⟨6, (p : Int), s⟩ = ceT h[p] (shT h d h[p].a) (shT h d h[p].b) from shT_at h d _ p rfl (by simp) hp)
      obtain ⟨b, o, rfl, hbw, hc⟩ := hRf (by clear wd; omega)
      obtain ⟨⟨e0, e1, e2, e3, e4, e5, e6, e7, e8⟩, i0, i1, i2, i3, i4, i5, i6, i7, i8⟩ := ce_at (hc p hp)
      have hzb := sh_bulk hz h[p] (List.getElem_mem hp)
      obtain ⟨va1, k1, k2⟩ := heap_one hb hp
      have hlA := sh_size (h := h) (v := h[p].a) hz hzb.2.1 d hd12'
      have hlB := sh_size (h := h) (v := h[p].b) hz hzb.2.2 d hd12'
      have HC := Lib.hid (fun W (hW : Below w.heap.size w W) => iShCell (some ⟨b, o, none⟩) h.length ca (deep - 1) h[p] (shT h d h[p].a) (shT h d h[p].b) W (E.below hW) ⟨k1, k2⟩ i1 hzb.1 hlA hlB
        (fun W' hW' => ih hd12' h[p].a (deep - 1) _ W' (hR0.kept CeEl.st (Kept.of_below (below_tr hW hW'))) (E.below (below_tr hW hW')) dm1 dm2 va1 i4 hzb.2.1)
        (fun hk W' hW' => ih hd12' h[p].b (deep - 1) _ W' (hR0.kept CeEl.st (Kept.of_below (below_tr hW hW'))) (E.below (below_tr hW hW')) dm1 dm2 (heap_two hb hp hk) i7 hzb.2.2))
      clear hc hRf ih hR0 hv hzb va1 k1 k2 hlA hlB E i0 i1 i2 i3 i4 i5 i6 i7 i8
      generalize h[p] = y at *
      generalize shT h d y.a = TA at *
      generalize shT h d y.b = TB at *
      have n1' : (p : Int) < (h.length : Int) := n1
      have l0 : b < w.heap.size + 1 := by clear wd; omega
      go_enter Tryd.func32, Tryd.ntmps32
      go_wp2_with (go_at_call 53; refine (HC.out _ (Joins.below_alloc1 w _)).mono ?_; rintro e w1 ⟨rfl, hb1⟩)
      go_ret
      exact ⟨by rw [HT.out]; rfl, below_tr (Joins.below_alloc1 w _) hb1⟩
    · exact iShPl h (d + 1) _ v deep pa h.length ca w E hv hk6 hn hs
set_option maxHeartbeats 1000000 in
theorem iShowC (h : List Ce) (v : Vl) (deep : Int) (va : Value) (w : World) (hR : RowRd 9 CeEl w va h) (hz : bulkL bCe h ≤ 1048576) (hzv : v.s.size ≤ 1048576) (hk : I64 v.kind) (hn : I64 v.n) (hd : I64 deep) (E : TabS w) :
    Calls Tryd.prog 10 #[va, .agg #[.int .i64 v.kind, .int .i64 v.n, .string v.s], .int .i64 deep] w fun e w' => e = .returned (.string (shRes h v deep)) ∧ Below w.heap.size w w' := by
  have hvs : v.s.size ≤ maxLen := by unfold maxLen; omega
  have HOK := fun W (hW : Below w.heap.size w W) (T : TypeId) => Lib.hid (iHeapOk h [v] va (.slice (some ⟨W.heap.size, 0, none⟩) 1 1) (W.alloc (.cells #[.int .i64 v.kind, .int .i64 v.n, .string v.s] T)) (hR.kept CeEl.st ((Kept.of_below hW).trans (Kept.alloc _ _)))
    (RowRd.mk (l := [v]) (by simp [maxLen]) (by simp) fun _ => ⟨W.heap.size, 0, rfl, by simp, fun i hi => by
      obtain rfl : i = 0 := by simpa using hi
      exact ⟨⟨by simp, hk⟩, ⟨by simp, hn⟩, ⟨by simp, hvs⟩⟩⟩))
  have HSH := fun (hb : heapB h [v] = true) (h12 : deep ≤ 12) W (hW : Below w.heap.size w W) => Lib.hid (iShowD h [v] hb hz deep.toNat (by omega) v deep va W (hR.kept CeEl.st (Kept.of_below hW)) (E.below hW) rfl hd (by
    simp only [heapB, Bool.and_eq_true] at hb
    exact List.all_eq_true.1 hb.2.2 v (by simp)) hn hzv)
  obtain ⟨pa, ca, rfl, -, -⟩ := hR.form
  obtain ⟨k, n, s⟩ := v
  simp only at HOK HSH
  obtain ⟨O, hO⟩ : ∃ O, O = Obj.cells #[.int .i64 k, .int .i64 n, .string s] 33 := ⟨_, rfl⟩
  have bO : Below w.heap.size w (w.alloc O) := Joins.below_alloc1 w O
  have y0 : (w.alloc O).cell? ⟨w.heap.size, 0, none⟩ = some (.int .i64 k) := by rw [hO]; simp
  have y1 : (w.alloc O).cell? ⟨w.heap.size, 1, none⟩ = some (.int .i64 n) := by rw [hO]; simp
  have y2 : (w.alloc O).cell? ⟨w.heap.size, 2, none⟩ = some (.string s) := by rw [hO]; simp
  have z : w.heap.size < (w.alloc O).heap.size := by simp
  have HOK1 := HOK _ bO 33
  have hs1 : (w.alloc O).heap.size = w.heap.size + 1 := by simp
  rw [hs1, ← hO] at HOK1
  clear hs1
  clear HOK E
  by_cases h12 : deep ≤ 12
  · have hd2 : decide (12 < deep) = false := by simp; omega
    cases hb : heapB h [⟨k, n, s⟩]
    · rw [hb] at HOK1
      have HB := Lib.hid (show shRes h ⟨k, n, s⟩ deep = ⟨#[]⟩ from by simp [shRes, hb])
      clear HSH
      go_enter Tryd.func10, Tryd.ntmps10
      go_wp2_with fail
      rw [← hO]
      clear hO
      generalize w.alloc O = W at *
      refine HOK1.out.mono ?_
      rintro e w1 ⟨rfl, hb1⟩
      go_wp2
      go_ret
      exact ⟨by rw [HB.out]; rfl, below_tr (below_tr bO (Joins.below_alloc1 W _)) hb1⟩
    · rw [hb] at HOK1
      have HB := Lib.hid (show shRes h ⟨k, n, s⟩ deep = ⟨(shT h deep.toNat ⟨k, n, s⟩).toArray⟩ from by simp [shRes, hb, h12])
      have HSH3 := HSH hb h12
      clear HSH
      generalize shT h deep.toNat ⟨k, n, s⟩ = TT at *
      go_enter Tryd.func10, Tryd.ntmps10
      go_wp2_with fail
      rw [← hO]
      clear hO
      generalize w.alloc O = W at *
      refine HOK1.out.mono ?_
      rintro e w1 ⟨rfl, hb1⟩
      have B1 := below_tr (Joins.below_alloc1 W _) hb1
      have BB := below_tr bO B1
      have f0 := (B1.cell (p := ⟨w.heap.size, 0, none⟩) z).trans y0
      have f1 := (B1.cell (p := ⟨w.heap.size, 1, none⟩) z).trans y1
      have f2 := (B1.cell (p := ⟨w.heap.size, 2, none⟩) z).trans y2
      go_wp2_with fail
      refine (HSH3 _ BB).out.mono ?_
      rintro e w2 ⟨rfl, hb2⟩
      go_wp2
      go_ret
      exact ⟨by rw [HB.out]; rfl, below_tr BB hb2⟩
  · have HB := Lib.hid (show shRes h ⟨k, n, s⟩ deep = ⟨#[]⟩ from by simp [shRes, h12])
    have hd2 : decide (12 < deep) = true := by simp; omega
    clear HSH HOK1
    go_enter Tryd.func10, Tryd.ntmps10
    go_wp2
    go_ret
    exact ⟨by rw [HB.out]; rfl, by first | exact bO | (rw [hO] at bO; exact bO)⟩
end Go.Proofs.YtdhpmblhejcehaaDoor
