/- The model's check of values. -/
import Derived.Test.YtkalkmgnjlohnaaDoMath
import Derived.Test.YtkalkmgnjlohnaaOkP
import Derived.Test.YtkalkmgnjlohnaaWrap
import Derived.Deep.DeepCutAuto
namespace Go.Proofs.Ytkalkmgnjlohnaa
set_option linter.unusedVariables false
set_option maxRecDepth 100000
open Go.ChangeShapes Go.WideShapes Go.ChangeAt Go.RowKit

theorem stillM {P : Program} {f : FuncId} {args : Array Value} {w : World} {a n : Nat} {v : Value} (h : Calls P f args (w.drewN (a + n)) fun e w' => e = .returned v ∧ w.drewN (a + n) = w') :
    Calls P f args (w.drewN (a + n)) fun e w'' => e = .returned v ∧ ∃ m, w'' = w.drewN (a + m) := h.mono fun e w' hh => ⟨hh.1, n, hh.2.symm⟩
theorem stillO {P : Program} {f : FuncId} {args : Array Value} {w : World} {n : Nat} {v : Value} (h : Calls P f args (w.drewN n) fun e w' => e = .returned v ∧ w.drewN n = w') :
    Calls P f args (w.drewN n) fun e w'' => e = .returned v ∧ ∃ m, w'' = w.drewN m := h.mono fun e w' hh => ⟨hh.1, n, hh.2.symm⟩
theorem sDEnd : ∀ (f : Nat) (q : List DN) (v : Value) (a : Int) (w : World) (hR : RowRd 4 DNEl w v q) (ha : 0 ≤ a) (ha2 : a ≤ 9223372036854775807) (hf : (q.length : Int) < a + f),
    Calls Try.prog 26 #[.agg #[v], .int .i64 a] w fun e w' => e = .returned (.int .i64 (pendF f (q.map DN.kids) a)) ∧ Below w.heap.size w w' := by
  intro f
  induction f with
  | zero =>
    intro l v a w hR ha ha2 hf
    obtain ⟨p, cap, rfl, hm, _⟩ := hR.form
    have HB := Lib.hid (pendF_out 0 (l.map DN.kids) a (by rw [List.length_map]; omega))
    unfold maxLen at hm
    have h1 : (l.length : Int) ≤ a := by omega
    go_enter Try.func26, Try.ntmps26
    go_wp2
    go_ret
    exact ⟨ret_int' HB.out.symm, Joins.below_alloc1 w _⟩
  | succ f ih =>
    intro l v a w hR ha ha2 hf
    have hR0 := hR
    obtain ⟨p, cap, rfl, hm, hRf⟩ := hR.form
    clear hR
    unfold maxLen at hm
    by_cases h1 : (l.length : Int) ≤ a
    · have HB := Lib.hid (pendF_out (f + 1) (l.map DN.kids) a (by rw [List.length_map]; omega))
      go_enter Try.func26, Try.ntmps26
      go_wp2
      go_ret
      exact ⟨ret_int' HB.out.symm, Joins.below_alloc1 w _⟩
    obtain ⟨n, rfl⟩ : ∃ n : Nat, a = n := ⟨a.toNat, by omega⟩
    have hn : n < l.length := by omega
    have hB := pendF_in f (l.map DN.kids) n (by rw [List.length_map]; exact hn)
    rw [List.getElem_map] at hB
    have hfl : (l.length : Int) < (n : Int) + 1 + f := by omega
    clear h1 hf ha
    obtain ⟨b, o, rfl, hbw, hc⟩ := hRf (by omega)
    have ex := hc n hn
    clear hc hRf
    generalize l[n] = x at *
    have HB := Lib.hid hB
    clear hB
    obtain ⟨⟨e0, i0⟩, ⟨e1, i1⟩, ⟨e2, i2⟩, ⟨u, e3, r3⟩⟩ := ex
    have r3' := r3
    obtain ⟨bk, ck, rfl, hmk, hk⟩ := r3.form
    clear r3
    unfold maxLen at hmk
    have hnc : decide (l.length ≤ n) = false := by simp; omega
    go_enter Try.func26, Try.ntmps26
    go_wp2
    go_loopw [5, 22] (fun nx i wr => ∃ (k : Nat) (N : Int), i = .int .i64 k ∧ nx = .int .i64 N ∧ k ≤ x.kids.length ∧ pendF (f + 1) (l.map DN.kids) (n : Int) = kidsE (pendF f (l.map DN.kids)) (x.kids.drop k) N ∧ (n : Int) + 1 ≤ N ∧ N ≤ l.length ∧ Below (w.alloc (.cells #[.slice (some ⟨b, o, none⟩) l.length cap] 29)).heap.size (w.alloc (.cells #[.slice (some ⟨b, o, none⟩) l.length cap] 29)) wr) (fun _ i _ => x.kids.length - (intOf i).toNat)
    case atStart => exact ⟨0, (n : Int) + 1, rfl, rfl, Nat.zero_le _, by rw [HB.out]; rfl, Int.le_refl _, by omega, Below.refl _ _⟩
    case round =>
      obtain ⟨k, N, rfl, rfl, hkl, hE, hN1, hN2, hbel⟩ := hrel
      have HE := Lib.hid hE
      clear hE
      obtain ⟨hcl, hfr⟩ := bcell hbel
      have hsz := hbel.size
      simp at hsz
      have c0 : wr.cell? ⟨w.heap.size, 0, none⟩ = some (.slice (some ⟨b, o, none⟩) l.length cap) := by rw [hcl _ _ (by simp)]; simp
      have hK : Kept w wr := (Kept.alloc _ _).trans (Kept.of_below hbel)
      clear hcl hfr e0 e1 e2 e3
      by_cases hlt : k < x.kids.length
      · obtain ⟨b2, o2, rfl, hb2, hc2⟩ := hk (by omega)
        obtain ⟨g0, j0, j1⟩ := IntEl.st w wr b2 _ _ hK hb2 (hc2 k hlt)
        rw [Nat.mul_one] at g0
        have HNo := Lib.hid (kidsE_no (pendF f (l.map DN.kids)) x.kids k hlt)
        have HNeg := Lib.hid (kidsE_neg (pendF f (l.map DN.kids)) x.kids k hlt)
        have HSt := Lib.hid (kidsE_step (pendF f (l.map DN.kids)) x.kids k hlt)
        clear hc2 hk
        generalize x.kids[k] = y at *
        by_cases hy : y = N
        · subst hy
          have hyy : (y != y) = false := by simp
          go_wp2_with fail
          refine (ih l _ y _ (hR0.kept DNEl.st hK) (by omega) (by omega) (by omega)).mono ?_
          rintro e w1 ⟨rfl, hb1⟩
          have hgt := pendF_gt f (l.map DN.kids) y
          have hle := pendF_le f (l.map DN.kids) y
          rw [List.length_map] at hle
          obtain ⟨G, hG⟩ : ∃ G, G = pendF f (l.map DN.kids) y := ⟨_, rfl⟩
          rw [← hG] at hgt hle ⊢
          have HG := Lib.hid hG
          clear hG
          by_cases hneg : G < 0
          · go_wp2
            go_ret
            refine ⟨ret_int' ?_, (Joins.below_alloc1 w _).trans ((hbel.trans (hb1.mono (by simp; omega))).mono (by simp))⟩
            rw [HE.out, HNeg.out y rfl (by rw [← HG.out]; exact hneg)]
          · have hG0 : 0 ≤ G := by omega
            go_wp2
            go_roundw
            case rel => exact ⟨k + 1, G, by go_num, rfl, by omega, by rw [HE.out, HSt.out y rfl (by rw [← HG.out]; omega), HG.out], by omega, by omega, hbel.trans (hb1.mono (by simp; omega))⟩
            case measure => simp [intOf]; omega
        · have hyy : (y != N) = true := by simpa using hy
          have HY := Lib.hid hy
          clear hy
          go_wp2
          go_ret
          refine ⟨ret_int' ?_, (Joins.below_alloc1 w _).trans (hbel.mono (by simp))⟩
          rw [HE.out, HNo.out N HY.out]
      · obtain rfl : k = x.kids.length := by omega
        go_wp2
        go_ret
        refine ⟨ret_int' ?_, (Joins.below_alloc1 w _).trans (hbel.mono (by simp))⟩
        rw [HE.out, List.drop_length]; rfl
set_option maxHeartbeats 4000000 in
theorem sDataOk (l : List DN) (v : Value) (w : World) (hR : RowRd 4 DNEl w v l) :
    Calls Try.prog 7 #[.agg #[v]] w fun e w' => e = .returned (.bool (dOkB l)) ∧ Below w.heap.size w w' := by
  have hR0 := hR
  obtain ⟨p, cap, rfl, hm, hRf⟩ := hR.form
  clear hR
  unfold maxLen at hm
  by_cases h1 : l.length < 1
  · have HB := Lib.hid (show dOkB l = false from dOk_no fun h => by have := h.1; omega)
    have h1' : (l.length : Int) < 1 := by omega
    go_enter Try.func7, Try.ntmps7
    go_wp2
    go_ret
    exact ⟨ret_bool HB.out.symm, Joins.below_alloc1 w _⟩
  by_cases h2 : 600 < l.length
  · have HB := Lib.hid (show dOkB l = false from dOk_no fun h => by have := h.2.1; omega)
    have h1' : ¬ (l.length : Int) < 1 := by omega
    have h2' : 600 < (l.length : Int) := by omega
    go_enter Try.func7, Try.ntmps7
    go_wp2
    go_ret
    exact ⟨ret_bool HB.out.symm, Joins.below_alloc1 w _⟩
  have h1' : decide ((l.length : Int) < 1) = false := by simp; omega
  have h2' : decide (600 < (l.length : Int)) = false := by simp; omega
  have h3' : ¬ (l.length : Int) < 1 := by omega
  have h4' : ¬ 600 < (l.length : Int) := by omega
  have HL := Lib.hid (And.intro (show 1 ≤ l.length by omega) (show l.length ≤ 600 by omega))
  clear h1 h2
  go_enter Try.func7, Try.ntmps7
  go_wp2
  go_loopw [20] (fun i wr => ∃ k : Nat, i = .int .i64 k ∧ k ≤ l.length ∧ Hid (∀ i (hi : i < k) (h : i < l.length), dnodeB (pairB (l.map toPN) l[i].kids) l[i].kind l[i].n l[i].s l[i].kids.length = true) ∧ Below (w.alloc (.cells #[.slice p l.length cap] 29)).heap.size (w.alloc (.cells #[.slice p l.length cap] 29)) wr) (fun i _ => l.length - (intOf i).toNat)
  case atStart => exact ⟨0, rfl, Nat.zero_le _, Lib.hid fun i hi => absurd hi (by omega), Below.refl _ _⟩
  case round =>
    obtain ⟨k, rfl, hk, HA, hbel⟩ := hrel
    have hsz := hbel.size
    simp at hsz
    obtain ⟨hcl, hfr⟩ := bcell hbel
    have c0 : wr.cell? ⟨w.heap.size, 0, none⟩ = some (.slice p l.length cap) := by rw [hcl _ _ (by simp)]; simp
    have hK : Kept w wr := (Kept.alloc _ _).trans (Kept.of_below hbel)
    have hlt0 : w.heap.size < wr.heap.size := by omega
    clear hcl hfr
    by_cases hlt : k < l.length
    · obtain ⟨b, o, rfl, hbw, hc⟩ := hRf (by omega)
      have ex := DNEl.st w wr b _ _ hK hbw (hc k hlt)
      have hbwr : b < wr.heap.size := Nat.lt_of_lt_of_le hbw hK.size
      have HNo := Lib.hid (fun (h : dnodeB (pairB (l.map toPN) l[k].kids) l[k].kind l[k].n l[k].s l[k].kids.length = false) => show dOkB l = false from dOk_no fun hp => by
        rw [hp.2.2.1 k hlt] at h; cases h)
      have HYes := Lib.hid (fun (h : dnodeB (pairB (l.map toPN) l[k].kids) l[k].kind l[k].n l[k].s l[k].kids.length = true) => show Hid (∀ i (hi : i < k + 1) (h : i < l.length), dnodeB (pairB (l.map toPN) l[i].kids) l[i].kind l[i].n l[i].s l[i].kids.length = true) from Lib.hid fun i hi h' => by
        by_cases he : i = k
        · subst he; exact h
        · exact HA.out i (by omega) h')
      have hkinds := fun m (h : m < l.length) => (DNEl.st w wr b _ _ hK hbw (hc m h)).1
      clear hc hRf
      generalize l[k] = x at *
      obtain ⟨xk, n, s, kids⟩ := x
      dsimp only at *
      obtain ⟨⟨e0, i0⟩, ⟨e1, i1⟩, ⟨e2, i2⟩, ⟨u, e3, r3⟩⟩ := ex
      dsimp only at *
      obtain ⟨bk, ck, rfl, hmk, hkf⟩ := r3.form
      unfold maxLen at hmk
      have hT : (∃ y : Int, kids = [y]) ∨ kids.length ≠ 1 := by
        match kids with
        | [] => right; simp
        | [y] => left; exact ⟨y, rfl⟩
        | _ :: _ :: _ => right; simp
      go_upto_region 6 with fail
      go_cut [5] (fun s5 wx => s5 = .bool (pairB (l.map toPN) kids) ∧ wx.cell? ⟨wr.heap.size, 0, none⟩ = some (.int .i64 xk) ∧ wx.cell? ⟨wr.heap.size, 1, none⟩ = some (.int .i64 n) ∧ wx.cell? ⟨wr.heap.size, 2, none⟩ = some (.string s) ∧ wx.cell? ⟨wr.heap.size, 3, none⟩ = some (.slice bk kids.length ck) ∧ Below wr.heap.size wr wx ∧ wr.heap.size < wx.heap.size)
      case first =>
        clear HNo HYes HA HL
        rcases hT with ⟨y, rfl⟩ | hT
        · obtain ⟨b3, o3, rfl, hb3, hck⟩ := hkf (by simp)
          obtain ⟨g0, j0, j1⟩ := hck 0 (by simp)
          simp only [List.getElem_cons_zero, Nat.zero_mul, Nat.add_zero] at g0 j0 j1
          clear hck hkf r3
          by_cases h0 : y < 0
          · have HP := Lib.hid (pair_neg (l.map toPN) y h0)
            have d0 : decide (0 ≤ y) = false := by simp; omega
            go_quiet (fail)
            all_goals (go_wp2_with fail; go_meet; exact ⟨by rw [HP.out], by simp, by simp, by simp, by simp, below_drewN (Joins.below_alloc1 wr _) _, by simp⟩)
          · obtain ⟨m, rfl⟩ : ∃ m : Nat, y = m := ⟨y.toNat, by omega⟩
            have d0 : decide (0 ≤ (m : Int)) = true := by simp
            by_cases h1 : m < l.length
            · obtain ⟨f0, j2⟩ := hkinds m h1
              have HP := Lib.hid (pair_yes l m h1)
              clear hkinds
              generalize l[m] = z at *
              have d1 : decide (m < l.length) = true := by simpa using h1
              cases hx : (z.kind == 5)
              all_goals
                go_quiet (fail)
                all_goals (go_wp2_with fail; go_meet; exact ⟨by rw [HP.out, hx], by simp, by simp, by simp, by simp, below_drewN (Joins.below_alloc1 wr _) _, by simp⟩)
            · have HP := Lib.hid (pair_out l m h1)
              have d1 : decide (m < l.length) = false := by simpa using h1
              go_quiet (fail)
              all_goals (go_wp2_with fail; go_meet; exact ⟨by rw [HP.out], by simp, by simp, by simp, by simp, below_drewN (Joins.below_alloc1 wr _) _, by simp⟩)
        · have HP := Lib.hid (pair_len (l.map toPN) kids hT)
          have d0 : ((kids.length : Int) == 1) = false := by simp; omega
          have HT := Lib.hid hT
          clear hT
          go_quiet (fail)
          all_goals (go_wp2_with fail; go_meet; exact ⟨by rw [HP.out], by simp, by simp, by simp, by simp, below_drewN (Joins.below_alloc1 wr _) _, by simp⟩)
      case rest =>
        obtain ⟨rfl, c0', c1, c2, c3, hbx, hszx⟩ := hcut
        have BR : Below (w.alloc (.cells #[.slice (some ⟨b, o, none⟩) l.length cap] 29)).heap.size (w.alloc (.cells #[.slice (some ⟨b, o, none⟩) l.length cap] 29)) wc := below_tr hbel hbx (by simp)
        have BF : Below w.heap.size w wc := (Joins.below_alloc1 w _).trans (BR.mono (by simp))
        generalize pairB (l.map toPN) kids = pr at *
        clear hT hkinds hkf r3 hbel hbx
        generalize kids.length = m at *
        have hkc : xk = 6 ∨ xk = 2 ∨ xk = 3 ∨ xk = 4 ∨ xk = 5 ∨ (¬ xk = 6 ∧ ¬ xk = 2 ∧ ¬ xk = 3 ∧ ¬ xk = 4 ∧ ¬ xk = 5) := by omega
        rcases hkc with rfl | rfl | rfl | rfl | rfl | ⟨g6, g2, g3, g4, g5⟩
        · by_cases hn : n = 0
          · subst hn
            by_cases he : s.toList = []
            · have he1 : s.toList.isEmpty = true := by simp [he]
              by_cases hm0 : m = 0
              · subst hm0
                go_wp2
                go_roundw
                case rel => exact ⟨k + 1, by go_num, by omega, HYes.out (by simp [dnodeB, he]), BR⟩
                case measure => simp [intOf]; omega
              · have hm1 : ((m : Int) == 0) = false := by simp; omega
                have hm2 : (m == 0) = false := by simpa using hm0
                have HM := Lib.hid hm0
                clear hm0
                go_wp2
                all_goals
                  go_ret
                  exact ⟨ret_bool (HNo.out (by simp [dnodeB, he]; have := HM.out; omega)).symm, BF⟩
            · have he1 : s.toList.isEmpty = false := by simpa using he
              have HE := Lib.hid he
              clear he
              go_wp2
              all_goals
                go_ret
                exact ⟨ret_bool (HNo.out (by simp [dnodeB, HE.out])).symm, BF⟩
          · have hn1 : (n == 0) = false := by simpa using hn
            have HN := Lib.hid hn
            clear hn
            go_wp2
            all_goals
              go_ret
              exact ⟨ret_bool (HNo.out (by simp [dnodeB, HN.out])).symm, BF⟩
        · by_cases hn : n = 0
          · subst hn
            by_cases hm0 : m = 0
            · subst hm0
              go_wp2
              go_roundw
              case rel => exact ⟨k + 1, by go_num, by omega, HYes.out (by simp [dnodeB]), BR⟩
              case measure => simp [intOf]; omega
            · have hm1 : ((m : Int) == 0) = false := by simp; omega
              have hm2 : (m == 0) = false := by simpa using hm0
              have HM := Lib.hid hm0
              clear hm0
              go_wp2
              all_goals
                go_ret
                exact ⟨ret_bool (HNo.out (by simp [dnodeB]; have := HM.out; omega)).symm, BF⟩
          · have hn1 : (n == 0) = false := by simpa using hn
            have HN := Lib.hid hn
            clear hn
            go_wp2
            all_goals
              go_ret
              exact ⟨ret_bool (HNo.out (by simp [dnodeB, HN.out])).symm, BF⟩
        · go_wp2_with fail
          by_cases hw : W n = n
          · have hw1 : (W n == n) = true := by simpa using hw
            by_cases he : s.toList = []
            · have he1 : s.toList.isEmpty = true := by simp [he]
              by_cases hm0 : m = 0
              · subst hm0
                go_quiet ((go_at_call 24; first | exact stillM (sWrap _ _) | exact stillO (sWrap _ _)))
                go_wp2
                go_roundw
                case rel => exact ⟨k + 1, by go_num, by omega, HYes.out (by simp [dnodeB, he, hw]), below_drewN BR _⟩
                case measure => simp [intOf]; omega
              · have hm1 : ((m : Int) == 0) = false := by simp; omega
                have hm2 : (m == 0) = false := by simpa using hm0
                have HM := Lib.hid hm0
                clear hm0
                go_quiet ((go_at_call 24; first | exact stillM (sWrap _ _) | exact stillO (sWrap _ _)))
                go_wp2
                all_goals
                  go_ret
                  exact ⟨ret_bool (HNo.out (by simp [dnodeB, he, hw]; have := HM.out; omega)).symm, below_drewN BF _⟩
            · have he1 : s.toList.isEmpty = false := by simpa using he
              have HE := Lib.hid he
              clear he
              go_quiet ((go_at_call 24; first | exact stillM (sWrap _ _) | exact stillO (sWrap _ _)))
              go_wp2
              all_goals
                go_ret
                exact ⟨ret_bool (HNo.out (by simp [dnodeB, HE.out])).symm, below_drewN BF _⟩
          · have hw1 : (W n == n) = false := by simpa using hw
            have HW := Lib.hid hw
            clear hw
            go_quiet ((go_at_call 24; first | exact stillM (sWrap _ _) | exact stillO (sWrap _ _)))
            go_wp2
            all_goals
              go_ret
              exact ⟨ret_bool (HNo.out (by simp [dnodeB, HW.out])).symm, below_drewN BF _⟩
        · by_cases hn : n = 0
          · subst hn
            have HC := fun W => sConOk4 s (m : Int) pr W i2 (by omega)
            cases hx : conOkB s (m : Int) pr
            all_goals rw [hx] at HC
            · go_wp2_with (go_at_call 25; refine (HC _).mono ?_; rintro e w1 ⟨rfl, rfl⟩)
              go_ret
              exact ⟨ret_bool (HNo.out (by simp [dnodeB, hx])).symm, BF⟩
            · go_wp2_with (go_at_call 25; refine (HC _).mono ?_; rintro e w1 ⟨rfl, rfl⟩)
              go_roundw
              case rel => exact ⟨k + 1, by go_num, by omega, HYes.out (by simp [dnodeB, hx]), BR⟩
              case measure => simp [intOf]; omega
          · have hn1 : (n == 0) = false := by simpa using hn
            have HN := Lib.hid hn
            clear hn
            go_wp2
            all_goals
              go_ret
              exact ⟨ret_bool (HNo.out (by simp [dnodeB, HN.out])).symm, BF⟩
        · by_cases hn : n = 0
          · subst hn
            by_cases he : s.toList = []
            · have he1 : s.toList.isEmpty = true := by simp [he]
              by_cases hm0 : m = 2
              · subst hm0
                go_wp2
                go_roundw
                case rel => exact ⟨k + 1, by go_num, by omega, HYes.out (by simp [dnodeB, he]), BR⟩
                case measure => simp [intOf]; omega
              · have hm1 : ((m : Int) == 2) = false := by simp; omega
                have hm2 : (m == 2) = false := by simpa using hm0
                have HM := Lib.hid hm0
                clear hm0
                go_wp2
                all_goals
                  go_ret
                  exact ⟨ret_bool (HNo.out (by simp [dnodeB, he]; have := HM.out; omega)).symm, BF⟩
            · have he1 : s.toList.isEmpty = false := by simpa using he
              have HE := Lib.hid he
              clear he
              go_wp2
              all_goals
                go_ret
                exact ⟨ret_bool (HNo.out (by simp [dnodeB, HE.out])).symm, BF⟩
          · have hn1 : (n == 0) = false := by simpa using hn
            have HN := Lib.hid hn
            clear hn
            go_wp2
            all_goals
              go_ret
              exact ⟨ret_bool (HNo.out (by simp [dnodeB, HN.out])).symm, BF⟩
        · have b2 : (xk == 2) = false := by simpa using g2
          have b3 : (xk == 3) = false := by simpa using g3
          have b4 : (xk == 4) = false := by simpa using g4
          have b5 : (xk == 5) = false := by simpa using g5
          have b6 : (xk == 6) = false := by simpa using g6
          have HF := Lib.hid (show dnodeB pr xk n s (m : Int) = false from by simp [dnodeB, g2, g3, g4, g5, g6])
          clear g2 g3 g4 g5 g6
          go_wp2
          go_ret
          exact ⟨ret_bool (HNo.out HF.out).symm, BF⟩
    · obtain rfl : k = l.length := by omega
      have HB := Lib.hid (dOk_end HL.out.1 HL.out.2 fun i h => HA.out i h h)
      clear hRf
      have HE := fun W (hK2 : Kept wr W) => Lib.hid (sDEnd (l.length + 1) l _ 0 W ((hR0.kept DNEl.st hK).kept DNEl.st hK2) (by omega) (by omega) (by omega))
      go_wp2_with fail
      go_region_held3 (fun w' => w'.cell? ⟨w.heap.size, 0, none⟩ = some (.slice p l.length cap) ∧ Kept wr w')
        (first | exact ⟨c0, Kept.refl _⟩ | exact ⟨c0, Kept.drew _⟩ | exact ⟨(hb1.cell (p := ⟨w.heap.size, 0, none⟩) hlt0).trans c0, (Kept.drew _).trans (Kept.of_below hb1)⟩)
        ((go_at_call 26; refine (HE _ (by first | exact Kept.drew _ | exact Kept.refl _)).out.mono ?_; rintro e w1 ⟨rfl, hb1⟩))
      go_wp2
      go_ret
      refine ⟨ret_bool ?_, (Joins.below_alloc1 w _).trans (hbel.drew.trans (hb1.mono (by simp; omega)) |>.mono (by simp))⟩
      rw [HB.out, Bool.eq_iff_iff]; simp
theorem sDataOkC (l : List DN) (v : Value) (w : World) (hR : RowRd 4 DNEl w v l) (hz : bData l ≤ 1048576) :
    Calls Try.prog 7 #[.agg #[v]] w fun e w' => e = .returned (.bool (dOkB l)) ∧ Below w.heap.size w w' := sDataOk l v w hR
end Go.Proofs.Ytkalkmgnjlohnaa
