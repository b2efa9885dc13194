/- The program's names that are free. -/
import Derived.Test.YtilincaedjhnpaaGreatFrMath
import Derived.Test.YtilincaedjhnpaaGreatFnPN
import Derived.Test.YtilincaedjhnpaaGreatFnNd
namespace Go.Proofs.YtilincaedjhnpaaGreat
set_option linter.unusedVariables false
set_option maxRecDepth 100000
open Go.ChangeShapes Go.WideShapes Go.ChangeAt Go.RowKit

theorem e_iPatBinds : ∀ args w, (callFunc 88 args).run Tryz.prog w = .ok (.enter 88 args) w := enters_of Tryz.func88 (by kernel_rfl) rfl
theorem iPatBinds1 (x : PN) (u : Value) (nm : ByteArray) (bt : Nat) (w : World) (hc : w.cell? ⟨bt, 0, none⟩ = some (.string nm)) (hbt : bt < w.heap.size) (hu : PNVal w u x) :
    Calls Tryz.prog 88 #[u, .pointer (some ⟨bt, 0, none⟩)] w fun e w' => e = .returned (.bool (decide (x.kind = 2) && (x.s.toList == nm.toList))) ∧ Below w.heap.size w w' := by
  obtain ⟨v3, rfl, i0, i1, i2, r3⟩ := hu
  have hne : w.heap.size ≠ bt := by omega
  by_cases h2 : x.kind = 2
  · have HB := Lib.hid (show (decide (x.kind = 2) && (x.s.toList == nm.toList)) = (x.s.toList == nm.toList) from by simp [h2])
    have t2 : (x.kind == 2) = true := by simpa using h2
    clear h2
    go_enter Tryz.func88, Tryz.ntmps88
    go_wp2
    go_ret
    exact ⟨ret_bool HB.out.symm, Joins.below_alloc1 w _⟩
  · have HB := Lib.hid (show (decide (x.kind = 2) && (x.s.toList == nm.toList)) = false from by simp [h2])
    have t2 : (x.kind == 2) = false := by simpa using h2
    clear h2
    go_enter Tryz.func88, Tryz.ntmps88
    go_wp2
    go_ret
    exact ⟨ret_bool HB.out.symm, Joins.below_alloc1 w _⟩
set_option maxHeartbeats 4000000 in
theorem iPatBinds (q : List PN) (v : Value) (nm : ByteArray) (w : World) (hR : RowRd 4 PNEl w v q) :
    Calls Tryz.prog 57 #[.agg #[v], .string nm] w fun e w' => e = .returned (.bool (namesB q nm)) ∧ Below w.heap.size w w' := by
  have hR0 := hR
  obtain ⟨p, cap, rfl, hm, hRf⟩ := hR.form
  have hC := fun W (hK : Kept w W) (bt : Nat) (hc : W.cell? ⟨bt, 0, none⟩ = some (.string nm)) (hbt : bt < W.heap.size) => Lib.hid (iContainsPN 88 #[.pointer (some ⟨bt, 0, none⟩)] e_iPatBinds (fun n => decide (n.kind = 2) && (n.s.toList == nm.toList)) q _ W (hR0.kept PNEl.st hK)
    (fun i hi u W' hW' hu => iPatBinds1 q[i] u nm bt W' ((hW'.cell (p := ⟨bt, 0, none⟩) hbt).trans hc) (Nat.lt_of_lt_of_le hbt hW'.size) hu))
  clear hR hR0 hRf
  go_enter Tryz.func57, Tryz.ntmps57
  go_wp2_with fail
  refine (hC _ (Kept.al2 _ _ _) (w.heap.size + 1) (by simp) (by simp)).out.mono ?_
  rintro e w1 ⟨rfl, hb1⟩
  have hw := below_tr (Joins.below_alloc2 w _ _) hb1
  clear hC
  go_wp2
  go_ret
  exact ⟨rfl, hw⟩
set_option maxHeartbeats 8000000 in
theorem iBindsIn (x : Nd) (u4 u5 : Value) (i : Nat) (nm : ByteArray) (w : World) (h4 : ∃ a n c, u4 = .slice a n c) (h5 : RowRd 1 PatEl w u5 x.pats) (hp : x.kind = 13 → 0 < i → i - 1 < x.pats.length) (hi : i ≤ 9223372036854775807) :
    Calls Tryz.prog 32 #[.agg #[.int .i64 x.kind, .int .i64 x.at_, .int .i64 x.n, .string x.s, u4, u5], .int .i64 i, .string nm] w fun e w' => e = .returned (.bool (bindB x i nm)) ∧ Below w.heap.size w w' := by
  obtain ⟨a4, n4, c4, rfl⟩ := h4
  have h50 := h5
  obtain ⟨p5, c5, rfl, m5, hpf⟩ := h5.form
  unfold maxLen at m5
  by_cases h13 : x.kind = 13
  · by_cases hi0 : i = 0
    · have HB := Lib.hid (show bindB x i nm = false from by rw [hi0]; exact bind_130 x nm h13)
      have q0 : ¬ ((0 : Int) < (i : Int)) := by omega
      have q1 : decide ((0 : Int) < (i : Int)) = false := by simpa using q0
      rw [h13]
      clear h13 hi0 hp h50 h5 hpf
      go_enter Tryz.func32, Tryz.ntmps32
      go_wp2
      go_ret
      exact ⟨ret_bool HB.out.symm, Joins.below_alloc1 w _⟩
    · have hkp := hp h13 (by omega)
      obtain ⟨b5, o5, rfl, hb5, hc5⟩ := hpf (by omega)
      obtain ⟨vq, gq, rq⟩ := hc5 (i - 1) hkp
      rw [Nat.mul_one] at gq
      have HB := Lib.hid (show bindB x i nm = namesB x.pats[i - 1] nm from bind_13 x i nm h13 (by omega) hkp)
      generalize x.pats[i - 1] = q at *
      have rq0 := rq
      obtain ⟨p6, c6, rfl, m6, -⟩ := rq.form
      have hN := fun W (hK : Kept w W) => iPatBinds q _ nm W (rq0.kept PNEl.st hK)
      have ek0 : (0 : Int) ≤ (i : Int) - 1 := by omega
      have ek1 : (i : Int) - 1 < (x.pats.length : Int) := by omega
      have ek2 : (1 : Int) ≤ (i : Int) := by omega
      have ek3 : (0 : Int) < (i : Int) := by omega
      have ek : ((i : Int) - 1).toNat = i - 1 := Int.toNat_sub i 1
      rw [h13]
      clear h13 hi0 hp h50 h5 hpf hc5 rq rq0
      go_enter Tryz.func32, Tryz.ntmps32
      go_wp2_with fail
      refine (hN _ (Kept.alloc _ _)).mono ?_
      rintro e w1 ⟨rfl, hb1⟩
      have hw := below_tr (Joins.below_alloc1 w _) hb1
      clear hN
      go_wp2
      go_ret
      exact ⟨ret_bool HB.out.symm, hw⟩
  · by_cases h5' : x.kind = 5 ∨ x.kind = 8
    · have HB := Lib.hid (bind_5 x i nm h5')
      clear hp h13 h50 h5 hpf
      rcases h5' with h | h
      all_goals
        rw [h]
        clear h
        go_enter Tryz.func32, Tryz.ntmps32
        go_wp2
        go_ret
        exact ⟨ret_bool HB.out.symm, Joins.below_alloc1 w _⟩
    · by_cases h7 : x.kind = 7 ∨ x.kind = 15
      · have HB := Lib.hid (bind_7 x i nm h7)
        by_cases hi1 : i = 1
        · have HB2 := Lib.hid (show bindB x i nm = (x.s.toList == nm.toList) from by rw [HB.out]; simp [hi1])
          have tk : ((i : Int) == 1) = true := by simp; omega
          clear hp h13 h50 h5 hpf h5' hi1 HB
          rcases h7 with h | h
          all_goals
            rw [h]
            clear h
            go_enter Tryz.func32, Tryz.ntmps32
            go_wp2
            go_ret
            exact ⟨ret_bool HB2.out.symm, Joins.below_alloc1 w _⟩
        · have HB2 := Lib.hid (show bindB x i nm = false from by rw [HB.out]; simp [hi1])
          have tk : ((i : Int) == 1) = false := by simp; omega
          clear hp h13 h50 h5 hpf h5' hi1 HB
          rcases h7 with h | h
          all_goals
            rw [h]
            clear h
            go_enter Tryz.func32, Tryz.ntmps32
            go_wp2
            go_ret
            exact ⟨ret_bool HB2.out.symm, Joins.below_alloc1 w _⟩
      · have HB := Lib.hid (bind_no x i nm (by omega) (by omega) (by omega) (by omega) h13)
        have t5 : (x.kind == 5) = false := by simp; omega
        have t8 : (x.kind == 8) = false := by simp; omega
        have t7 : (x.kind == 7) = false := by simp; omega
        have t15 : (x.kind == 15) = false := by simp; omega
        have t13 : (x.kind == 13) = false := by simpa using h13
        clear hp h13 h50 h5 hpf h5' h7
        go_enter Tryz.func32, Tryz.ntmps32
        go_wp2
        go_ret
        exact ⟨ret_bool HB.out.symm, Joins.below_alloc1 w _⟩
set_option maxHeartbeats 8000000 in
theorem iIsFree : ∀ (f : Nat) (p : List Nd) (v1 : Value) (a : Nat) (nm : ByteArray) (w : World) (hO : FreeOk p) (h1 : RowRd 6 NdEl w v1 p) (ha : a < p.length) (hf : p.length < a + f),
    Calls Tryz.prog 19 #[v1, .int .i64 a, .string nm] w fun e w' => e = .returned (.bool (freeN p nm a)) ∧ Below w.heap.size w w' := by
  intro f
  induction f with
  | zero => intro p v1 a nm w hO h1 ha hf; omega
  | succ f ih =>
    intro p v1 a nm w hO h1 ha hf
    have h10 := h1
    obtain ⟨pn, cn, rfl, hm, hnf⟩ := h1.form
    unfold maxLen at hm
    obtain ⟨b, o, rfl, hbw, hc⟩ := hnf (by omega)
    have ex := hc a ha
    have HU := Lib.hid (freeN_at hO nm a ha)
    have HK := Lib.hid (hO a ha)
    have IH := fun (k : Nat) (hk : k < p.length) (hak : a < k) W (hK : Kept w W) => ih p _ k nm W hO (h10.kept NdEl.st hK) hk (by omega)
    clear ih hc hnf hO h1 h10
    obtain ⟨R, hR⟩ : ∃ R, R = freeN p nm a := ⟨_, rfl⟩
    rw [← hR] at HU ⊢
    clear hR
    generalize p[a] = x at *
    obtain ⟨⟨e0, i0⟩, ⟨e1, i1⟩, ⟨e2, i2⟩, ⟨e3, i3⟩, ⟨v4, e4, r4⟩, ⟨v5, e5, r5⟩⟩ := ex
    obtain ⟨p4, c4, rfl, m4, hkf⟩ := r4.form
    have r50 := r5
    obtain ⟨p5, c5, rfl, m5, -⟩ := r5.form
    unfold maxLen at m4 m5
    by_cases h3 : x.kind = 3
    · have HB := Lib.hid (show R = (x.s.toList == nm.toList) from by rw [HU.out, freeStep, if_pos h3])
      have t3 : (x.kind == 3) = true := by simpa using h3
      clear IH HU HK h3 hkf r4 r5 r50
      go_enter Tryz.func19, Tryz.ntmps19
      go_wp2
      go_ret
      exact ⟨ret_bool HB.out.symm, Joins.below_alloc1 w _⟩
    have HB := Lib.hid (show R = anyK (fun i k => !bindB x i nm && freeN p nm k.toNat) 0 x.kids from by rw [HU.out, freeStep, if_neg h3])
    have t3 : (x.kind == 3) = false := by simpa using h3
    clear HU r4 r5 h3
    obtain ⟨O2, hO2⟩ : ∃ O, O = (Obj.cells #[.int .i64 x.kind, .int .i64 x.at_, .int .i64 x.n, .string x.s, .slice p4 x.kids.length c4, .slice p5 x.pats.length c5] 67) := ⟨_, rfl⟩
    have zb : w.heap.size < (w.alloc O2).heap.size := by simp
    have B0 : Below w.heap.size w (w.alloc O2) := Joins.below_alloc1 w O2
    have q10 : (w.alloc O2).cell? ⟨w.heap.size, 0, none⟩ = some (.int .i64 x.kind) := by rw [hO2]; simp
    have q11 : (w.alloc O2).cell? ⟨w.heap.size, 1, none⟩ = some (.int .i64 x.at_) := by rw [hO2]; simp
    have q12 : (w.alloc O2).cell? ⟨w.heap.size, 2, none⟩ = some (.int .i64 x.n) := by rw [hO2]; simp
    have q13 : (w.alloc O2).cell? ⟨w.heap.size, 3, none⟩ = some (.string x.s) := by rw [hO2]; simp
    have q14 : (w.alloc O2).cell? ⟨w.heap.size, 4, none⟩ = some (.slice p4 x.kids.length c4) := by rw [hO2]; simp
    have q15 : (w.alloc O2).cell? ⟨w.heap.size, 5, none⟩ = some (.slice p5 x.pats.length c5) := by rw [hO2]; simp
    go_enter Tryz.func19, Tryz.ntmps19
    go_wp2
    rw [← hO2]
    clear hO2 e0 e1 e2 e3 e4 e5
    generalize w.alloc O2 = wb at *
    go_loopw [24] (fun i wr => ∃ k : Nat, i = .int .i64 k ∧ k ≤ x.kids.length ∧ R = anyK (fun i k => !bindB x i nm && freeN p nm k.toNat) k (x.kids.drop k) ∧ Below wb.heap.size wb wr) (fun i _ => x.kids.length - (intOf i).toNat)
    case atStart => exact ⟨0, rfl, Nat.zero_le _, HB.out, Below.refl _ _⟩
    case round =>
      obtain ⟨k, rfl, hk, hno, hbel⟩ := hrel
      have HA := Lib.hid hno
      clear hno HB
      have BB : Below w.heap.size w wr := below_tr B0 hbel
      have hKw : Kept w wr := Kept.of_below BB
      have y10 := (hbel.cell (p := ⟨w.heap.size, 0, none⟩) zb).trans q10
      have y11 := (hbel.cell (p := ⟨w.heap.size, 1, none⟩) zb).trans q11
      have y12 := (hbel.cell (p := ⟨w.heap.size, 2, none⟩) zb).trans q12
      have y13 := (hbel.cell (p := ⟨w.heap.size, 3, none⟩) zb).trans q13
      have y14 := (hbel.cell (p := ⟨w.heap.size, 4, none⟩) zb).trans q14
      have y15 := (hbel.cell (p := ⟨w.heap.size, 5, none⟩) zb).trans q15
      clear q10 q11 q12 q13 q14 q15
      by_cases hlt : k < x.kids.length
      · obtain ⟨b4, o4, rfl, hb4, hc4⟩ := hkf (by omega)
        obtain ⟨g0, j0⟩ := IntEl.st w wr b4 _ _ hKw hb4 (hc4 k hlt)
        rw [Nat.mul_one] at g0
        have hkk := HK.out.1 x.kids[k] (List.getElem_mem hlt)
        have HS := Lib.hid (HA.out.trans (anyK_drop _ x.kids k hlt))
        clear HA hc4 hkf
        generalize x.kids[k] = y at *
        obtain ⟨j, rfl⟩ : ∃ j : Nat, y = j := ⟨y.toNat, by omega⟩
        have IHk := IH j (by omega) (by omega)
        simp only [Int.toNat_natCast] at HS
        have hBd := iBindsIn x _ _ k nm wr ⟨some ⟨b4, o4, none⟩, x.kids.length, c4, rfl⟩ (r50.kept PatEl.st hKw) (fun h13 h0 => by have := HK.out.2 h13; omega) (by omega)
        clear IH HK hkk r50
        go_wp2_with fail
        refine hBd.mono ?_
        rintro e w1 ⟨rfl, hb1⟩
        have BB1 := below_tr BB hb1
        have hbel1 := below_tr hbel hb1
        have hKw1 : Kept w w1 := Kept.of_below BB1
        clear y10 y11 y12 y13 y14 y15 g0 hBd
        cases hbd : bindB x k nm
        · rw [hbd] at HS
          clear hbd
          go_wp2_with fail
          refine (IHk _ hKw1).mono ?_
          rintro e w2 ⟨rfl, hb2⟩
          have HBe := Lib.hid (below_tr hbel1 hb2)
          have HBw := Lib.hid (below_tr BB1 hb2)
          cases hfr : freeN p nm j
          · rw [hfr] at HS
            go_wp2
            go_roundw
            case rel => exact ⟨k + 1, by go_num, by omega, by simpa using HS.out, HBe.out⟩
            case measure => simp [intOf]; omega
          · rw [hfr] at HS
            go_wp2
            go_ret
            exact ⟨ret_bool (by rw [HS.out]; rfl), HBw.out⟩
        · rw [hbd] at HS
          clear hbd
          go_wp2
          go_roundw
          case rel => exact ⟨k + 1, by go_num, by omega, by simpa using HS.out, hbel1⟩
          case measure => simp [intOf]; omega
      · obtain rfl : k = x.kids.length := by omega
        rw [anyK_end] at HA
        go_wp2
        go_ret
        exact ⟨ret_bool HA.out.symm, BB⟩
end Go.Proofs.YtilincaedjhnpaaGreat
