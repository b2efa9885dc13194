/- The model's printed form of code: the whole. -/
import Derived.Test.YtkhemdagghlcdaaGreatDoorTcS
namespace Go.Proofs.YtkhemdagghlcdaaGreatDoor
set_option linter.unusedVariables false
set_option maxRecDepth 100000
open Go.ChangeShapes Go.WideShapes Go.ChangeAt Go.RowKit

set_option maxHeartbeats 4000000 in
theorem sCodeTextC (c : Cd) (v0 v1 : Value) (w : World) (h0 : RowRd 4 InsEl w v0 c.ins) (h1 : RowRd 1 PatEl w v1 c.pats) (hz : bCd c ≤ 1048576) :
    Calls Tryz.prog 5 #[.agg #[v0, v1]] w fun e w' => e = .returned (.string (codeTxRes c)) ∧ Below w.heap.size w w' := by
  have HOK := fun W (hW : Below w.heap.size w W) => Lib.hid (sCodeOk c v0 v1 W (h0.kept InsEl.st (Kept.of_below hW)) (h1.kept PatEl.st (Kept.of_below hW)))
  obtain ⟨a0, c0, e0, hm0, hR0⟩ := h0.form
  obtain ⟨a1, c1, e1, hm1, -⟩ := h1.form
  subst e0 e1
  obtain ⟨O, hO⟩ : ∃ O, O = Obj.cells #[.slice a0 c.ins.length c0, .slice a1 c.pats.length c1] 31 := ⟨_, rfl⟩
  have bO : Below w.heap.size w (w.alloc O) := Joins.below_alloc1 w O
  have d0 : (w.alloc O).cell? ⟨w.heap.size, 0, none⟩ = some (.slice a0 c.ins.length c0) := by rw [hO]; simp
  have z : w.heap.size < (w.alloc O).heap.size := by simp
  clear h0 h1
  unfold maxLen at hm0
  cases hk : codeOkB c
  · rw [hk] at HOK
    have HB := Lib.hid (show codeTxRes c = ⟨#[]⟩ from by simp [codeTxRes, codeTx, hk])
    go_enter Tryz.func5, Tryz.ntmps5
    go_wp2_with fail
    rw [← hO]
    clear hO
    generalize w.alloc O = W at *
    refine (HOK _ bO).out.mono ?_
    rintro e w1 ⟨rfl, hb1⟩
    go_wp2
    go_ret
    exact ⟨by rw [HB.out]; rfl, below_tr bO hb1⟩
  · rw [hk] at HOK
    have HB := Lib.hid (show codeTxRes c = ⟨(codeP c.ins c.ins.length).flatten.toArray⟩ from by simp [codeTxRes, codeTx, hk])
    have HSZ := Lib.hid (fun k hk' => code_sz hk hz k hk')
    have HIS := Lib.hid (fun k hk' => ins_sz hz k hk')
    have HRT := Lib.hid (show ∀ k (hk : k < c.ins.length), 1 ≤ c.ins[k].op ∧ c.ins[k].op ≤ 25 ∧ (c.ins[k].op = 4 ∨ c.ins[k].op = 7 ∨ c.ins[k].op = 16 → c.ins[k].s.toList ≠ []) ∧ (c.ins[k].op ≠ 2 → c.ins[k].op ≠ 4 → c.ins[k].op ≠ 7 → c.ins[k].op ≠ 16 → c.ins[k].s.toList = []) from fun k hk' => by
      simp only [codeOkB, Bool.and_eq_true] at hk
      exact ins_right (List.all_eq_true.1 hk.2.2.1 _ (List.getElem_mem hk')))
    clear hk hz
    go_enter Tryz.func5, Tryz.ntmps5
    go_wp2_with fail
    rw [← hO]
    clear hO
    generalize w.alloc O = W at *
    refine (HOK _ bO).out.mono ?_
    rintro e w1 ⟨rfl, hb1⟩
    have B1 := below_tr bO hb1
    have e0 := (hb1.cell (p := ⟨w.heap.size, 0, none⟩) z).trans d0
    have z1 := Nat.lt_of_lt_of_le z hb1.size
    clear HOK bO d0 z hb1
    generalize c.ins = ins at *
    go_wp2
    go_loopw [3, 12] (fun out i wr => ∃ k : Nat, i = .int .i64 k ∧ k ≤ ins.length ∧ out = .string ⟨(codeP ins k).flatten.toArray⟩ ∧ Below w1.heap.size w1 wr) (fun _ i _ => ins.length - (intOf i).toNat)
    case atStart => exact ⟨0, rfl, Nat.zero_le _, rfl, Below.refl _ _⟩
    case round =>
      obtain ⟨k, rfl, hk, rfl, hbel⟩ := hrel
      have hsz := hbel.size
      have f0 := (hbel.cell (p := ⟨w.heap.size, 0, none⟩) z1).trans e0
      have hK : Kept w wr := (Kept.of_below B1).trans (Kept.of_below hbel)
      by_cases hlt : k < ins.length
      · obtain ⟨b, o, rfl, hbw, hc⟩ := hR0 (by omega)
        obtain ⟨⟨x0, j0⟩, ⟨x1, j1⟩, ⟨x2, j2⟩, ⟨x3, -⟩⟩ := InsEl.st w wr b _ _ hK hbw (hc k hlt)
        obtain ⟨r1, r2, r3, r4⟩ := HRT.out k hlt
        have hs := HIS.out k hlt
        have hT := HSZ.out k hk
        have HC := Lib.hid (code_line ins k hlt)
        clear hc hR0 HRT HIS HSZ
        generalize ins[k] = x at *
        obtain ⟨op, a, b', s⟩ := x
        obtain ⟨S, rfl⟩ : ∃ S : List UInt8, s = ⟨S.toArray⟩ := ⟨s.data.toList, rfl⟩
        have eS : (⟨S.toArray⟩ : ByteArray).toList = S := by rw [pr_toList]
        have eL : (⟨S.toArray⟩ : ByteArray).size = S.length := by show S.toArray.size = _; simp
        simp only at x0 x1 x2 x3 j0 j1 j2 r1 r2 r3 r4 hs
        simp only at HC
        rw [eS] at r3 r4
        rw [eL] at hs
        generalize (codeP ins k).flatten = T at *
        have R3 := Lib.hid r3
        have R4 := Lib.hid r4
        clear r3 r4
        have HN := fun W => Lib.hid (sNumText k W (by omega))
        have HOp := fun W => Lib.hid (sOpName op W (by omega) r2)
        have HA := fun W => Lib.hid (sNumText a W (by have := j1.1; have := j1.2; omega))
        have HBt := fun W => Lib.hid (sNumText b' W (by have := j2.1; have := j2.2; omega))
        have HQ := fun W => Lib.hid (show Calls Tryz.prog 14 #[.string ⟨S.toArray⟩] W fun e w' => e = .returned (.string ⟨(quoteL S).toArray⟩) ∧ Below W.heap.size W w' from sQuote ⟨S.toArray⟩ W (by rw [eL]; exact hs))
        have lN := numL_le k
        have lO := opT_len op.toNat
        generalize numL k = N at *
        generalize opT op.toNat = OT at *
        obtain ⟨OB, hOB⟩ : ∃ OB, OB = Obj.cells #[.int .i64 op, .int .i64 a, .int .i64 b', .string ⟨S.toArray⟩] 39 := ⟨_, rfl⟩
        have bl : Below wr.heap.size wr (wr.alloc OB) := Joins.below_alloc1 wr OB
        have zl : wr.heap.size < (wr.alloc OB).heap.size := by simp
        have y0 : (wr.alloc OB).cell? ⟨wr.heap.size, 0, none⟩ = some (.int .i64 op) := by rw [hOB]; simp
        have y1 : (wr.alloc OB).cell? ⟨wr.heap.size, 1, none⟩ = some (.int .i64 a) := by rw [hOB]; simp
        have y2 : (wr.alloc OB).cell? ⟨wr.heap.size, 2, none⟩ = some (.int .i64 b') := by rw [hOB]; simp
        have y3 : (wr.alloc OB).cell? ⟨wr.heap.size, 3, none⟩ = some (.string ⟨S.toArray⟩) := by rw [hOB]; simp
        have u1 : ¬ (9223372036854775807 < T.length + N.length) := by omega
        have u2 : ¬ (9223372036854775807 < T.length + N.length + 1) := by omega
        have u3 : ¬ (9223372036854775807 < T.length + N.length + 1 + OT.length) := by omega
        go_wp2_with fail
        rw [← hOB]
        clear hOB x0 x1 x2 x3
        generalize wr.alloc OB = W0 at *
        have hI : ∀ W, Below W0.heap.size W0 W → (W.cell? ⟨wr.heap.size, 0, none⟩ = some (.int .i64 op)) := fun W hW => (hW.cell (p := ⟨wr.heap.size, 0, none⟩) zl).trans y0
        have HN' := fun W (hW : Below W0.heap.size W0 W) => (HN W).out
        have HOp' := fun W (hW : Below W0.heap.size W0 W) => (HOp W).out
        refine region_begin (n := 10) (S := (fun W => Below W0.heap.size W0 W ∧ (W.cell? ⟨wr.heap.size, 0, none⟩ = some (.int .i64 op)))) (by kernel_rfl) rfl (by kernel_rfl) ⟨(Below.refl _ _).drew, hI _ (Below.refl _ _).drew⟩ (fun hHeld => ?_)
        refine take_next (i := 0) (v := ?_) [] (ts' := [0]) rfl (by kernel_rfl) (by kernel_rfl) (by kernel_rfl) (fun _ _ _ h => h) (.inl ⟨by rfl, ?_⟩) (by assumption) (by kernel_rfl) (d := 17) rfl (by simp only [Act.put, List.setIfInBounds_toArray, List.set_cons_zero, List.set_cons_succ]; rfl) ?_
        rotate_left
        · intro w' hSw
          try dsimp only at hSw
          go_split_ands
          go_simp
          try with_reducible rfl
        refine take_next (i := 1) (v := ?_) [0] (ts' := [0, 1]) rfl (by kernel_rfl) (by kernel_rfl) (by kernel_rfl) (fun _ _ _ h => h) (.inl ⟨by rfl, ?_⟩) (by assumption) (by kernel_rfl) (d := 18) rfl (by simp only [Act.put, List.setIfInBounds_toArray, List.set_cons_zero, List.set_cons_succ]; rfl) ?_
        rotate_left
        · intro w' hSw
          try dsimp only at hSw
          go_split_ands
          go_simp
          try with_reducible rfl
        refine take_next (i := 5) (v := ?_) [0, 1] (ts' := [0, 1, 5]) rfl (by kernel_rfl) (by kernel_rfl) (by kernel_rfl) (fun _ _ _ h => h) (.inl ⟨by rfl, ?_⟩) (by assumption) (by kernel_rfl) (d := 22) rfl (by simp only [Act.put, List.setIfInBounds_toArray, List.set_cons_zero, List.set_cons_succ]; rfl) ?_
        rotate_left
        · intro w' hSw
          try dsimp only at hSw
          go_split_ands
          go_simp
          try with_reducible rfl
        refine take_next (i := 6) (v := ?_) [0, 1, 5] (ts' := [0, 1, 5, 6]) rfl (by kernel_rfl) (by kernel_rfl) (by kernel_rfl) (fun _ _ _ h => h) (.inl ⟨by rfl, ?_⟩) (by assumption) (by kernel_rfl) (d := 23) rfl (by simp only [Act.put, List.setIfInBounds_toArray, List.set_cons_zero, List.set_cons_succ]; rfl) ?_
        rotate_left
        · intro w' hSw
          try dsimp only at hSw
          go_split_ands
          go_simp
          try with_reducible rfl
        refine wpAnyH_ready (rs := [2]) (by kernel_rfl) (by simp) ?_
        refine AllReadyH.cons (o := _) rfl (fun K hK => ?_) AllReadyH.nil
        go_simp
        refine (HN' _ hHeld.1).mono ?_
        rintro e w2 ⟨rfl, hb2⟩
        dsimp only
        refine hK.out _ _ ⟨below_tr hHeld.1 hb2, hI _ (below_tr hHeld.1 hb2)⟩ (fun hHeld => ?_)
        clear hK K
        refine mask_is (n := 10) [0, 1, 5, 6, 2] (by kernel_rfl) ?_
        refine take_next (i := 3) (v := ?_) [0, 1, 5, 6, 2] (ts' := [0, 1, 5, 6, 2, 3]) rfl (by kernel_rfl) (by kernel_rfl) (by kernel_rfl) (fun _ _ _ h => h) (.inl ⟨by rfl, ?_⟩) (by assumption) (by kernel_rfl) (d := 20) rfl (by simp only [Act.put, List.setIfInBounds_toArray, List.set_cons_zero, List.set_cons_succ]; rfl) ?_
        rotate_left
        · intro w' hSw
          try dsimp only at hSw
          go_split_ands
          go_simp
          try with_reducible rfl
        refine take_next (i := 4) (v := ?_) [0, 1, 5, 6, 2, 3] (ts' := [0, 1, 5, 6, 2, 3, 4]) rfl (by kernel_rfl) (by kernel_rfl) (by kernel_rfl) (fun _ _ _ h => h) (.inl ⟨by rfl, ?_⟩) (by assumption) (by kernel_rfl) (d := 21) rfl (by simp only [Act.put, List.setIfInBounds_toArray, List.set_cons_zero, List.set_cons_succ]; rfl) ?_
        rotate_left
        · intro w' hSw
          try dsimp only at hSw
          go_split_ands
          go_simp
          try with_reducible rfl
        refine wpAnyH_ready (rs := [7]) (by kernel_rfl) (by simp) ?_
        refine AllReadyH.cons (o := _) rfl (fun K hK => ?_) AllReadyH.nil
        go_simp
        refine (HOp' _ hHeld.1).mono ?_
        rintro e w7 ⟨rfl, hb7⟩
        dsimp only
        refine hK.out _ _ ⟨below_tr hHeld.1 hb7, hI _ (below_tr hHeld.1 hb7)⟩ (fun hHeld => ?_)
        clear hK K
        refine mask_is (n := 10) [0, 1, 5, 6, 2, 3, 4, 7] (by kernel_rfl) ?_
        refine take_next (i := 8) (v := ?_) [0, 1, 5, 6, 2, 3, 4, 7] (ts' := [0, 1, 5, 6, 2, 3, 4, 7, 8]) rfl (by kernel_rfl) (by kernel_rfl) (by kernel_rfl) (fun _ _ _ h => h) (.inl ⟨by rfl, ?_⟩) (by assumption) (by kernel_rfl) (d := 25) rfl (by simp only [Act.put, List.setIfInBounds_toArray, List.set_cons_zero, List.set_cons_succ]; rfl) ?_
        rotate_left
        · intro w' hSw
          try dsimp only at hSw
          go_split_ands
          go_simp
          try with_reducible rfl
        refine take_next (i := 9) (v := ?_) [0, 1, 5, 6, 2, 3, 4, 7, 8] (ts' := [0, 1, 5, 6, 2, 3, 4, 7, 8, 9]) rfl (by kernel_rfl) (by kernel_rfl) (by kernel_rfl) (fun _ _ _ h => h) (.inl ⟨by rfl, ?_⟩) (by assumption) (by kernel_rfl) (d := 3) rfl (by simp only [Act.put, List.setIfInBounds_toArray, List.set_cons_zero, List.set_cons_succ]; rfl) ?_
        rotate_left
        · intro w' hSw
          try dsimp only at hSw
          go_split_ands
          go_simp
          try with_reducible rfl
        refine wpAnyH_done (by kernel_rfl) ?_ _
        try dsimp only at hHeld
        have hHB := hHeld.1
        clear hHeld
        have q0 := (hHB.cell (p := ⟨wr.heap.size, 0, none⟩) zl).trans y0
        have q1 := (hHB.cell (p := ⟨wr.heap.size, 1, none⟩) zl).trans y1
        have q2 := (hHB.cell (p := ⟨wr.heap.size, 2, none⟩) zl).trans y2
        have q3 := (hHB.cell (p := ⟨wr.heap.size, 3, none⟩) zl).trans y3
        have zq := Nat.lt_of_lt_of_le zl hHB.size
        have B7 := below_tr (below_tr hbel bl) hHB
        clear hI HN' HOp' HN HOp y0 y1 y2 y3 zl bl hbel hHB
        have lA := numL_le a
        have lB := numL_le b'
        have lQ : (quoteL S).length ≤ 4 * S.length + 2 := by have := quote_le ⟨S.toArray⟩; rw [eS, eL] at this; exact this
        rw [show ((⟨T.toArray⟩ : ByteArray) ++ ⟨N.toArray⟩ ++ ⟨#[32]⟩ ++ ⟨OT.toArray⟩) = ⟨(T ++ N ++ [32] ++ OT).toArray⟩ from rfl]
        have hT1 : (T ++ N ++ [32] ++ OT).length ≤ 9000100 := by simp only [List.length_append, List.length_cons, List.length_nil]; omega
        generalize T ++ N ++ [32] ++ OT = T1 at *
        clear u1 u2 u3 hT lN lO
        rcases insGroups op r1 r2 with hg | hg | hg | hg | hg | hg
        · have HF := Lib.hid (show (codeP ins (k + 1)).flatten = T1 ++ [32] ++ numL a ++ [10] from by
            rw [HC.out]; rcases hg with rfl | rfl | rfl | rfl | rfl | rfl | rfl | rfl <;> simp [tailT, fT])
          have u1 : ¬ (9223372036854775807 < T1.length + 1) := by omega
          have u2 : ¬ (9223372036854775807 < T1.length + 1 + (numL a).length) := by omega
          have u3 : ¬ (9223372036854775807 < T1.length + 1 + (numL a).length + 1) := by omega
          have hS : S = [] := R4.out (by omega) (by omega) (by omega) (by omega)
          clear HC R3 R4 r1 r2
          have HA' := HA
          rcases hg with rfl | rfl | rfl | rfl | rfl | rfl | rfl | rfl
          all_goals
            subst hS
            go_wp2_with fail
            refine (HA _).out.mono ?_
            rintro e w8 ⟨rfl, hb8⟩
            have p0 := (hb8.cell (p := ⟨wr.heap.size, 0, none⟩) zq).trans q0
            have p1 := (hb8.cell (p := ⟨wr.heap.size, 1, none⟩) zq).trans q1
            have p2 := (hb8.cell (p := ⟨wr.heap.size, 2, none⟩) zq).trans q2
            have p3 := (hb8.cell (p := ⟨wr.heap.size, 3, none⟩) zq).trans q3
            have zp := Nat.lt_of_lt_of_le zq hb8.size
            go_wp2
            go_roundw
            case rel => exact ⟨k + 1, by go_num, by omega, by rw [HF.out]; rfl, (below_tr B7 hb8)⟩
            case measure => simp [intOf]; omega
        · have HF := Lib.hid (show (codeP ins (k + 1)).flatten = T1 ++ [32] ++ numL a ++ [32] ++ numL b' ++ [10] from by
            rw [HC.out]; subst hg; simp [tailT, fT])
          have u1 : ¬ (9223372036854775807 < T1.length + 1) := by omega
          have u2 : ¬ (9223372036854775807 < T1.length + 1 + (numL a).length) := by omega
          have u3 : ¬ (9223372036854775807 < T1.length + 1 + (numL a).length + 1) := by omega
          have u4 : ¬ (9223372036854775807 < T1.length + 1 + (numL a).length + 1 + (numL b').length) := by omega
          have u5 : ¬ (9223372036854775807 < T1.length + 1 + (numL a).length + 1 + (numL b').length + 1) := by omega
          have hS : S = [] := R4.out (by omega) (by omega) (by omega) (by omega)
          clear HC R3 R4 r1 r2
          have HA' := HA
          subst hg
          subst hS
          go_wp2_with fail
          refine (HA _).out.mono ?_
          rintro e w8 ⟨rfl, hb8⟩
          have p0 := (hb8.cell (p := ⟨wr.heap.size, 0, none⟩) zq).trans q0
          have p1 := (hb8.cell (p := ⟨wr.heap.size, 1, none⟩) zq).trans q1
          have p2 := (hb8.cell (p := ⟨wr.heap.size, 2, none⟩) zq).trans q2
          have p3 := (hb8.cell (p := ⟨wr.heap.size, 3, none⟩) zq).trans q3
          have zp := Nat.lt_of_lt_of_le zq hb8.size
          go_wp2_with fail
          refine (HBt _).out.mono ?_
          rintro e w9 ⟨rfl, hb9⟩
          have o0 := (hb9.cell (p := ⟨wr.heap.size, 0, none⟩) zp).trans p0
          have o1 := (hb9.cell (p := ⟨wr.heap.size, 1, none⟩) zp).trans p1
          have o2 := (hb9.cell (p := ⟨wr.heap.size, 2, none⟩) zp).trans p2
          have o3 := (hb9.cell (p := ⟨wr.heap.size, 3, none⟩) zp).trans p3
          go_wp2
          go_roundw
          case rel => exact ⟨k + 1, by go_num, by omega, by rw [HF.out]; rfl, (below_tr (below_tr B7 hb8) hb9)⟩
          case measure => simp [intOf]; omega
        · have HF := Lib.hid (show (codeP ins (k + 1)).flatten = T1 ++ [32] ++ numL a ++ [32] ++ S ++ [10] from by
            rw [HC.out]; subst hg; simp [tailT, fT, eS])
          have u1 : ¬ (9223372036854775807 < T1.length + 1) := by omega
          have u2 : ¬ (9223372036854775807 < T1.length + 1 + (numL a).length) := by omega
          have u3 : ¬ (9223372036854775807 < T1.length + 1 + (numL a).length + 1) := by omega
          have u4 : ¬ (9223372036854775807 < T1.length + 1 + (numL a).length + 1 + S.length) := by omega
          have u5 : ¬ (9223372036854775807 < T1.length + 1 + (numL a).length + 1 + S.length + 1) := by omega
          have hS : S ≠ [] := R3.out (by omega)
          have hSe : S.isEmpty = false := by simpa using hS
          have hS1 : ((⟨S.toArray⟩ : ByteArray).toList.isEmpty) = false := by rw [eS]; exact hSe
          have hSd : (S == []) = false := by simpa using hS
          clear HC R3 R4 r1 r2
          have HA' := HA
          subst hg
          go_wp2_with fail
          refine (HA _).out.mono ?_
          rintro e w8 ⟨rfl, hb8⟩
          have p0 := (hb8.cell (p := ⟨wr.heap.size, 0, none⟩) zq).trans q0
          have p1 := (hb8.cell (p := ⟨wr.heap.size, 1, none⟩) zq).trans q1
          have p2 := (hb8.cell (p := ⟨wr.heap.size, 2, none⟩) zq).trans q2
          have p3 := (hb8.cell (p := ⟨wr.heap.size, 3, none⟩) zq).trans q3
          have zp := Nat.lt_of_lt_of_le zq hb8.size
          go_wp2
          go_roundw
          case rel => exact ⟨k + 1, by go_num, by omega, by rw [HF.out]; rfl, (below_tr B7 hb8)⟩
          case measure => simp [intOf]; omega
        · have HF := Lib.hid (show (codeP ins (k + 1)).flatten = T1 ++ [32] ++ S ++ [10] from by
            rw [HC.out]; rcases hg with rfl | rfl <;> simp [tailT, fT, eS])
          have u1 : ¬ (9223372036854775807 < T1.length + 1) := by omega
          have u2 : ¬ (9223372036854775807 < T1.length + 1 + S.length) := by omega
          have u3 : ¬ (9223372036854775807 < T1.length + 1 + S.length + 1) := by omega
          have hS : S ≠ [] := R3.out (by omega)
          have hSe : S.isEmpty = false := by simpa using hS
          have hS1 : ((⟨S.toArray⟩ : ByteArray).toList.isEmpty) = false := by rw [eS]; exact hSe
          have hSd : (S == []) = false := by simpa using hS
          clear HC R3 R4 r1 r2
          have HA' := HA
          rcases hg with rfl | rfl
          all_goals
            go_wp2
            go_roundw
            case rel => exact ⟨k + 1, by go_num, by omega, by rw [HF.out]; rfl, B7⟩
            case measure => simp [intOf]; omega
        · have HF := Lib.hid (show (codeP ins (k + 1)).flatten = T1 ++ [32] ++ quoteL S ++ [10] from by
            rw [HC.out]; subst hg; simp [tailT, fT, eS])
          have u1 : ¬ (9223372036854775807 < T1.length + 1) := by omega
          have u2 : ¬ (9223372036854775807 < T1.length + 1 + (quoteL S).length) := by omega
          have u3 : ¬ (9223372036854775807 < T1.length + 1 + (quoteL S).length + 1) := by omega
          clear HC R3 R4 r1 r2
          have HA' := HA
          subst hg
          go_wp2_with fail
          refine (HQ _).out.mono ?_
          rintro e w8 ⟨rfl, hb8⟩
          have p0 := (hb8.cell (p := ⟨wr.heap.size, 0, none⟩) zq).trans q0
          have p1 := (hb8.cell (p := ⟨wr.heap.size, 1, none⟩) zq).trans q1
          have p2 := (hb8.cell (p := ⟨wr.heap.size, 2, none⟩) zq).trans q2
          have p3 := (hb8.cell (p := ⟨wr.heap.size, 3, none⟩) zq).trans q3
          go_wp2
          go_roundw
          case rel => exact ⟨k + 1, by go_num, by omega, by rw [HF.out]; rfl, (below_tr B7 hb8)⟩
          case measure => simp [intOf]; omega
        · have HF := Lib.hid (show (codeP ins (k + 1)).flatten = T1 ++ [10] from by
            rw [HC.out]; rcases hg with rfl | rfl | rfl | rfl | rfl | rfl | rfl | rfl | rfl | rfl | rfl | rfl <;> simp [tailT, fT])
          have u1 : ¬ (9223372036854775807 < T1.length + 1) := by omega
          have hS : S = [] := R4.out (by omega) (by omega) (by omega) (by omega)
          clear HC R3 R4 r1 r2
          have HA' := HA
          rcases hg with rfl | rfl | rfl | rfl | rfl | rfl | rfl | rfl | rfl | rfl | rfl | rfl
          all_goals
            subst hS
            go_wp2
            go_roundw
            case rel => exact ⟨k + 1, by go_num, by omega, by rw [HF.out]; rfl, B7⟩
            case measure => simp [intOf]; omega
      · obtain rfl : k = ins.length := by omega
        clear hR0 HRT HIS HSZ
        go_wp2
        go_ret
        exact ⟨by rw [HB.out]; rfl, below_tr B1 hbel (by have := B1.size; omega)⟩
end Go.Proofs.YtkhemdagghlcdaaGreatDoor
