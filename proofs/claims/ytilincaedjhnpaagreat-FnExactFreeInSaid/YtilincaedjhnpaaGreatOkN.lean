/- The model's checks of nodes: the place behind, operators, numbers of kids. -/
import Derived.Test.YtilincaedjhnpaaGreatOkQ
import Derived.Deep.DeepCutAuto
namespace Go.Proofs.YtilincaedjhnpaaGreat
set_option linter.unusedVariables false
set_option maxRecDepth 100000
open Go.ChangeShapes Go.WideShapes Go.ChangeAt Go.RowKit

theorem sNEnd : ∀ (f : Nat) (q : List Nd) (t v : Value) (a : Int) (w : World) (ht : ∃ pt nt ct, t = .slice pt nt ct) (hR : RowRd 6 NdEl w v q) (ha : 0 ≤ a) (ha2 : a ≤ 9223372036854775807) (hf : (q.length : Int) < a + f),
    Calls Tryz.prog 28 #[.agg #[t, v], .int .i64 a] w fun e w' => e = .returned (.int .i64 (pendF f (q.map Nd.kids) a)) ∧ Below w.heap.size w w' := by
  intro f
  induction f with
  | zero =>
    intro l t v a w ht hR ha ha2 hf
    obtain ⟨pt, nt, ct, rfl⟩ := ht
    obtain ⟨p, cap, rfl, hm, _⟩ := hR.form
    have HB := Lib.hid (pendF_out 0 (l.map Nd.kids) a (by rw [List.length_map]; omega))
    unfold maxLen at hm
    have h1 : (l.length : Int) ≤ a := by omega
    go_enter Tryz.func28, Tryz.ntmps28
    go_wp2
    go_ret
    exact ⟨ret_int' HB.out.symm, Joins.below_alloc1 w _⟩
  | succ f ih =>
    intro l t v a w ht hR ha ha2 hf
    obtain ⟨pt, nt, ct, rfl⟩ := ht
    have hR0 := hR
    obtain ⟨p, cap, rfl, hm, hRf⟩ := hR.form
    clear hR
    unfold maxLen at hm
    by_cases h1 : (l.length : Int) ≤ a
    · have HB := Lib.hid (pendF_out (f + 1) (l.map Nd.kids) a (by rw [List.length_map]; omega))
      go_enter Tryz.func28, Tryz.ntmps28
      go_wp2
      go_ret
      exact ⟨ret_int' HB.out.symm, Joins.below_alloc1 w _⟩
    obtain ⟨n, rfl⟩ : ∃ n : Nat, a = n := ⟨a.toNat, by omega⟩
    have hn : n < l.length := by omega
    have hB := pendF_in f (l.map Nd.kids) n (by rw [List.length_map]; exact hn)
    rw [List.getElem_map] at hB
    have hfl : (l.length : Int) < (n : Int) + 1 + f := by omega
    clear h1 hf ha
    obtain ⟨b, o, rfl, hbw, hc⟩ := hRf (by omega)
    have ex := hc n hn
    clear hc hRf
    generalize l[n] = x at *
    have HB := Lib.hid hB
    clear hB
    obtain ⟨⟨e0, i0⟩, ⟨e1, i1⟩, ⟨e2, i2⟩, ⟨e2b, i2b⟩, ⟨u, e3, r3⟩, ⟨u5, e5, r5⟩⟩ := ex
    clear e2b e5 r5
    have r3' := r3
    obtain ⟨bk, ck, rfl, hmk, hk⟩ := r3.form
    clear r3
    unfold maxLen at hmk
    have hnc : decide (l.length ≤ n) = false := by simp; omega
    go_enter Tryz.func28, Tryz.ntmps28
    go_wp2
    go_loopw [5, 22] (fun nx i wr => ∃ (k : Nat) (N : Int), i = .int .i64 k ∧ nx = .int .i64 N ∧ k ≤ x.kids.length ∧ pendF (f + 1) (l.map Nd.kids) (n : Int) = kidsE (pendF f (l.map Nd.kids)) (x.kids.drop k) N ∧ (n : Int) + 1 ≤ N ∧ N ≤ l.length ∧ Below (w.alloc (.cells #[.slice pt nt ct, .slice (some ⟨b, o, none⟩) l.length cap] 31)).heap.size (w.alloc (.cells #[.slice pt nt ct, .slice (some ⟨b, o, none⟩) l.length cap] 31)) wr) (fun _ i _ => x.kids.length - (intOf i).toNat)
    case atStart => exact ⟨0, (n : Int) + 1, rfl, rfl, Nat.zero_le _, by rw [HB.out]; rfl, Int.le_refl _, by omega, Below.refl _ _⟩
    case round =>
      obtain ⟨k, N, rfl, rfl, hkl, hE, hN1, hN2, hbel⟩ := hrel
      have HE := Lib.hid hE
      clear hE
      obtain ⟨hcl, hfr⟩ := bcell hbel
      have hsz := hbel.size
      simp at hsz
      have c0 : wr.cell? ⟨w.heap.size, 1, none⟩ = some (.slice (some ⟨b, o, none⟩) l.length cap) := by rw [hcl _ _ (by simp)]; simp
      have c00 : wr.cell? ⟨w.heap.size, 0, none⟩ = some (.slice pt nt ct) := by rw [hcl _ _ (by simp)]; simp
      have hK : Kept w wr := (Kept.alloc _ _).trans (Kept.of_below hbel)
      clear hcl hfr e0 e1 e2 e3
      by_cases hlt : k < x.kids.length
      · obtain ⟨b2, o2, rfl, hb2, hc2⟩ := hk (by omega)
        obtain ⟨g0, j0, j1⟩ := IntEl.st w wr b2 _ _ hK hb2 (hc2 k hlt)
        rw [Nat.mul_one] at g0
        have HNo := Lib.hid (kidsE_no (pendF f (l.map Nd.kids)) x.kids k hlt)
        have HNeg := Lib.hid (kidsE_neg (pendF f (l.map Nd.kids)) x.kids k hlt)
        have HSt := Lib.hid (kidsE_step (pendF f (l.map Nd.kids)) x.kids k hlt)
        clear hc2 hk
        generalize x.kids[k] = y at *
        by_cases hy : y = N
        · subst hy
          have hyy : (y != y) = false := by simp
          go_wp2_with fail
          refine (ih l _ _ y _ ⟨_, _, _, rfl⟩ (hR0.kept NdEl.st hK) (by omega) (by omega) (by omega)).mono ?_
          rintro e w1 ⟨rfl, hb1⟩
          have hgt := pendF_gt f (l.map Nd.kids) y
          have hle := pendF_le f (l.map Nd.kids) y
          rw [List.length_map] at hle
          obtain ⟨G, hG⟩ : ∃ G, G = pendF f (l.map Nd.kids) y := ⟨_, rfl⟩
          rw [← hG] at hgt hle ⊢
          have HG := Lib.hid hG
          clear hG
          by_cases hneg : G < 0
          · go_wp2
            go_ret
            refine ⟨ret_int' ?_, (Joins.below_alloc1 w _).trans ((hbel.trans (hb1.mono (by simp; omega))).mono (by simp))⟩
            rw [HE.out, HNeg.out y rfl (by rw [← HG.out]; exact hneg)]
          · have hG0 : 0 ≤ G := by omega
            go_wp2
            go_roundw
            case rel => exact ⟨k + 1, G, by go_num, rfl, by omega, by rw [HE.out, HSt.out y rfl (by rw [← HG.out]; omega), HG.out], by omega, by omega, hbel.trans (hb1.mono (by simp; omega))⟩
            case measure => simp [intOf]; omega
        · have hyy : (y != N) = true := by simpa using hy
          have HY := Lib.hid hy
          clear hy
          go_wp2
          go_ret
          refine ⟨ret_int' ?_, (Joins.below_alloc1 w _).trans (hbel.mono (by simp))⟩
          rw [HE.out, HNo.out N HY.out]
      · obtain rfl : k = x.kids.length := by omega
        go_wp2
        go_ret
        refine ⟨ret_int' ?_, (Joins.below_alloc1 w _).trans (hbel.mono (by simp))⟩
        rw [HE.out, List.drop_length]; rfl

theorem sPrim (s : ByteArray) (w : World) :
    Calls Tryz.prog 50 #[.string s] w fun e w' => e = .returned (.bool (primB s)) ∧ Below w.heap.size w w' := by
  go_enter Tryz.func50, Tryz.ntmps50
  go_wp2
  go_loop [7] (fun i => ∃ k : Nat, k ≤ 10 ∧ i = .int .i64 k ∧ (prims.take k).any (fun x => s.toList == x) = false) (fun i => 10 - (intOf i).toNat)
  case atStart => exact ⟨0, Nat.zero_le _, rfl, rfl⟩
  case round =>
    obtain ⟨k, hk, rfl, hno⟩ := hrel
    have HN := Lib.hid hno
    clear hno
    by_cases hlt : k < 10
    · have hc : k = 0 ∨ k = 1 ∨ k = 2 ∨ k = 3 ∨ k = 4 ∨ k = 5 ∨ k = 6 ∨ k = 7 ∨ k = 8 ∨ k = 9 := by omega
      clear hlt hk
      rcases hc with rfl | rfl | rfl | rfl | rfl | rfl | rfl | rfl | rfl | rfl
      all_goals
        go_wp2
        · have hx := ‹(s.toList == _) = true›
          go_ret
          exact ⟨ret_bool (prim_yes s _ (by decide) hx), (Below.refl _ _).alloc (Nat.le_refl _) _⟩
        · go_round
          case rel => exact ⟨_ + 1, by omega, by go_num, prim_step s _ _ rfl HN.out ‹_›⟩
          case measure => simp [intOf]
    · obtain rfl : k = 10 := by omega
      go_wp2
      go_ret
      exact ⟨ret_bool (by rw [primB]; exact HN.out.symm), (Below.refl _ _).alloc (Nat.le_refl _) _⟩
theorem sKids (k : Int) (w : World) : Calls Tryz.prog 53 #[.int .i64 k] w fun e w' => e = .returned (.int .i64 (kidsN k)) ∧ w = w' := by
  go_enter Tryz.func53, Tryz.ntmps53
  go_wp2
  all_goals
    go_ret
    refine ⟨ret_int' ?_, rfl⟩
    simp_all [kidsN]
end Go.Proofs.YtilincaedjhnpaaGreat
