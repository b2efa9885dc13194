/- The model's check of type declarations: its parts. -/
import Derived.Test.YthghgbdpokplhaaGreatDoorCtMath
import Derived.Test.YthghgbdpokplhaaGreatDoorOkX
import Derived.Test.YthghgbdpokplhaaGreatDoorOkY1
import Derived.Deep.QuietTactic
import Derived.BigQuiet
namespace Go.Proofs.YthghgbdpokplhaaGreatDoor
set_option linter.unusedVariables false
set_option maxRecDepth 100000
open Go.ChangeShapes Go.WideShapes Go.ChangeAt Go.RowKit

theorem sGiven (s : ByteArray) (w : World) :
    Calls Tryz.prog 12 #[.string s] w fun e w' => e = .returned (.int .i64 (givenI s)) ∧ w = w' := by
  by_cases h0 : s.toList = [105, 110, 116]
  · have HG := Lib.hid (show givenI s = 0 from by simp [givenI, h0])
    have e0 : (s.toList == [105, 110, 116]) = true := by simp [h0]
    clear h0
    go_enter Tryz.func12, Tryz.ntmps12
    go_wp2
    go_ret
    exact ⟨ret_int' HG.out.symm, rfl⟩
  have e0 : (s.toList == [105, 110, 116]) = false := by simpa using h0
  by_cases h1 : s.toList = [98, 111, 111, 108]
  · have HG := Lib.hid (show givenI s = 0 from by simp [givenI, h1])
    have e1 : (s.toList == [98, 111, 111, 108]) = true := by simp [h1]
    clear h0 h1
    go_enter Tryz.func12, Tryz.ntmps12
    go_wp2
    go_ret
    exact ⟨ret_int' HG.out.symm, rfl⟩
  have e1 : (s.toList == [98, 111, 111, 108]) = false := by simpa using h1
  by_cases h2 : s.toList = [115, 116, 114, 105, 110, 103]
  · have HG := Lib.hid (show givenI s = 0 from by simp [givenI, h2])
    have e2 : (s.toList == [115, 116, 114, 105, 110, 103]) = true := by simp [h2]
    clear h0 h1 h2
    go_enter Tryz.func12, Tryz.ntmps12
    go_wp2
    go_ret
    exact ⟨ret_int' HG.out.symm, rfl⟩
  have e2 : (s.toList == [115, 116, 114, 105, 110, 103]) = false := by simpa using h2
  by_cases h3 : s.toList = [117, 110, 105, 116]
  · have HG := Lib.hid (show givenI s = 0 from by simp [givenI, h3])
    have e3 : (s.toList == [117, 110, 105, 116]) = true := by simp [h3]
    clear h0 h1 h2 h3
    go_enter Tryz.func12, Tryz.ntmps12
    go_wp2
    go_ret
    exact ⟨ret_int' HG.out.symm, rfl⟩
  have e3 : (s.toList == [117, 110, 105, 116]) = false := by simpa using h3
  by_cases h4 : s.toList = [108, 105, 115, 116]
  · have HG := Lib.hid (show givenI s = 1 from by simp [givenI, h4])
    have e4 : (s.toList == [108, 105, 115, 116]) = true := by simp [h4]
    clear h0 h1 h2 h3 h4
    go_enter Tryz.func12, Tryz.ntmps12
    go_wp2
    go_ret
    exact ⟨ret_int' HG.out.symm, rfl⟩
  have e4 : (s.toList == [108, 105, 115, 116]) = false := by simpa using h4
  by_cases h5 : s.toList = [114, 101, 102]
  · have HG := Lib.hid (show givenI s = 1 from by simp [givenI, h5])
    have e5 : (s.toList == [114, 101, 102]) = true := by simp [h5]
    clear h0 h1 h2 h3 h4 h5
    go_enter Tryz.func12, Tryz.ntmps12
    go_wp2
    go_ret
    exact ⟨ret_int' HG.out.symm, rfl⟩
  have e5 : (s.toList == [114, 101, 102]) = false := by simpa using h5
  by_cases h6 : s.toList = [45, 62]
  · have HG := Lib.hid (show givenI s = 2 from by simp [givenI, h6])
    have e6 : (s.toList == [45, 62]) = true := by simp [h6]
    clear h0 h1 h2 h3 h4 h5 h6
    go_enter Tryz.func12, Tryz.ntmps12
    go_wp2
    go_ret
    exact ⟨ret_int' HG.out.symm, rfl⟩
  have e6 : (s.toList == [45, 62]) = false := by simpa using h6
  by_cases h7 : s.toList = [42]
  · have HG := Lib.hid (show givenI s = 2 from by simp [givenI, h7])
    have e7 : (s.toList == [42]) = true := by simp [h7]
    clear h0 h1 h2 h3 h4 h5 h6 h7
    go_enter Tryz.func12, Tryz.ntmps12
    go_wp2
    go_ret
    exact ⟨ret_int' HG.out.symm, rfl⟩
  have e7 : (s.toList == [42]) = false := by simpa using h7
  have HG := Lib.hid (show givenI s = -1 from by simp [givenI, h0, h1, h2, h3, h4, h5, h6, h7])
  clear h0 h1 h2 h3 h4 h5 h6 h7
  go_enter Tryz.func12, Tryz.ntmps12
  go_wp2
  go_ret
  exact ⟨ret_int' HG.out.symm, rfl⟩
set_option maxHeartbeats 2000000 in
theorem sKnown (ts : List Tp) (v0 v1 : Value) (nm : ByteArray) (ar : Int) (w : World) (h0 : RowRd 3 TpEl w v0 ts) :
    Calls Tryz.prog 14 #[.agg #[v0, v1], .string nm, .int .i64 ar] w fun e w' => e = .returned (.bool (knownNB ts nm ar)) ∧ Below w.heap.size w w' := by
  obtain ⟨p, cap, rfl, hm, hRf⟩ := h0.form
  unfold maxLen at hm
  have HK := Lib.hid (show knownNB ts nm ar = (decide (givenI nm = ar) || ts.any fun t => t.name.toList == nm.toList && decide (t.params = ar)) from rfl)
  clear h0
  go_enter Tryz.func14, Tryz.ntmps14
  go_wp2
  go_loopw [12] (fun i wr => ∃ k : Nat, i = .int .i64 k ∧ k ≤ ts.length ∧ ((ts.take k).any fun t => t.name.toList == nm.toList && decide (t.params = ar)) = false ∧ Below (w.alloc (.cells #[.slice p ts.length cap, v1] 32)).heap.size (w.alloc (.cells #[.slice p ts.length cap, v1] 32)) wr) (fun i _ => ts.length - (intOf i).toNat)
  case atStart => exact ⟨0, rfl, Nat.zero_le _, rfl, Below.refl _ _⟩
  case round =>
    obtain ⟨k, rfl, hk, hno, hbel⟩ := hrel
    have HN := Lib.hid hno
    clear hno
    have hsz := hbel.size
    simp at hsz
    have BB : Below w.heap.size w wr := (Joins.below_alloc1 w _).trans (hbel.mono (by simp))
    by_cases hlt : k < ts.length
    · obtain ⟨b, o, rfl, hbw, hc⟩ := hRf (by omega)
      have ex := TpEl.st w wr b _ _ (Kept.of_below BB) hbw (hc k hlt)
      have HY := Lib.hid (any_yes (fun t : Tp => t.name.toList == nm.toList && decide (t.params = ar)) ts k hlt)
      have HS := Lib.hid (any_snoc (fun t : Tp => t.name.toList == nm.toList && decide (t.params = ar)) ts k hlt HN.out)
      clear hc hRf
      generalize ts[k] = x at *
      obtain ⟨⟨e0, i0⟩, ⟨e1, i1⟩, ⟨v2, e2, r2⟩⟩ := ex
      obtain ⟨p2, c2, rfl, m2, -⟩ := r2.form
      have hAl := hbel.alloc (by simp; omega) (.cells #[.string x.name, .int .i64 x.params, .slice p2 x.cons.length c2] 41)
      have B2 := below_tr BB (Joins.below_alloc1 wr (.cells #[.string x.name, .int .i64 x.params, .slice p2 x.cons.length c2] 41))
      cases q1 : x.name.toList == nm.toList
      · have HS2 := Lib.hid (HS.out (by simp only [q1]; rfl))
        go_wp2
        go_roundw
        case rel => exact ⟨k + 1, by go_num, by omega, HS2.out, hAl⟩
        case measure => simp [intOf]; omega
      · by_cases q2 : x.params = ar
        · have q2' : (x.params == ar) = true := by simpa using q2
          have HY2 := Lib.hid (HY.out (by simp only [q1]; simpa using q2))
          clear q2
          go_wp2
          go_ret
          exact ⟨ret_bool (by rw [HK.out, HY2.out]; simp), B2⟩
        · have q2' : (x.params == ar) = false := by simpa using q2
          have HS2 := Lib.hid (HS.out (by simp only [q1]; simpa using q2))
          clear q2
          go_wp2
          go_roundw
          case rel => exact ⟨k + 1, by go_num, by omega, HS2.out, hAl⟩
          case measure => simp [intOf]; omega
    · obtain rfl : k = ts.length := by omega
      rw [List.take_length] at HN
      have hd : (givenI nm == ar) = decide (givenI nm = ar) := rfl
      have HD := Lib.hid hd
      clear hd
      go_wp2_with fail
      refine (sGiven nm _).mono ?_
      rintro e w1 ⟨rfl, rfl⟩
      go_wp2
      go_ret
      exact ⟨ret_bool (by rw [HK.out, HN.out, Bool.or_false]; exact HD.out), BB⟩
set_option maxHeartbeats 4000000 in
theorem sEarlier (ts : List Tp) (v0 v1 : Value) (i k : Nat) (hi : i < ts.length) (hk : k < ts[i].cons.length) (w : World) (h0 : RowRd 3 TpEl w v0 ts) (hl : ts.length ≤ 1048576) :
    Calls Tryz.prog 13 #[.agg #[v0, v1], .int .i64 i, .int .i64 k] w fun e w' => e = .returned (.bool (repB ts i ts[i] k)) ∧ Below w.heap.size w w' := by
  rw [← earl_rep ts i hi k hk]
  obtain ⟨p, cap, rfl, hm, hRf⟩ := h0.form
  unfold maxLen at hm
  obtain ⟨b, o, rfl, hbw, hcT⟩ := hRf (by omega)
  have exi := TpEl.st w (w.alloc (.cells #[.slice (some ⟨b, o, none⟩) ts.length cap, v1] 32)) b _ _ (Kept.alloc _ _) hbw (hcT i hi)
  obtain ⟨⟨e0, i0⟩, ⟨e1, i1⟩, ⟨v2, e2, r2⟩⟩ := exi
  obtain ⟨p2, c2, rfl, m2, hr2⟩ := r2.form
  unfold maxLen at m2
  obtain ⟨b2, o2, rfl, hb2, hc2⟩ := hr2 (by omega)
  obtain ⟨⟨f0, j0⟩, f1, f2⟩ := hc2 k hk
  have hi' : (i : Int) < (ts.length : Int) := by omega
  have hk' : (k : Int) < (ts[i].cons.length : Int) := by omega
  obtain ⟨s, hs⟩ : ∃ s, s = ts[i].cons[k].name := ⟨_, rfl⟩
  obtain ⟨nc, hnc⟩ : ∃ n, n = ts[i].cons.length := ⟨_, rfl⟩
  rw [← hs] at f0 ⊢
  rw [← hnc] at hk' m2
  simp only [← hnc] at e2
  clear hs f1 f2 hr2 hc2 r2 e0 e1 hRf h0 j0 i0 i1
  clear hk hnc
  go_enter Tryz.func13, Tryz.ntmps13
  go_wp2
  go_loopw [8] (fun jj wr => ∃ j : Nat, jj = .int .i64 j ∧ j ≤ i + 1 ∧ NoE ts i k s j 0 ∧ Below (w.alloc (.cells #[.slice (some ⟨b, o, none⟩) ts.length cap, v1] 32)).heap.size (w.alloc (.cells #[.slice (some ⟨b, o, none⟩) ts.length cap, v1] 32)) wr) (fun jj _ => i + 1 - (intOf jj).toNat)
  case atStart => exact ⟨0, rfl, by omega, NoE.zero _ _ _ _, Below.refl _ _⟩
  case round =>
    obtain ⟨j, rfl, hj, hno, hbel⟩ := hrel
    generalize wr = wo at *
    have HN := Lib.hid hno
    clear hno f0 e2
    have hsz := hbel.size
    simp at hsz
    obtain ⟨hcl, hfr⟩ := bcell hbel
    have c0 : wo.cell? ⟨w.heap.size, 0, none⟩ = some (.slice (some ⟨b, o, none⟩) ts.length cap) := by rw [hcl _ _ (by simp)]; simp
    clear hcl hfr
    have BB : Below w.heap.size w wo := (Joins.below_alloc1 w _).trans (hbel.mono (by simp))
    by_cases hlt : j ≤ i
    · have hjt : j < ts.length := by omega
      have hjt' : (j : Int) < (ts.length : Int) := by omega
      have exj := TpEl.st w wo b _ _ (Kept.of_below BB) hbw (hcT j hjt)
      have HNext := Lib.hid (fun (n : Nat) (hn : n = ts[j].cons.length) (h : NoE ts i k s j n) => NoE.next (i := i) (k := k) (s := s) hjt hn h)
      have HStep := Lib.hid (fun (m : Nat) (hm : m < ts[j].cons.length) (h : NoE ts i k s j m) (hn : ts[j].cons[m].name.toList = s.toList → ¬ (j < i ∨ m < k)) => NoE.step hjt hm h hn)
      have HYes := Lib.hid (fun (m : Nat) (hm : m < ts[j].cons.length) (e : ts[j].cons[m].name.toList = s.toList) (hl : j < i ∨ m < k) => earl_yes hlt hjt hm e hl)
      generalize ts[j] = x at *
      obtain ⟨⟨e0, i0⟩, ⟨e1, i1⟩, ⟨v3, e2, r3⟩⟩ := exj
      obtain ⟨p3, c3, rfl, m3, hr3⟩ := r3.form
      unfold maxLen at m3
      clear e0 e1 r3
      go_wp2
      go_loopw [33] (fun mm wr => ∃ m : Nat, mm = .int .i64 m ∧ m ≤ x.cons.length ∧ NoE ts i k s j m ∧ Below (w.alloc (.cells #[.slice (some ⟨b, o, none⟩) ts.length cap, v1] 32)).heap.size (w.alloc (.cells #[.slice (some ⟨b, o, none⟩) ts.length cap, v1] 32)) wr ∧ Below wo.heap.size wo wr) (fun mm _ => x.cons.length - (intOf mm).toNat)
      case atStart => exact ⟨0, rfl, Nat.zero_le _, HN.out, hbel, Below.refl _ _⟩
      case round =>
        obtain ⟨m, rfl, hm4, hno4, hbel4, hbo⟩ := hrel
        have HN4 := Lib.hid hno4
        clear hno4
        have hsz4 := hbel4.size
        simp at hsz4
        have BB4 : Below w.heap.size w wr := (Joins.below_alloc1 w _).trans (hbel4.mono (by simp))
        by_cases hml : m < x.cons.length
        · obtain ⟨b4, o4, rfl, hb4, hc4⟩ := hr3 (by omega)
          have ec := CnEl.st wo wr b4 _ _ (Kept.of_below hbo) hb4 (hc4 m hml)
          have HSt := Lib.hid (HStep.out m hml HN4.out)
          have HYe := Lib.hid (HYes.out m hml)
          clear hc4 hr3
          generalize x.cons[m] = c at *
          obtain ⟨⟨g0, l0⟩, g1, ⟨v5, g2, r5⟩⟩ := ec
          unfold BoolEl at g1
          obtain ⟨p5, c5, rfl, m5, -⟩ := r5.form
          have hAl := hbel4.alloc (by simp; omega) (.cells #[.string c.name, .bool c.has, .slice p5 c.arg.length c5] 48)
          have hAo := hbo.alloc hbo.size (.cells #[.string c.name, .bool c.has, .slice p5 c.arg.length c5] 48)
          have B6 := below_tr BB4 (Joins.below_alloc1 wr (.cells #[.string c.name, .bool c.has, .slice p5 c.arg.length c5] 48))
          cases q1 : c.name.toList == s.toList
          · have HS2 := Lib.hid (HSt.out fun e => by rw [e] at q1; simp at q1)
            go_wp2
            go_roundw
            case rel => exact ⟨m + 1, by go_num, by omega, HS2.out, hAl, hAo⟩
            case measure => simp [intOf]; omega
          · have hq : c.name.toList = s.toList := by simpa using q1
            by_cases q2 : j < i
            · have HT := Lib.hid (HYe.out hq (.inl q2))
              have q2' : (j : Int) < (i : Int) := by omega
              clear hq
              go_wp2
              go_ret
              exact ⟨ret_bool HT.out.symm, B6⟩
            · have q2' : decide ((j : Int) < (i : Int)) = false := by simp; omega
              have q2n : decide (j < i) = false := by simp; omega
              by_cases q3 : m < k
              · have HT := Lib.hid (HYe.out hq (.inr q3))
                have q3' : (m : Int) < (k : Int) := by omega
                clear hq
                go_wp2
                go_ret
                exact ⟨ret_bool HT.out.symm, B6⟩
              · have q3' : decide ((m : Int) < (k : Int)) = false := by simp; omega
                have q3n : decide (m < k) = false := by simp; omega
                have HS2 := Lib.hid (HSt.out fun e => by omega)
                clear hq
                go_wp2
                go_roundw
                case rel => exact ⟨m + 1, by go_num, by omega, HS2.out, hAl, hAo⟩
                case measure => simp [intOf]; omega
        · obtain rfl : m = x.cons.length := by omega
          have HS2 := Lib.hid (HNext.out _ rfl HN4.out)
          go_wp2
          go_roundw
          case rel => exact ⟨j + 1, by go_num, by omega, HS2.out, hbel4⟩
          case measure => simp [intOf]; omega
    · obtain rfl : j = i + 1 := by omega
      have HF := Lib.hid (NoE.done HN.out)
      go_wp2
      go_ret
      exact ⟨ret_bool HF.out.symm, BB⟩
end Go.Proofs.YthghgbdpokplhaaGreatDoor
