/- The model's FreeIn and Weight. -/
import Derived.Test.YtilincaedjhnpaaGreatFrMath
import Derived.Test.YtilincaedjhnpaaGreatOkS
namespace Go.Proofs.YtilincaedjhnpaaGreat
set_option linter.unusedVariables false
set_option maxRecDepth 100000
open Go.ChangeShapes Go.WideShapes Go.ChangeAt Go.RowKit

theorem any_ny {α : Type} (ok : α → Bool) (l : List α) (k : Nat) (h : k < l.length) (hy : ok l[k] = true) : l.any ok = true := by
  rw [List.any_eq_true]; exact ⟨_, List.getElem_mem h, hy⟩
theorem any_nn {α : Type} (ok : α → Bool) (l : List α) (k : Nat) (h : k < l.length) (h0 : (l.take k).any ok = false) (hn : ok l[k] = false) : (l.take (k + 1)).any ok = false := by
  rw [List.take_succ_eq_append_getElem h, List.any_append, h0]; simp [hn]
set_option maxHeartbeats 4000000 in
theorem sBinds (q : List PN) (v : Value) (nm : ByteArray) (w : World) (hR : RowRd 4 PNEl w v q) :
    Calls Tryz.prog 29 #[.agg #[v], .string nm] w fun e w' => e = .returned (.bool (namesB q nm)) ∧ Below w.heap.size w w' := by
  obtain ⟨p, cap, rfl, hm, hRf⟩ := hR.form
  unfold maxLen at hm
  clear hR
  go_enter Tryz.func29, Tryz.ntmps29
  go_wp2
  go_loopw [10] (fun i wr => ∃ k : Nat, i = .int .i64 k ∧ k ≤ q.length ∧ ((q.take k).any fun n => decide (n.kind = 2) && (n.s.toList == nm.toList)) = false ∧ Below (w.alloc (.cells #[.slice p q.length cap] 73)).heap.size (w.alloc (.cells #[.slice p q.length cap] 73)) wr) (fun i _ => q.length - (intOf i).toNat)
  case atStart => exact ⟨0, rfl, Nat.zero_le _, rfl, Below.refl _ _⟩
  case round =>
    obtain ⟨k, rfl, hk, hno, hbel⟩ := hrel
    have HA := Lib.hid hno
    clear hno
    have hbw' := below_tr (Joins.below_alloc1 w _) hbel
    have hK : Kept w wr := Kept.of_below hbw'
    by_cases hlt : k < q.length
    · obtain ⟨b, o, rfl, hbw, hc⟩ := hRf (by omega)
      have ex := PNEl.st w wr b _ _ hK hbw (hc k hlt)
      have HY := Lib.hid (fun h => any_ny (fun n : PN => decide (n.kind = 2) && (n.s.toList == nm.toList)) q k hlt h)
      have HN := Lib.hid (fun h => any_nn (fun n : PN => decide (n.kind = 2) && (n.s.toList == nm.toList)) q k hlt HA.out h)
      clear hc hRf
      generalize q[k] = x at *
      obtain ⟨⟨e0, i0⟩, ⟨e1, i1⟩, ⟨e2, i2⟩, ⟨v3, e3, r3⟩⟩ := ex
      obtain ⟨p3, c3, rfl, m3, -⟩ := r3.form
      have hal := hbel.alloc hbel.size (.cells #[.int .i64 x.kind, .int .i64 x.n, .string x.s, .slice p3 x.kids.length c3] 96)
      have hal2 := below_tr hbw' (Joins.below_alloc1 wr (.cells #[.int .i64 x.kind, .int .i64 x.n, .string x.s, .slice p3 x.kids.length c3] 96))
      clear hbel hbw' hK r3
      by_cases h2 : x.kind = 2
      · have t2 : (x.kind == 2) = true := by simpa using h2
        cases hq : x.s.toList == nm.toList
        · have HN2 := Lib.hid (HN.out (by simp [hq]))
          clear h2
          go_wp2
          go_roundw
          case rel => exact ⟨k + 1, by go_num, by omega, HN2.out, hal⟩
          case measure => simp [intOf]; omega
        · have HY2 := Lib.hid (HY.out (by simp [hq, h2]))
          clear h2
          go_wp2
          go_ret
          exact ⟨ret_bool HY2.out.symm, hal2⟩
      · have t2 : (x.kind == 2) = false := by simpa using h2
        have HN2 := Lib.hid (HN.out (by simp [h2]))
        clear h2
        go_wp2
        go_roundw
        case rel => exact ⟨k + 1, by go_num, by omega, HN2.out, hal⟩
        case measure => simp [intOf]; omega
    · obtain rfl : k = q.length := by omega
      rw [List.take_length] at HA
      go_wp2
      go_ret
      exact ⟨ret_bool HA.out.symm, hbw'⟩
set_option maxHeartbeats 8000000 in
theorem sFree : ∀ (f : Nat) (p : List Nd) (v0 v1 : Value) (a : Nat) (nm : ByteArray) (w : World) (hO : FreeOk p) (h0 : ∃ pt nt ct, v0 = .slice pt nt ct) (h1 : RowRd 6 NdEl w v1 p) (ha : a < p.length) (hf : p.length < a + f),
    Calls Tryz.prog 15 #[.agg #[v0, v1], .int .i64 a, .string nm] w fun e w' => e = .returned (.bool (freeN p nm a)) ∧ Below w.heap.size w w' := by
  intro f
  induction f with
  | zero => intro p v0 v1 a nm w hO h0 h1 ha hf; omega
  | succ f ih =>
    intro p v0 v1 a nm w hO h0 h1 ha hf
    obtain ⟨pt, nt, ct, rfl⟩ := h0
    have h10 := h1
    obtain ⟨pn, cn, rfl, hm, hnf⟩ := h1.form
    unfold maxLen at hm
    obtain ⟨b, o, rfl, hbw, hc⟩ := hnf (by omega)
    have ex := hc a ha
    have HU := Lib.hid (freeN_at hO nm a ha)
    have HK := Lib.hid (hO a ha)
    have IH := fun (k : Nat) (hk : k < p.length) (hak : a < k) W (hK : Kept w W) => ih p _ _ k nm W hO ⟨pt, nt, ct, rfl⟩ (h10.kept NdEl.st hK) hk (by omega)
    clear ih hc hnf hO h1 h10
    obtain ⟨R, hR⟩ : ∃ R, R = freeN p nm a := ⟨_, rfl⟩
    rw [← hR] at HU ⊢
    clear hR
    generalize p[a] = x at *
    obtain ⟨⟨e0, i0⟩, ⟨e1, i1⟩, ⟨e2, i2⟩, ⟨e3, i3⟩, ⟨v4, e4, r4⟩, ⟨v5, e5, r5⟩⟩ := ex
    obtain ⟨p4, c4, rfl, m4, hkf⟩ := r4.form
    have r50 := r5
    obtain ⟨p5, c5, rfl, m5, hpf⟩ := r5.form
    unfold maxLen at m4 m5
    by_cases h3 : x.kind = 3
    · have HB := Lib.hid (show R = (x.s.toList == nm.toList) from by rw [HU.out, freeStep, if_pos h3])
      have t3 : (x.kind == 3) = true := by simpa using h3
      clear IH HU HK h3 hpf hkf r4 r5 r50
      go_enter Tryz.func15, Tryz.ntmps15
      go_wp2
      go_ret
      exact ⟨ret_bool HB.out.symm, Joins.below_alloc2 w _ _⟩
    have HB := Lib.hid (show R = anyK (fun i k => !bindB x i nm && freeN p nm k.toNat) 0 x.kids from by rw [HU.out, freeStep, if_neg h3])
    have t3 : (x.kind == 3) = false := by simpa using h3
    clear HU r4 r5
    obtain ⟨O1, hO1⟩ : ∃ O, O = (Obj.cells #[.slice pt nt ct, .slice (some ⟨b, o, none⟩) p.length cn] 31) := ⟨_, rfl⟩
    obtain ⟨O2, hO2⟩ : ∃ O, O = (Obj.cells #[.int .i64 x.kind, .int .i64 x.at_, .int .i64 x.n, .string x.s, .slice p4 x.kids.length c4, .slice p5 x.pats.length c5] 67) := ⟨_, rfl⟩
    have zb : w.heap.size + 1 < ((w.alloc O1).alloc O2).heap.size := by simp
    have zb0 : w.heap.size < ((w.alloc O1).alloc O2).heap.size := Nat.lt_trans (Nat.lt_succ_self _) zb
    have B0 : Below w.heap.size w ((w.alloc O1).alloc O2) := Joins.below_alloc2 w O1 O2
    have q00 : ((w.alloc O1).alloc O2).cell? ⟨w.heap.size, 0, none⟩ = some (.slice pt nt ct) := by rw [World.cell?_alloc_lt _ _ ⟨w.heap.size, 0, none⟩ (by simp), hO1]; simp
    have q01 : ((w.alloc O1).alloc O2).cell? ⟨w.heap.size, 1, none⟩ = some (.slice (some ⟨b, o, none⟩) p.length cn) := by rw [World.cell?_alloc_lt _ _ ⟨w.heap.size, 1, none⟩ (by simp), hO1]; simp
    have q10 : ((w.alloc O1).alloc O2).cell? ⟨w.heap.size + 1, 0, none⟩ = some (.int .i64 x.kind) := by rw [hO2, World.cell?_alloc_at _ _ _ _ (by simp)]; rfl
    have q13 : ((w.alloc O1).alloc O2).cell? ⟨w.heap.size + 1, 3, none⟩ = some (.string x.s) := by rw [hO2, World.cell?_alloc_at _ _ _ _ (by simp)]; rfl
    have q15 : ((w.alloc O1).alloc O2).cell? ⟨w.heap.size + 1, 5, none⟩ = some (.slice p5 x.pats.length c5) := by rw [hO2, World.cell?_alloc_at _ _ _ _ (by simp)]; rfl
    go_enter Tryz.func15, Tryz.ntmps15
    go_wp2
    rw [← hO1, ← hO2]
    clear hO1 hO2 e0 e1 e2 e3 e4 e5
    generalize (w.alloc O1).alloc O2 = wb at *
    go_loopw [26] (fun i wr => ∃ k : Nat, i = .int .i64 k ∧ k ≤ x.kids.length ∧ R = anyK (fun i k => !bindB x i nm && freeN p nm k.toNat) k (x.kids.drop k) ∧ Below wb.heap.size wb wr) (fun i _ => x.kids.length - (intOf i).toNat)
    case atStart => exact ⟨0, rfl, Nat.zero_le _, HB.out, Below.refl _ _⟩
    case round =>
      obtain ⟨k, rfl, hk, hno, hbel⟩ := hrel
      have HA := Lib.hid hno
      clear hno HB
      have BB : Below w.heap.size w wr := below_tr B0 hbel
      have hKw : Kept w wr := Kept.of_below BB
      have y00 := (hbel.cell (p := ⟨w.heap.size, 0, none⟩) zb0).trans q00
      have y01 := (hbel.cell (p := ⟨w.heap.size, 1, none⟩) zb0).trans q01
      have y10 := (hbel.cell (p := ⟨w.heap.size + 1, 0, none⟩) zb).trans q10
      have y13 := (hbel.cell (p := ⟨w.heap.size + 1, 3, none⟩) zb).trans q13
      have y15 := (hbel.cell (p := ⟨w.heap.size + 1, 5, none⟩) zb).trans q15
      clear q00 q01 q10 q13 q15
      by_cases hlt : k < x.kids.length
      · obtain ⟨b4, o4, rfl, hb4, hc4⟩ := hkf (by omega)
        obtain ⟨g0, j0⟩ := IntEl.st w wr b4 _ _ hKw hb4 (hc4 k hlt)
        rw [Nat.mul_one] at g0
        have hkk := HK.out.1 x.kids[k] (List.getElem_mem hlt)
        have HS := Lib.hid (HA.out.trans (anyK_drop _ x.kids k hlt))
        clear HA hc4 hkf
        generalize x.kids[k] = y at *
        obtain ⟨j, rfl⟩ : ∃ j : Nat, y = j := ⟨y.toNat, by omega⟩
        have IHk := IH j (by omega) (by omega)
        simp only [Int.toNat_natCast] at HS
        have HP := Lib.hid (show x.kind = 13 → 0 < k → k - 1 < x.pats.length from fun h13 h0 => by have := HK.out.2 h13; omega)
        clear IH HK hkk
        by_cases h13 : x.kind = 13
        · have t13 : (x.kind == 13) = true := by simpa using h13
          have t5 : (x.kind == 5) = false := by simp; omega
          have t8 : (x.kind == 8) = false := by simp; omega
          have t7 : (x.kind == 7) = false := by simp; omega
          have t15 : (x.kind == 15) = false := by simp; omega
          by_cases hk0 : k = 0
          · have HS2 := Lib.hid (show R = (freeN p nm j || anyK (fun i k => !bindB x i nm && freeN p nm k.toNat) (k + 1) (x.kids.drop (k + 1))) from by
              have := HS.out
              rw [show bindB x k nm = false from by rw [hk0]; exact bind_130 x nm h13] at this
              rw [this]; rfl)
            have q0 : ¬ ((0 : Int) < (k : Int)) := by omega
            have q1 : decide ((0 : Int) < (k : Int)) = false := by simpa using q0
            clear h13 h3 HS hk0
            go_wp2_with fail
            refine (IHk _ hKw).mono ?_
            rintro e w1 ⟨rfl, hb1⟩
            have HBe := Lib.hid (below_tr hbel hb1)
            have HBw := Lib.hid (below_tr BB hb1)
            clear y00 y01 y10 y13 y15
            cases hfr : freeN p nm j
            · rw [hfr] at HS2
              go_wp2
              go_roundw
              case rel => exact ⟨k + 1, by go_num, by omega, by simpa using HS2.out, HBe.out⟩
              case measure => simp [intOf]; omega
            · rw [hfr] at HS2
              go_wp2
              go_ret
              exact ⟨ret_bool (by rw [HS2.out]; rfl), HBw.out⟩
          · have hkp := HP.out h13 (by omega)
            obtain ⟨b5, o5, rfl, hb5, hc5⟩ := hpf (by omega)
            obtain ⟨vq, gq, rq⟩ := PatEl.st w wr b5 _ _ hKw hb5 (hc5 (k - 1) hkp)
            rw [Nat.mul_one] at gq
            have HS2 := Lib.hid (show R = (!namesB x.pats[k - 1] nm && freeN p nm j || anyK (fun i k => !bindB x i nm && freeN p nm k.toNat) (k + 1) (x.kids.drop (k + 1))) from by rw [HS.out, bind_13 x k nm h13 (by omega) hkp])
            clear h13 h3 HS HP hc5 hpf
            generalize x.pats[k - 1] = q at *
            obtain ⟨p6, c6, rfl, m6, -⟩ := rq.form
            have gq' : wr.cell? ⟨b5, o5 + (k - 1), none⟩ = some (.slice p6 q.length c6) := gq
            have ek : ((k : Int) - 1).toNat = k - 1 := by omega
            have ek0 : (0 : Int) ≤ (k : Int) - 1 := by omega
            have ek1 : (k : Int) - 1 < (x.pats.length : Int) := by omega
            have ek2 : (1 : Int) ≤ (k : Int) := by omega
            have ek3 : (0 : Int) < (k : Int) := by omega
            go_wp2_with fail
            refine (sBinds q _ nm _ rq).mono ?_
            rintro e w1 ⟨rfl, hb1⟩
            have z0 := (hb1.cell (p := ⟨w.heap.size, 0, none⟩) (by have := hbel.size; show w.heap.size < _; omega)).trans y00
            have z1 := (hb1.cell (p := ⟨w.heap.size, 1, none⟩) (by have := hbel.size; show w.heap.size < _; omega)).trans y01
            have hbel1 := below_tr hbel hb1
            have BB1 := below_tr BB hb1
            have hKw1 : Kept w w1 := Kept.of_below BB1
            clear y00 y01 y10 y13 y15 ek ek0 ek1 ek2 ek3
            cases hnq : namesB q nm
            · rw [hnq] at HS2
              go_wp2_with fail
              refine (IHk _ hKw1).mono ?_
              rintro e w2 ⟨rfl, hb2⟩
              have HBe := Lib.hid (below_tr hbel1 hb2)
              have HBw := Lib.hid (below_tr BB1 hb2)
              cases hfr : freeN p nm j
              · rw [hfr] at HS2
                go_wp2
                go_roundw
                case rel => exact ⟨k + 1, by go_num, by omega, by simpa using HS2.out, HBe.out⟩
                case measure => simp [intOf]; omega
              · rw [hfr] at HS2
                go_wp2
                go_ret
                exact ⟨ret_bool (by rw [HS2.out]; rfl), HBw.out⟩
            · rw [hnq] at HS2
              go_wp2
              go_roundw
              case rel => exact ⟨k + 1, by go_num, by omega, by simpa using HS2.out, hbel1⟩
              case measure => simp [intOf]; omega
        · have t13 : (x.kind == 13) = false := by simpa using h13
          clear hpf HP
          have key : ∃ bd : Bool, bindB x k nm = bd ∧ ((bd = true ∧ ((x.kind = 5 ∧ (x.s.toList == nm.toList) = true) ∨ (x.kind = 8 ∧ (x.s.toList == nm.toList) = true) ∨ (x.kind = 7 ∧ k = 1 ∧ (x.s.toList == nm.toList) = true) ∨ (x.kind = 15 ∧ k = 1 ∧ (x.s.toList == nm.toList) = true))) ∨
              (bd = false ∧ ((x.kind = 5 ∧ (x.s.toList == nm.toList) = false) ∨ (x.kind = 8 ∧ (x.s.toList == nm.toList) = false) ∨ (x.kind = 7 ∧ k = 1 ∧ (x.s.toList == nm.toList) = false) ∨ (x.kind = 15 ∧ k = 1 ∧ (x.s.toList == nm.toList) = false) ∨ (x.kind = 7 ∧ k ≠ 1) ∨ (x.kind = 15 ∧ k ≠ 1) ∨ (x.kind ≠ 5 ∧ x.kind ≠ 8 ∧ x.kind ≠ 7 ∧ x.kind ≠ 15)))) := by
            refine ⟨_, rfl, ?_⟩
            by_cases h5 : x.kind = 5 ∨ x.kind = 8
            · rw [bind_5 x k nm h5]
              cases x.s.toList == nm.toList
              · right; refine ⟨rfl, ?_⟩; rcases h5 with h | h <;> simp [h]
              · left; refine ⟨rfl, ?_⟩; rcases h5 with h | h <;> simp [h]
            · by_cases h7 : x.kind = 7 ∨ x.kind = 15
              · rw [bind_7 x k nm h7]
                by_cases hk1 : k = 1
                · cases x.s.toList == nm.toList
                  · right; refine ⟨by simp, ?_⟩; rcases h7 with h | h <;> simp [h, hk1]
                  · left; refine ⟨by simp [hk1], ?_⟩; rcases h7 with h | h <;> simp [h, hk1]
                · right; refine ⟨by simp [hk1], ?_⟩; rcases h7 with h | h <;> simp [h, hk1]
              · right; refine ⟨bind_no x k nm (by omega) (by omega) (by omega) (by omega) h13, ?_⟩; omega
          obtain ⟨bd, hbd, key⟩ := key
          have HS2 := Lib.hid (show R = (!bd && freeN p nm j || anyK (fun i k => !bindB x i nm && freeN p nm k.toNat) (k + 1) (x.kids.drop (k + 1))) from by rw [HS.out]; simp only [hbd])
          clear HS h3 h13 hbd
          rcases key with ⟨rfl, key⟩ | ⟨rfl, key⟩
          · have HS3 := Lib.hid (show R = anyK (fun i k => !bindB x i nm && freeN p nm k.toNat) (k + 1) (x.kids.drop (k + 1)) from by rw [HS2.out]; simp)
            clear HS2
            rcases key with ⟨h5, hq⟩ | ⟨h5, hq⟩ | ⟨h5, hk1, hq⟩ | ⟨h5, hk1, hq⟩
            · rw [h5] at y10; clear h5
              go_wp2
              go_roundw
              case rel => exact ⟨k + 1, by go_num, by omega, HS3.out, hbel⟩
              case measure => simp [intOf]; omega
            · rw [h5] at y10; clear h5
              go_wp2
              go_roundw
              case rel => exact ⟨k + 1, by go_num, by omega, HS3.out, hbel⟩
              case measure => simp [intOf]; omega
            · rw [h5] at y10; clear h5
              subst hk1
              go_wp2
              go_roundw
              case rel => exact ⟨1 + 1, by go_num, by omega, HS3.out, hbel⟩
              case measure => simp [intOf]; omega
            · rw [h5] at y10; clear h5
              subst hk1
              go_wp2
              go_roundw
              case rel => exact ⟨1 + 1, by go_num, by omega, HS3.out, hbel⟩
              case measure => simp [intOf]; omega
          · have HS3 := Lib.hid (show R = (freeN p nm j || anyK (fun i k => !bindB x i nm && freeN p nm k.toNat) (k + 1) (x.kids.drop (k + 1))) from by rw [HS2.out]; simp)
            clear HS2
            rcases key with ⟨h5, hq⟩ | ⟨h5, hq⟩ | ⟨h5, hk1, hq⟩ | ⟨h5, hk1, hq⟩ | ⟨h5, hk1⟩ | ⟨h5, hk1⟩ | ⟨h5, h8, h7, h15⟩
            iterate 2
              · rw [h5] at y10; clear h5
                go_wp2_with fail
                refine (IHk _ hKw).mono ?_
                rintro e w1 ⟨rfl, hb1⟩
                have HBe := Lib.hid (below_tr hbel hb1)
                have HBw := Lib.hid (below_tr BB hb1)
                cases hfr : freeN p nm j
                · rw [hfr] at HS3
                  go_wp2
                  go_roundw
                  case rel => exact ⟨k + 1, by go_num, by omega, by simpa using HS3.out, HBe.out⟩
                  case measure => simp [intOf]; omega
                · rw [hfr] at HS3
                  go_wp2
                  go_ret
                  exact ⟨ret_bool (by rw [HS3.out]; rfl), HBw.out⟩
            iterate 2
              · rw [h5] at y10; clear h5
                subst hk1
                go_wp2_with fail
                refine (IHk _ hKw).mono ?_
                rintro e w1 ⟨rfl, hb1⟩
                have HBe := Lib.hid (below_tr hbel hb1)
                have HBw := Lib.hid (below_tr BB hb1)
                cases hfr : freeN p nm j
                · rw [hfr] at HS3
                  go_wp2
                  go_roundw
                  case rel => exact ⟨1 + 1, by go_num, by omega, by simpa using HS3.out, HBe.out⟩
                  case measure => simp [intOf]; omega
                · rw [hfr] at HS3
                  go_wp2
                  go_ret
                  exact ⟨ret_bool (by rw [HS3.out]; rfl), HBw.out⟩
            iterate 2
              · rw [h5] at y10; clear h5
                have tk1 : ((k : Int) == 1) = false := by simp; omega
                clear hk1
                go_wp2_with fail
                refine (IHk _ hKw).mono ?_
                rintro e w1 ⟨rfl, hb1⟩
                have HBe := Lib.hid (below_tr hbel hb1)
                have HBw := Lib.hid (below_tr BB hb1)
                cases hfr : freeN p nm j
                · rw [hfr] at HS3
                  go_wp2
                  go_roundw
                  case rel => exact ⟨k + 1, by go_num, by omega, by simpa using HS3.out, HBe.out⟩
                  case measure => simp [intOf]; omega
                · rw [hfr] at HS3
                  go_wp2
                  go_ret
                  exact ⟨ret_bool (by rw [HS3.out]; rfl), HBw.out⟩
            · have t5 : (x.kind == 5) = false := by simpa using h5
              have t8 : (x.kind == 8) = false := by simpa using h8
              have t7 : (x.kind == 7) = false := by simpa using h7
              have t15 : (x.kind == 15) = false := by simpa using h15
              clear h5 h8 h7 h15
              go_wp2_with fail
              refine (IHk _ hKw).mono ?_
              rintro e w1 ⟨rfl, hb1⟩
              have HBe := Lib.hid (below_tr hbel hb1)
              have HBw := Lib.hid (below_tr BB hb1)
              cases hfr : freeN p nm j
              · rw [hfr] at HS3
                go_wp2
                go_roundw
                case rel => exact ⟨k + 1, by go_num, by omega, by simpa using HS3.out, HBe.out⟩
                case measure => simp [intOf]; omega
              · rw [hfr] at HS3
                go_wp2
                go_ret
                exact ⟨ret_bool (by rw [HS3.out]; rfl), HBw.out⟩
      · obtain rfl : k = x.kids.length := by omega
        rw [anyK_end] at HA
        go_wp2
        go_ret
        exact ⟨ret_bool HA.out.symm, BB⟩
end Go.Proofs.YtilincaedjhnpaaGreat
