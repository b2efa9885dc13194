/- The model's text of a pattern. -/
import Derived.Test.YtcllifmaokldbaaDoorOkQ
import Derived.Test.YtcllifmaokldbaaDoorPpMath
import Derived.Test.YtcllifmaokldbaaDoorDigits
namespace Go.Proofs.YtcllifmaokldbaaDoor
set_option linter.unusedVariables false
set_option maxRecDepth 100000
open Go.ChangeShapes Go.WideShapes Go.ChangeAt Go.RowKit

theorem numL_len24 (v : Int) (h0 : -4611686018427387904 ≤ v) (h1 : v ≤ 4611686018427387903) : (numL v).length ≤ 24 := by
  unfold numL Lib.itoa
  split
  · split
    · have := digits_len v.natAbs (by omega)
      rw [List.length_cons]
      exact Nat.le_trans (Nat.succ_le_succ this) (by omega)
    · exact Nat.le_trans (digits_len _ (by omega)) (by omega)
  · simp
theorem pp_alloc_at (w : World) (O : Obj) {n : Nat} (hn : n = w.heap.size) : (w.alloc O).heap[n]? = some O := by
  subst hn
  show (w.heap.push O)[w.heap.size]? = some O
  exact Array.getElem?_push_size
theorem pp_alloc_was (w : World) (O : Obj) (k : Nat) (h : k < w.heap.size) : (w.alloc O).heap[k]? = w.heap[k]? := ((Below.refl w.heap.size w).alloc (Nat.le_refl _) O).block k h
theorem pp_blk_cell {w : World} {b : Nat} {cs : Array Value} {T : TypeId} (h : w.heap[b]? = some (.cells cs T (0, 0))) (i : Nat) : w.cell? ⟨b, i, none⟩ = cs[i]? ∧ w.frozen? ⟨b, i, none⟩ = false := by
  constructor
  · simp [World.cell?, h]
  · simp [World.frozen?, h]
theorem gen_world {P : World → Prop} (W0 : World) (h : ∀ W, W = W0 → P W) : P W0 := h W0 rfl
theorem two_kids {l : List Int} (h : l.length = 2) : ∃ x y, l = [x, y] := by
  match l, h with
  | [x, y], _ => exact ⟨x, y, rfl⟩
set_option maxHeartbeats 4000000 in
theorem sPatText (q : List PN) (hv : PatV q) (hql : q.length ≤ 600) : ∀ (f : Nat) (v : Value) (a : Nat) (w : World) (hR : RowRd 4 PNEl w v q) (ha : a < q.length) (hf : q.length < a + f),
    Calls Tryd.prog 11 #[.agg #[v], .int .i64 a] w fun e w' => e = .returned (.string ⟨(patU numL q f false a).toArray⟩) ∧ Below w.heap.size w w' := by
  intro f
  induction f using Nat.strongRecOn with
  | _ f ih =>
    intro v a w hR ha hf
    obtain ⟨f', rfl⟩ : ∃ f', f = f' + 1 := ⟨f - 1, by omega⟩
    have hR0 := hR
    obtain ⟨p, cap, rfl, hm, hqf⟩ := hR.form
    unfold maxLen at hm
    obtain ⟨b, o, rfl, hbw, hc⟩ := hqf (by omega)
    have ex := hc a ha
    have hn := hv.nd a ha
    have hkid := fun k (hk : k ∈ q[a].kids) => hv.kid ha hk
    have hcons := hv.cons a ha
    have hU := patU_at numL q f' false a ha
    unfold patN at hU
    have hsz := fun (f a : Nat) (c : Bool) (h : a < q.length) => pat_size numL numL_len24 hv f a c h
    have hen : ∀ a, endN (q.map PN.kids) a ≤ 600 := fun a => by
      have := pendF_le ((q.map PN.kids).length + 1) (q.map PN.kids) a
      unfold endN; simp only [List.length_map] at this ⊢; omega
    have IH := fun f (hf : f < f' + 1) (k : Nat) (hk : k < q.length) (hfk : q.length < k + f) W (hK : Kept w W) => ih f hf _ k W (hR0.kept PNEl.st hK) hk hfk
    have hnode := fun (k : Nat) (hk : k < q.length) => hc k hk
    have hx := q
    generalize hq' : q[a] = n at *
    obtain ⟨⟨a0, i0⟩, ⟨a1, i1⟩, ⟨a2, i2⟩, ⟨u3, a3, r3⟩⟩ := ex
    obtain ⟨pk, ck, rfl, hmk, hkf⟩ := r3.form
    clear ih hR hc hqf
    rcases pk_range hn with hk | hk | hk | hk | hk | hk
    · have HB := Lib.hid (show patU numL q (f' + 1) false a = [95] from by rw [hU, if_pos hk])
      rw [hk] at a0
      go_enter Tryd.func11, Tryd.ntmps11
      go_wp2
      go_ret
      exact ⟨by rw [HB.out]; rfl, Joins.below_alloc2 w _ _⟩
    · have HB := Lib.hid (show patU numL q (f' + 1) false a = n.s.toList from by rw [hU, if_neg (by omega), if_pos hk])
      have HS := Lib.hid (show (⟨n.s.toList.toArray⟩ : ByteArray) = n.s from by rw [pr_toList])
      rw [hk] at a0
      clear hU
      go_enter Tryd.func11, Tryd.ntmps11
      go_wp2
      go_ret
      exact ⟨by rw [HB.out, HS.out]; rfl, Joins.below_alloc2 w _ _⟩
    · have HB := Lib.hid (show patU numL q (f' + 1) false a = numL n.n from by rw [hU, if_neg (by omega), if_neg (by omega), if_pos hk])
      have hN := fun W => sNumText n.n W (by have := i1.1; have := i1.2; omega)
      rw [hk] at a0
      clear hU
      go_enter Tryd.func11, Tryd.ntmps11
      go_wp2_with (go_at_call 23; refine (hN _).mono ?_; rintro e w1 ⟨rfl, hb⟩)
      go_ret
      exact ⟨by rw [HB.out]; rfl, below_tr (Joins.below_alloc2 w _ _) hb⟩
    · have hl := kids4 hn hk
      by_cases h0 : n.kids.length = 0
      · have HB := Lib.hid (show patU numL q (f' + 1) false a = n.s.toList from by rw [hU, if_neg (by omega), if_neg (by omega), if_neg (by omega), if_neg (by omega), if_neg (by omega), if_pos h0])
        have HS := Lib.hid (show (⟨n.s.toList.toArray⟩ : ByteArray) = n.s from by rw [pr_toList])
        rw [hk] at a0
        rw [h0] at a3
        clear hU
        go_enter Tryd.func11, Tryd.ntmps11
        go_wp2
        go_ret
        exact ⟨by rw [HB.out, HS.out]; rfl, Joins.below_alloc2 w _ _⟩
      · have hl1 : n.kids.length = 1 := by omega
        obtain ⟨k, hkk⟩ := List.length_eq_one_iff.1 hl1
        obtain ⟨k1, k2⟩ := hkid k (by rw [hkk]; simp)
        obtain ⟨kn, rfl⟩ : ∃ kn : Nat, k = kn := ⟨k.toNat, by omega⟩
        have hkn : kn < q.length := by omega
        obtain ⟨bk, ok, rfl, hbk, hck⟩ := hkf (by omega)
        have m0 := (hck 0 (by omega)).1
        simp only [hkk, List.getElem_cons_zero, Nat.zero_mul, Nat.add_zero] at m0
        have ht : ((n.kids[0]?).getD 0).toNat = kn := by rw [hkk]; simp
        by_cases hs : n.s.toList = [58, 58]
        · have hf5 := hcons (by simp [isConsB, hk, hs])
          rw [hkk] at hf5
          simp only [firstPK, Int.toNat_natCast, List.getElem?_eq_getElem hkn] at hf5
          have hn2 := hv.nd kn hkn
          have ex2 := hnode kn hkn
          have hkid2 := fun k (hk : k ∈ q[kn].kids) => hv.kid hkn hk
          obtain ⟨f2, rfl⟩ : ∃ f2, f' = f2 + 1 := ⟨f' - 1, by omega⟩
          have hU2 := patU_at numL q f2 true kn hkn
          unfold patN at hU2
          generalize q[kn] = n2 at *
          have hl := kids5 hn2 hf5
          obtain ⟨x, y, hkk2⟩ := two_kids hl
          obtain ⟨x1, x2⟩ := hkid2 x (by rw [hkk2]; simp)
          obtain ⟨y1, y2⟩ := hkid2 y (by rw [hkk2]; simp)
          obtain ⟨xn, rfl⟩ : ∃ xn : Nat, x = xn := ⟨x.toNat, by omega⟩
          obtain ⟨yn, rfl⟩ : ∃ yn : Nat, y = yn := ⟨y.toNat, by omega⟩
          have hxn : xn < q.length := by omega
          have hyn : yn < q.length := by omega
          obtain ⟨⟨b0, j0⟩, ⟨b1, j1⟩, ⟨b2, j2⟩, ⟨u4, b3, r4⟩⟩ := ex2
          obtain ⟨pk2, ck2, rfl, hmk2, hkf2⟩ := r4.form
          obtain ⟨bk2, ok2, rfl, hbk2, hck2⟩ := hkf2 (by omega)
          have m2 := (hck2 0 (by omega)).1
          have m3 := (hck2 1 (by omega)).1
          simp only [hkk2, List.getElem_cons_zero, List.getElem_cons_succ, Nat.zero_mul, Nat.one_mul, Nat.add_zero] at m2 m3
          have HB := Lib.hid (show patU numL q (f2 + 1 + 1) false a = [40] ++ (patU numL q f2 false xn ++ ([32, 58, 58, 32] ++ (patU numL q f2 false yn ++ [41]))) from by rw [hU, if_neg (by omega), if_neg (by omega), if_neg (by omega), if_neg (by omega), if_neg (by omega), if_neg h0, if_pos hs, ht, hU2, if_neg (by omega), if_neg (by omega), if_neg (by omega), if_neg (by omega), if_pos hf5, hkk2]; simp)
          have hA := hsz f2 xn false hxn
          have hBl := hsz f2 yn false hyn
          have e1 := hen xn
          have e2 := hen yn
          have T1 := fun W (hK : Kept w W) => Lib.hid (IH f2 (by omega) xn hxn (by omega) W hK)
          have T2 := fun W (hK : Kept w W) => Lib.hid (IH f2 (by omega) yn hyn (by omega) W hK)
          have hA1 : (patU numL q f2 false xn).length ≤ 20000 := by omega
          have hA2 : (patU numL q f2 false yn).length ≤ 20000 := by omega
          generalize patU numL q f2 false xn = A1 at *
          generalize patU numL q f2 false yn = A2 at *
          have t5 : (n.s.toList == [58, 58]) = true := by simpa using hs
          have t6 : (n.kids.length == 0) = false := by simpa using h0
          rw [hk] at a0
          rw [hl1] at a3 hmk
          rw [hl] at b3 hmk2
          have v0 : (0 : Int) ≤ kn := by omega
          have v1 : (kn : Int) < q.length := by omega
          clear hU hU2 hsz hen IH e1 e2 hA hBl hcons hkid hkid2 hnode hkf hkf2 hl hl1 hkk hkk2 h0 hs ht
          go_enter Tryd.func11, Tryd.ntmps11
          go_wp2_with fail
          refine gen_world (P := fun W => Code.wp _ _ _ _ W) _ ?_
          intro W0 hW0
          have B0 : Below w.heap.size w W0 := by rw [hW0]; exact Joins.below_alloc2 w _ _
          have z0 : W0.heap.size = w.heap.size + 2 := by rw [hW0]; simp
          have K0 := Kept.of_below B0
          have c0 : W0.cell? ⟨w.heap.size, 0, none⟩ = some (.slice (some ⟨b, o, none⟩) q.length cap) := by rw [hW0]; simp
          have c1 : W0.cell? ⟨w.heap.size + 1, 3, none⟩ = some (.slice (some ⟨bk, ok, none⟩) 1 ck) := by rw [hW0]; simp
          have c2 : W0.cell? ⟨bk, ok, none⟩ = some (.int .i64 kn) := (K0.cell _ _ hbk).trans m0
          have d0 := (K0.cell _ _ hbw).trans b0
          have d1 := (K0.cell _ _ hbw).trans b1
          have d2 := (K0.cell _ _ hbw).trans b2
          have d3 := (K0.cell _ _ hbw).trans b3
          clear hW0 m0 a0 a1 a2 a3 b0 b1 b2 b3
          have KS : ∀ W, Below W0.heap.size W0 W → W.cell? ⟨w.heap.size, 0, none⟩ = some (.slice (some ⟨b, o, none⟩) q.length cap) ∧ W.cell? ⟨w.heap.size + 1, 3, none⟩ = some (.slice (some ⟨bk, ok, none⟩) 1 ck) ∧ W.cell? ⟨bk, ok, none⟩ = some (.int .i64 kn) ∧ W.cell? ⟨b, o + kn * 4, none⟩ = some (.int .i64 n2.kind) ∧ W.cell? ⟨b, o + kn * 4 + 1, none⟩ = some (.int .i64 n2.n) ∧ W.cell? ⟨b, o + kn * 4 + 2, none⟩ = some (.string n2.s) ∧ W.cell? ⟨b, o + kn * 4 + 3, none⟩ = some (.slice (some ⟨bk2, ok2, none⟩) 2 ck2) := fun W h =>
            ⟨(h.cell (p := ⟨w.heap.size, 0, none⟩) (by show w.heap.size < _; omega)).trans c0, (h.cell (p := ⟨w.heap.size + 1, 3, none⟩) (by show w.heap.size + 1 < _; omega)).trans c1, (h.cell (p := ⟨bk, ok, none⟩) (by show bk < _; omega)).trans c2, (h.cell (p := ⟨b, o + kn * 4, none⟩) (by show b < _; omega)).trans d0, (h.cell (p := ⟨b, o + kn * 4 + 1, none⟩) (by show b < _; omega)).trans d1, (h.cell (p := ⟨b, o + kn * 4 + 2, none⟩) (by show b < _; omega)).trans d2, (h.cell (p := ⟨b, o + kn * 4 + 3, none⟩) (by show b < _; omega)).trans d3⟩
          go_region_held3 (fun W => W.cell? ⟨w.heap.size, 0, none⟩ = some (.slice (some ⟨b, o, none⟩) q.length cap) ∧ W.cell? ⟨w.heap.size + 1, 3, none⟩ = some (.slice (some ⟨bk, ok, none⟩) 1 ck) ∧ W.cell? ⟨bk, ok, none⟩ = some (.int .i64 kn) ∧ W.cell? ⟨b, o + kn * 4, none⟩ = some (.int .i64 n2.kind) ∧ W.cell? ⟨b, o + kn * 4 + 1, none⟩ = some (.int .i64 n2.n) ∧ W.cell? ⟨b, o + kn * 4 + 2, none⟩ = some (.string n2.s) ∧ W.cell? ⟨b, o + kn * 4 + 3, none⟩ = some (.slice (some ⟨bk2, ok2, none⟩) 2 ck2))
            (first | exact KS _ (Below.refl _ _) | exact KS _ (Below.refl _ _).drew | exact KS _ ((Below.refl _ _).drew.alloc (Nat.le_refl _) _) | exact KS _ (((Below.refl _ _).drew.alloc (Nat.le_refl _) _).setCell (Nat.le_refl _) _))
            (fail)
          clear KS
          go_wp2_with fail
          refine gen_world (P := fun W => Code.wp _ _ _ _ W) _ ?_
          intro W1 hW1
          have B1 : Below w.heap.size w W1 := by rw [hW1]; exact below_tr B0 ((Below.refl _ _).alloc (Nat.le_refl _) _).drew
          have z1 : W1.heap.size = w.heap.size + 3 := by rw [hW1]; simp [z0]
          have K1 := Kept.of_below B1
          have g0 : W1.cell? ⟨w.heap.size, 0, none⟩ = some (.slice (some ⟨b, o, none⟩) q.length cap) := by
            rw [hW1]; exact (((Below.refl W0.heap.size W0).alloc (Nat.le_refl _) _).drew.cell (p := ⟨w.heap.size, 0, none⟩) (by show w.heap.size < _; omega)).trans c0
          have g1 : W1.cell? ⟨w.heap.size + 2, 3, none⟩ = some (.slice (some ⟨bk2, ok2, none⟩) 2 ck2) := by rw [hW1, ← z0]; simp
          have g2 : W1.cell? ⟨bk2, ok2, none⟩ = some (.int .i64 xn) := (K1.cell _ _ hbk2).trans m2
          have g3 : W1.cell? ⟨bk2, ok2 + 1, none⟩ = some (.int .i64 yn) := (K1.cell _ _ hbk2).trans m3
          clear hW1 c0 c1 c2 d0 d1 d2 d3 m2 m3 B0 K0 z0
          have u1 : ¬ (9223372036854775807 < 1 + A1.length) := by omega
          have u2 : ¬ (9223372036854775807 < 1 + A1.length + 4) := by omega
          have u3 : ¬ (9223372036854775807 < 1 + A1.length + 4 + A2.length) := by omega
          have u4 : ¬ (9223372036854775807 < 1 + A1.length + 4 + A2.length + 1) := by omega
          have KS : ∀ W, Below W1.heap.size W1 W → W.cell? ⟨w.heap.size, 0, none⟩ = some (.slice (some ⟨b, o, none⟩) q.length cap) ∧ W.cell? ⟨w.heap.size + 2, 3, none⟩ = some (.slice (some ⟨bk2, ok2, none⟩) 2 ck2) ∧ W.cell? ⟨bk2, ok2, none⟩ = some (.int .i64 xn) ∧ W.cell? ⟨bk2, ok2 + 1, none⟩ = some (.int .i64 yn) ∧ Kept w W := fun W h =>
            ⟨(h.cell (p := ⟨w.heap.size, 0, none⟩) (by show w.heap.size < _; omega)).trans g0, (h.cell (p := ⟨w.heap.size + 2, 3, none⟩) (by show w.heap.size + 2 < _; omega)).trans g1, (h.cell (p := ⟨bk2, ok2, none⟩) (by show bk2 < _; omega)).trans g2, (h.cell (p := ⟨bk2, ok2 + 1, none⟩) (by show bk2 < _; omega)).trans g3, K1.trans (Kept.of_below h)⟩
          go_region_held3 (fun W => W.cell? ⟨w.heap.size, 0, none⟩ = some (.slice (some ⟨b, o, none⟩) q.length cap) ∧ W.cell? ⟨w.heap.size + 2, 3, none⟩ = some (.slice (some ⟨bk2, ok2, none⟩) 2 ck2) ∧ W.cell? ⟨bk2, ok2, none⟩ = some (.int .i64 xn) ∧ W.cell? ⟨bk2, ok2 + 1, none⟩ = some (.int .i64 yn) ∧ Kept w W)
            (first | exact KS _ (Below.refl _ _) | exact KS _ (Below.refl _ _).drew | exact KS _ ((Below.refl _ _).drew.trans hbA) | exact KS _ ((Below.refl _ _).drew.trans (hbA.trans (hbB.mono hbA.size))))
            (first | (have hA' := hbA; go_at_call 11; refine (T2 _ ((K1.trans (Kept.drew _)).trans (Kept.of_below hA'))).out.mono ?_; rintro e wB ⟨rfl, hbB⟩) | (go_at_call 11; refine (T1 _ (K1.trans (by first | exact Kept.drew _ | exact Kept.refl _))).out.mono ?_; rintro e wA ⟨rfl, hbA⟩))
          go_wp2
          go_ret
          refine ⟨by rw [HB.out]; exact ret_str (by simp only [str_app, List.append_assoc]), below_tr B1 ((Below.refl _ _).drew.trans (hbA.trans (hbB.mono hbA.size)))⟩
        · have HB := Lib.hid (show patU numL q (f' + 1) false a = [40] ++ n.s.toList ++ [32] ++ patU numL q f' false kn ++ [41] from by rw [hU, if_neg (by omega), if_neg (by omega), if_neg (by omega), if_neg (by omega), if_neg (by omega), if_neg h0, if_neg hs, ht]; simp [List.append_assoc])
          have hlen := hsz (f' + 1) a false ha
          have e1 := hen a
          rw [HB.out] at hlen
          simp only [List.length_append, List.length_cons, List.length_nil] at hlen
          have T1 := fun W (hK : Kept w W) => Lib.hid (IH f' (by omega) kn hkn (by omega) W hK)
          generalize patU numL q f' false kn = A1 at *
          have hns : n.s.size ≤ 20000 := by
            have : n.s.toList.length ≤ 20000 := by omega
            rw [pr_toList] at this; exact this
          have hA1 : A1.length ≤ 20000 := by omega
          have HS := Lib.hid (show (⟨n.s.toList.toArray⟩ : ByteArray) = n.s from by rw [pr_toList])
          have t5 : (n.s.toList == [58, 58]) = false := by simpa using hs
          have t6 : (n.kids.length == 0) = false := by simpa using h0
          rw [hk] at a0
          rw [hl1] at a3 hmk
          clear hU hsz hen IH e1 hlen hcons hkid hnode hkf hl hl1 hkk h0 hs ht
          go_enter Tryd.func11, Tryd.ntmps11
          go_wp2_with fail
          refine gen_world (P := fun W => Code.wp _ _ _ _ W) _ ?_
          intro W0 hW0
          have B0 : Below w.heap.size w W0 := by rw [hW0]; exact Joins.below_alloc2 w _ _
          have z0 : W0.heap.size = w.heap.size + 2 := by rw [hW0]; simp
          have K0 := Kept.of_below B0
          have c0 : W0.cell? ⟨w.heap.size, 0, none⟩ = some (.slice (some ⟨b, o, none⟩) q.length cap) := by rw [hW0]; simp
          have c1 : W0.cell? ⟨w.heap.size + 1, 3, none⟩ = some (.slice (some ⟨bk, ok, none⟩) 1 ck) := by rw [hW0]; simp
          have c4 : W0.cell? ⟨w.heap.size + 1, 2, none⟩ = some (.string n.s) := by rw [hW0]; simp
          have c2 : W0.cell? ⟨bk, ok, none⟩ = some (.int .i64 kn) := (K0.cell _ _ hbk).trans m0
          clear hW0 m0 a0 a1 a2 a3
          have u1 : ¬ (9223372036854775807 < 1 + n.s.size) := by omega
          have u2 : ¬ (9223372036854775807 < 1 + n.s.size + 1) := by omega
          have u3 : ¬ (9223372036854775807 < 1 + n.s.size + 1 + A1.length) := by omega
          have u4 : ¬ (9223372036854775807 < 1 + n.s.size + 1 + A1.length + 1) := by omega
          have KS : ∀ W, Below W0.heap.size W0 W → W.cell? ⟨w.heap.size, 0, none⟩ = some (.slice (some ⟨b, o, none⟩) q.length cap) ∧ W.cell? ⟨w.heap.size + 1, 3, none⟩ = some (.slice (some ⟨bk, ok, none⟩) 1 ck) ∧ W.cell? ⟨w.heap.size + 1, 2, none⟩ = some (.string n.s) ∧ W.cell? ⟨bk, ok, none⟩ = some (.int .i64 kn) ∧ Kept w W := fun W h =>
            ⟨(h.cell (p := ⟨w.heap.size, 0, none⟩) (by show w.heap.size < _; omega)).trans c0, (h.cell (p := ⟨w.heap.size + 1, 3, none⟩) (by show w.heap.size + 1 < _; omega)).trans c1, (h.cell (p := ⟨w.heap.size + 1, 2, none⟩) (by show w.heap.size + 1 < _; omega)).trans c4, (h.cell (p := ⟨bk, ok, none⟩) (by show bk < _; omega)).trans c2, K0.trans (Kept.of_below h)⟩
          go_region_held3 (fun W => W.cell? ⟨w.heap.size, 0, none⟩ = some (.slice (some ⟨b, o, none⟩) q.length cap) ∧ W.cell? ⟨w.heap.size + 1, 3, none⟩ = some (.slice (some ⟨bk, ok, none⟩) 1 ck) ∧ W.cell? ⟨w.heap.size + 1, 2, none⟩ = some (.string n.s) ∧ W.cell? ⟨bk, ok, none⟩ = some (.int .i64 kn) ∧ Kept w W)
            (first | exact KS _ (Below.refl _ _) | exact KS _ (Below.refl _ _).drew | exact KS _ ((Below.refl _ _).drew.trans hbA))
            ((go_at_call 11; refine (T1 _ (K0.trans (by first | exact Kept.drew _ | exact Kept.refl _))).out.mono ?_; rintro e wA ⟨rfl, hbA⟩))
          go_wp2
          go_ret
          refine ⟨by rw [HB.out]; exact ret_str (by simp only [← str_app]; rw [HS.out]), below_tr B0 ((Below.refl _ _).drew.trans hbA)⟩
    · have hl := kids5 hn hk
      obtain ⟨x, y, hkk⟩ := two_kids hl
      obtain ⟨x1, x2⟩ := hkid x (by rw [hkk]; simp)
      obtain ⟨y1, y2⟩ := hkid y (by rw [hkk]; simp)
      obtain ⟨xn, rfl⟩ : ∃ xn : Nat, x = xn := ⟨x.toNat, by omega⟩
      obtain ⟨yn, rfl⟩ : ∃ yn : Nat, y = yn := ⟨y.toNat, by omega⟩
      have hxn : xn < q.length := by omega
      have hyn : yn < q.length := by omega
      obtain ⟨bk, ok, rfl, hbk, hck⟩ := hkf (by omega)
      have m0 := (hck 0 (by omega)).1
      have m1 := (hck 1 (by omega)).1
      simp only [hkk, List.getElem_cons_zero, List.getElem_cons_succ, Nat.zero_mul, Nat.one_mul, Nat.add_zero] at m0 m1
      have HB := Lib.hid (show patU numL q (f' + 1) false a = [40] ++ (patU numL q f' false xn ++ ([44, 32] ++ (patU numL q f' false yn ++ [41]))) from by rw [hU, if_neg (by omega), if_neg (by omega), if_neg (by omega), if_neg (by omega), if_pos hk, hkk]; simp)
      have hA := hsz f' xn false hxn
      have hBl := hsz f' yn false hyn
      have e1 := hen xn
      have e2 := hen yn
      have T1 := fun W (hK : Kept w W) => Lib.hid (IH f' (by omega) xn hxn (by omega) W hK)
      have T2 := fun W (hK : Kept w W) => Lib.hid (IH f' (by omega) yn hyn (by omega) W hK)
      have hA1 : (patU numL q f' false xn).length ≤ 20000 := by omega
      have hA2 : (patU numL q f' false yn).length ≤ 20000 := by omega
      generalize patU numL q f' false xn = A1 at *
      generalize patU numL q f' false yn = A2 at *
      have t5 : (n.kind == 5) = true := by simpa using hk
      rw [hk] at a0
      clear hU hsz hen IH e1 e2 hA hBl hcons hkid hnode hkf
      have hl2 : n.kids.length = 2 := hl
      rw [hl2] at a3 hmk
      clear hl hl2 hkk
      go_enter Tryd.func11, Tryd.ntmps11
      go_wp2_with fail
      refine gen_world (P := fun W => Code.wp _ _ _ _ W) _ ?_
      intro W0 hW0
      have B0 : Below w.heap.size w W0 := by rw [hW0]; exact Joins.below_alloc2 w _ _
      have z0 : W0.heap.size = w.heap.size + 2 := by rw [hW0]; simp
      have K0 := Kept.of_below B0
      have c0 : W0.cell? ⟨w.heap.size, 0, none⟩ = some (.slice (some ⟨b, o, none⟩) q.length cap) := by rw [hW0]; simp
      have c1 : W0.cell? ⟨w.heap.size + 1, 3, none⟩ = some (.slice (some ⟨bk, ok, none⟩) 2 ck) := by rw [hW0]; simp
      have c2 : W0.cell? ⟨bk, ok, none⟩ = some (.int .i64 xn) := (K0.cell _ _ hbk).trans m0
      have c3 : W0.cell? ⟨bk, ok + 1, none⟩ = some (.int .i64 yn) := (K0.cell _ _ hbk).trans m1
      clear hW0 m0 m1 a0 a1 a2 a3
      have u1 : ¬ (9223372036854775807 < 1 + A1.length) := by omega
      have u2 : ¬ (9223372036854775807 < 1 + A1.length + 2) := by omega
      have u3 : ¬ (9223372036854775807 < 1 + A1.length + 2 + A2.length) := by omega
      have u4 : ¬ (9223372036854775807 < 1 + A1.length + 2 + A2.length + 1) := by omega
      have KS : ∀ W, Below W0.heap.size W0 W → W.cell? ⟨w.heap.size, 0, none⟩ = some (.slice (some ⟨b, o, none⟩) q.length cap) ∧ W.cell? ⟨w.heap.size + 1, 3, none⟩ = some (.slice (some ⟨bk, ok, none⟩) 2 ck) ∧ W.cell? ⟨bk, ok, none⟩ = some (.int .i64 xn) ∧ W.cell? ⟨bk, ok + 1, none⟩ = some (.int .i64 yn) ∧ Kept w W := fun W h =>
        ⟨(h.cell (p := ⟨w.heap.size, 0, none⟩) (by show w.heap.size < _; omega)).trans c0, (h.cell (p := ⟨w.heap.size + 1, 3, none⟩) (by show w.heap.size + 1 < _; omega)).trans c1, (h.cell (p := ⟨bk, ok, none⟩) (by show bk < _; omega)).trans c2, (h.cell (p := ⟨bk, ok + 1, none⟩) (by show bk < _; omega)).trans c3, K0.trans (Kept.of_below h)⟩
      go_region_held3 (fun W => W.cell? ⟨w.heap.size, 0, none⟩ = some (.slice (some ⟨b, o, none⟩) q.length cap) ∧ W.cell? ⟨w.heap.size + 1, 3, none⟩ = some (.slice (some ⟨bk, ok, none⟩) 2 ck) ∧ W.cell? ⟨bk, ok, none⟩ = some (.int .i64 xn) ∧ W.cell? ⟨bk, ok + 1, none⟩ = some (.int .i64 yn) ∧ Kept w W)
        (first | exact KS _ (Below.refl _ _) | exact KS _ (Below.refl _ _).drew | exact KS _ ((Below.refl _ _).drew.trans hbA) | exact KS _ ((Below.refl _ _).drew.trans (hbA.trans (hbB.mono hbA.size))))
        (first | (have hA' := hbA; go_at_call 11; refine (T2 _ ((K0.trans (Kept.drew _)).trans (Kept.of_below hA'))).out.mono ?_; rintro e wB ⟨rfl, hbB⟩) | (go_at_call 11; refine (T1 _ (K0.trans (by first | exact Kept.drew _ | exact Kept.refl _))).out.mono ?_; rintro e wA ⟨rfl, hbA⟩))
      go_wp2
      go_ret
      refine ⟨by rw [HB.out]; exact ret_str (by simp only [str_app, List.append_assoc]), below_tr B0 ((Below.refl _ _).drew.trans (hbA.trans (hbB.mono hbA.size)))⟩
    · have HB := Lib.hid (show patU numL q (f' + 1) false a = [40, 41] from by rw [hU, if_neg (by omega), if_neg (by omega), if_neg (by omega), if_pos hk])
      rw [hk] at a0
      go_enter Tryd.func11, Tryd.ntmps11
      go_wp2
      go_ret
      exact ⟨by rw [HB.out]; rfl, Joins.below_alloc2 w _ _⟩
/-- What PrintPat answers. -/
noncomputable def prPatRes (q : List PN) : ByteArray := if patOkB q = true then ⟨(patU numL q (q.length + 1) false 0).toArray⟩ else ⟨#[]⟩
theorem patOk_len {q : List PN} (h : patOkB q = true) : 0 < q.length ∧ q.length ≤ 600 := by
  by_cases hp : PatOkP q
  · exact ⟨hp.1, hp.2.1⟩
  · rw [patOkB, propB_f hp] at h; cases h
theorem sPrintPatC (q : List PN) (v : Value) (w : World) (hR : RowRd 4 PNEl w v q) (hz : bPat q ≤ 1048576) :
    Calls Tryd.prog 5 #[.agg #[v]] w fun e w' => e = .returned (.string (prPatRes q)) ∧ Below w.heap.size w w' := by
  have hR0 := hR
  obtain ⟨p, cap, rfl, hm, hR⟩ := hR.form
  clear hR
  have hO := fun W (hK : Kept w W) => Lib.hid (sPatOk q _ W (hR0.kept PNEl.st hK))
  cases hb : patOkB q
  · rw [hb] at hO
    have HB := Lib.hid (show prPatRes q = ⟨#[]⟩ from by rw [prPatRes, hb]; rfl)
    clear hR0
    go_enter Tryd.func5, Tryd.ntmps5
    go_wp2_with (go_at_call 10; refine (hO _ (Kept.alloc _ _)).out.mono ?_; rintro e w1 ⟨rfl, hb1⟩; obtain ⟨hcl, hfr⟩ := bcell hb1)
    go_ret
    exact ⟨by rw [HB.out]; rfl, below_tr (Joins.below_alloc1 w _) hb1⟩
  · rw [hb] at hO
    obtain ⟨h1, h2⟩ := patOk_len hb
    have hv := patV_of hb
    have HB := Lib.hid (show prPatRes q = ⟨(patU numL q (q.length + 1) false 0).toArray⟩ from by rw [prPatRes, if_pos hb])
    have hT := fun W (hK : Kept w W) => Lib.hid (sPatText q hv h2 (q.length + 1) _ 0 W (hR0.kept PNEl.st hK) h1 (by omega))
    clear hR0 h1 hv
    go_enter Tryd.func5, Tryd.ntmps5
    go_wp2_with (first | (go_at_call 10; refine (hO _ (Kept.alloc _ _)).out.mono ?_; rintro e w1 ⟨rfl, hb1⟩; have B1 := below_tr (Joins.below_alloc1 w _) hb1; obtain ⟨hcl, hfr⟩ := bcell hb1) | (go_at_call 11; refine (hT _ (Kept.of_below B1)).out.mono ?_; rintro e w2 ⟨rfl, hb2⟩))
    go_ret
    exact ⟨by rw [HB.out]; rfl, below_tr B1 hb2⟩
end Go.Proofs.YtcllifmaokldbaaDoor
