/- The model's match of a pattern: the walk. -/
import Derived.Test.YtkalkmgnjlohnaaHtT
import Derived.Test.YtkalkmgnjlohnaaOkQ
namespace Go.Proofs.Ytkalkmgnjlohnaa
set_option linter.unusedVariables false
set_option maxRecDepth 100000
open Go.ChangeShapes Go.WideShapes Go.ChangeAt Go.RowKit

theorem info_data : (Try.prog.info? 29).map (fun i => (i.zero, i.size, i.bytes)) = some (some (.agg #[.slice none 0 0]), 1, 24) := by kernel_rfl
/-- Where the loop over the kids stands. -/
structure HInv (w W : World) (R : Option (List (List DN))) (g : Nat → Nat → Option (List (List DN))) (ks js : List Int) (c : Nat) (a : Option Addr) (cc : Nat) (zs : List (List Value × List DN × List Nat)) (wr : World) : Prop where
  gr : Grow 1 DataCell W.heap.size 29 wr (.slice a zs.length cc) zs
  eq : R = (hitsF g (ks.drop c) (js.drop c)).map (zs.map (·.2.1) ++ ·)
  sz : zs.length ≤ 600 * c
  bel : Below W.heap.size W wr
theorem HInv.below {w W wr w1 : World} {R : Option (List (List DN))} {g : Nat → Nat → Option (List (List DN))} {ks js : List Int} {c cc : Nat} {a : Option Addr} {zs : List (List Value × List DN × List Nat)} (h : HInv w W R g ks js c a cc zs wr) (hb : Below wr.heap.size wr w1) : HInv w W R g ks js c a cc zs w1 :=
  ⟨h.gr.below DataCell.loc hb, h.eq, h.sz, (h.bel.trans (hb.mono h.bel.size))⟩
/-- A further kid's list is appended. -/
theorem HInv.step {w W wr w1 w2 : World} {R : Option (List (List DN))} {g : Nat → Nat → Option (List (List DN))} {ks js : List Int} {c cc c2 : Nat} {a a2 : Option Addr} {v2 : Value} {zs ys : List (List Value × List DN × List Nat)} (h : HInv w W R g ks js c a cc zs wr) (hc : c < ks.length) (hc' : c < js.length)
    (hb : Below wr.heap.size wr w1) (hy : Grow 1 DataCell wr.heap.size 29 w1 v2 ys) (hx : g (ks[c]).toNat (js[c]).toNat = some (ys.map (·.2.1))) (hyl : ys.length ≤ 600)
    (hown : w2.ownsRow W.heap.size 29 1 (.slice a2 (zs.length + ys.length) c2) (zs.length + ys.length) (zs.flatMap (·.1) ++ ys.flatMap (·.1)))
    (hgrow : w1.grownBy w2 (Value.slice a zs.length cc).ownBlock) (hat : (Value.slice a2 (zs.length + ys.length) c2).ownBlock = (Value.slice a zs.length cc).ownBlock ∨ (Value.slice a2 (zs.length + ys.length) c2).ownBlock = some w1.heap.size) :
    HInv w W R g ks js (c + 1) a2 c2 (zs ++ ys) w2 := by
  have h1 := h.below hb
  have hs := h.bel.size
  have hbs := hb.size
  refine ⟨?_, ?_, by rw [List.length_append]; have := h.sz; omega, h1.gr.bel h1.bel (Nat.le_refl _) h1.bel.size hgrow⟩
  · rw [List.length_append]
    exact h1.gr.app DataCell.loc (ys := ys) (m := ys.length) hown hgrow hat rfl rfl hy.el (fun z hz g hg => by
        obtain ⟨k1, k2, k3⟩ := hy.lo z hz g hg
        exact ⟨by omega, k2, fun e => by have := (h.gr.own.lt g e).2; omega⟩) hy.nd
      (fun z hz y hy' g hg hg2 => by
        have := (h.gr.lo z hz g hg).2.1
        have := (hy.lo y hy' g hg2).1
        omega)
  · rw [List.map_append]
    exact (hits_step c hc hc' _ h.eq).2 _ hx
/-- .. a kid's list with nothing in it. -/
theorem HInv.step0 {w W wr w1 : World} {R : Option (List (List DN))} {g : Nat → Nat → Option (List (List DN))} {ks js : List Int} {c cc : Nat} {a : Option Addr} {zs : List (List Value × List DN × List Nat)} (h : HInv w W R g ks js c a cc zs wr) (hc : c < ks.length) (hc' : c < js.length)
    (hb : Below wr.heap.size wr w1) (hx : g (ks[c]).toNat (js[c]).toNat = some []) : HInv w W R g ks js (c + 1) a cc zs w1 := by
  have h1 := h.below hb
  refine ⟨h1.gr, ?_, by have := h.sz; omega, h1.bel⟩
  have := (hits_step c hc hc' _ h.eq).2 _ hx
  simpa using this
theorem grow_len {α : Type} {n : Nat} {ED : CellRd α} {B e : Nat} {w : World} {v : Value} {zs : List (List Value × α × List Nat)} (h : Grow n ED B e w v zs) : (zs.flatMap (·.1)).length = zs.length * n := h.own.1
theorem grow_one' {α : Type} {n : Nat} {ED : CellRd α} {B e : Nat} {w : World} {v : Value} {zs : List (List Value × α × List Nat)} (h : Grow n ED B e w v zs) : ∀ u ∈ zs.flatMap (·.1), u.oneCell' = true := by
  intro u hu
  obtain ⟨z, hz, hu⟩ := List.mem_flatMap.1 hu
  exact (h.el z hz).2.2 u hu
set_option maxHeartbeats 4000000 in
theorem sHitN : ∀ (f : Nat) (q : List PN) (d : List DN) (vq vd : Value) (i k : Nat) (w : World) (hV : Valid q d) (hRq : RowRd 4 PNEl w vq q) (hRd : RowRd 4 DNEl w vd d) (hi : i < q.length) (hk : k < d.length) (hf : q.length < i + f),
    Calls Try.prog 38 #[.agg #[vq], .int .i64 i, .agg #[vd], .int .i64 k] w (HitPost (hitN q d i k) w) := by
  intro f
  induction f with
  | zero => intro q d vq vd i k w hV hRq hRd hi hk hf; omega
  | succ f ih =>
    intro q d vq vd i k w hV hRq hRd hi hk hf
    have hRq0 := hRq
    have hRd0 := hRd
    obtain ⟨pq, cq, rfl, hmq, hqf⟩ := hRq.form
    obtain ⟨pd, cd, rfl, hmd, hdf⟩ := hRd.form
    unfold maxLen at hmq hmd
    obtain ⟨bq, oq, rfl, hbq, hqs⟩ := hqf (by omega)
    obtain ⟨bd, od, rfl, hbd, hds⟩ := hdf (by omega)
    have hbd1 : bd < w.heap.size + 1 := by omega
    have hbd2 : bd < w.heap.size + 1 + 1 := by omega
    have hbq1 : bq < w.heap.size + 1 := by omega
    have hql := hV.ql
    have hdl := hV.dl
    have exq := hqs i hi
    have exd := hds k hk
    have hU := hitN_at (d := d) (fun i h k hk => (hV.qk i h k hk).1) i k hi hk
    have hvn := hV.qn i hi
    have hvv := hV.dn k hk
    have hqk := hV.qk i hi
    have hdk := hV.dk k hk
    have HP := fun W (hK : Kept w W) => Lib.hid (sPart d k _ W (hRd0.kept DNEl.st hK) hV.dp (fun i h => dn_kids (hV.dn i h)) hk)
    have IH := fun (a b : Nat) (ha : a < q.length) (hb : b < d.length) (hia : i < a) W (hK : Kept w W) => ih q d _ _ a b W hV (hRq0.kept PNEl.st hK) (hRd0.kept DNEl.st hK) ha hb (by omega)
    have HL := fun (a b : Nat) (ha : a < q.length) (hb : b < d.length) {r : List (List DN)} (hr : hitN q d a b = some r) => hitN_len hV.qp a b ha hb hr
    clear hqs hds hqf hdf ih hV hRq hRd
    have hk2 := pn_kids hvn
    have hk2' := dn_kids hvv
    generalize q[i] = n at *
    generalize d[k] = v at *
    obtain ⟨⟨a0, i0⟩, ⟨a1, i1⟩, ⟨a2, i2⟩, ⟨u3, a3, r3⟩⟩ := exq
    obtain ⟨⟨b0, j0⟩, ⟨b1, j1⟩, ⟨b2, j2⟩, ⟨v3, b3, s3⟩⟩ := exd
    obtain ⟨pk, ck, rfl, hmk, hkf⟩ := r3.form
    obtain ⟨pj, cj, rfl, hmj, hjf⟩ := s3.form
    have HU := Lib.hid hU
    have HK := Lib.hid hkf
    have HJ := Lib.hid hjf
    have HQK := Lib.hid hqk
    have HDK := Lib.hid hdk
    clear hU hkf hjf r3 s3 hqk hdk
    have hkc : n.kind = 1 ∨ n.kind = 2 ∨ (¬ n.kind = 1 ∧ ¬ n.kind = 2) := by omega
    rcases hkc with h1 | h1 | ⟨h1, h2⟩
    · have HR := Lib.hid (show hitN q d i k = some [] from by rw [HU.out, hitStep, if_pos h1])
      have h1' : (n.kind == 1) = true := by simpa using h1
      clear HP IH HL
      go_enter Try.func38, Try.ntmps38
      go_wp2
      go_ret2
      rw [HR.out]
      exact ⟨none, 0, [], rfl, Grow.nil (World.ownsRow_nil _ _ _ _), rfl, below_tr (Joins.below_alloc2 w _ _) (Joins.below_alloc2 _ _ _)⟩
    · have HR := Lib.hid (show hitN q d i k = some [partN d k] from by rw [HU.out, hitStep, if_neg (by omega), if_pos h1])
      have h1' : (n.kind == 1) = false := by simp; omega
      have h2' : (n.kind == 2) = true := by simpa using h1
      have h1'' : ¬ n.kind = 1 := by omega
      clear IH HL
      go_enter Try.func38, Try.ntmps38
      go_wp2_with fail
      refine (HP _ ((Kept.al2 _ _ _).trans (Kept.al2 _ _ _))).out.mono ?_
      rintro r w1 ⟨a, c, F, rfl, hF, hlo, hnd, hb1⟩
      have hB := below_tr (below_tr (Joins.below_alloc2 w _ _) (Joins.below_alloc2 _ _ _)) hb1
      have hz := hb1.size
      simp at hz
      have hG := Lib.hid (grow_one (B := w.heap.size) (e := 29) hF (fun g hg => by have := hlo g hg; simp at this; omega) hnd hB.size rfl rfl)
      have HB := Lib.hid (below_tr hB (Joins.below_alloc1 w1 (.cells #[.slice a (partN d k).length c] 29)))
      clear hF hlo hnd hb1 hB
      go_wp2
      go_ret2
      rw [HR.out]
      exact ⟨_, 1, [([.slice a (partN d k).length c], partN d k, F)], rfl, hG.out, rfl, HB.out⟩
    · have h1' : (n.kind == 1) = false := by simp [h1]
      have h2' : (n.kind == 2) = false := by simp [h2]
      have HR := Lib.hid (show hitN q d i k = if likeB n v = true then hitsF (hitN q d) n.kids v.kids else none from by rw [HU.out, hitStep, if_neg h1, if_neg h2])
      go_enter Try.func38, Try.ntmps38
      go_upto_region 7 with fail
      obtain ⟨W4, hW4⟩ : ∃ W4, W4 = ((((w.alloc (.cells #[.slice (some ⟨bq, oq, none⟩) q.length cq] 42)).alloc (.cells #[.slice (some ⟨bd, od, none⟩) d.length cd] 29)).alloc (.cells #[.int .i64 n.kind, .int .i64 n.n, .string n.s, .slice pk n.kids.length ck] 60)).alloc (.cells #[.int .i64 v.kind, .int .i64 v.n, .string v.s, .slice pj v.kids.length cj] 55)) := ⟨_, rfl⟩
      have hs4 : w.heap.size + 4 ≤ W4.heap.size := by rw [hW4]; simp
      have g0 : W4.heap[w.heap.size]? = some (.cells #[.slice (some ⟨bq, oq, none⟩) q.length cq] 42 (0, 0)) := by
        rw [hW4, alloc_was _ _ _ (by simp; omega), alloc_was _ _ _ (by simp; omega), alloc_was _ _ _ (by simp)]; exact alloc_at _ _ rfl
      have g1 : W4.heap[w.heap.size + 1]? = some (.cells #[.slice (some ⟨bd, od, none⟩) d.length cd] 29 (0, 0)) := by
        rw [hW4, alloc_was _ _ _ (by first | (simp; done) | (simp; omega)), alloc_was _ _ _ (by simp)]; exact alloc_at _ _ (by simp)
      have g2 : W4.heap[w.heap.size + 1 + 1]? = some (.cells #[.int .i64 n.kind, .int .i64 n.n, .string n.s, .slice pk n.kids.length ck] 60 (0, 0)) := by
        rw [hW4, alloc_was _ _ _ (by simp)]; exact alloc_at _ _ (by simp)
      have g3 : W4.heap[w.heap.size + 1 + 1 + 1]? = some (.cells #[.int .i64 v.kind, .int .i64 v.n, .string v.s, .slice pj v.kids.length cj] 55 (0, 0)) := by
        rw [hW4]; exact alloc_at _ _ (by simp)
      have B4 : Below w.heap.size w W4 := by rw [hW4]; exact below_tr (Joins.below_alloc2 w _ _) (Joins.below_alloc2 _ _ _)
      rw [← hW4]
      clear hW4 HP
      go_cut [73] (fun s73 wx => s73 = .bool (!likeB n v) ∧ wx = W4)
      case first =>
        have c2 := blk_cell g2
        have c3 := blk_cell g3
        have e0 := (c2 0).1
        have e1 := (c2 1).1
        have e2 := (c2 2).1
        have e3 := (c2 3).1
        have f0 := (c3 0).1
        have f1 := (c3 1).1
        have f2 := (c3 2).1
        have f3 := (c3 3).1
        simp at e0 e1 e2 e3 f0 f1 f2 f3
        have hk1 := pn_kind hvn
        have L3 := fun h => like_3 hvn hvv h
        have L4 := fun h => like_4 hvn hvv h
        have L5 := fun h => like_56 hvn hvv h
        clear c2 c3 g0 g1 g2 g3 HU HR IH HL HK HJ HQK HDK
        by_cases hne : n.kind = v.kind
        · have q1 : (n.kind != v.kind) = false := by simpa using hne
          have hc : n.kind = 3 ∨ n.kind = 4 ∨ (n.kind = 5 ∨ n.kind = 6) := by omega
          rcases hc with h | h | h
          · have HF := Lib.hid (L3 h (by omega))
            have q3 : (n.kind == 3) = true := by simpa using h
            have q4 : (n.kind == 4) = false := by simp; omega
            clear L3 L4 L5 h1 h2 hk1 h
            by_cases hx : n.n = v.n
            · have q5 : (n.n != v.n) = false := by simpa using hx
              have HX := Lib.hid hx
              clear hx hne
              go_wp2
              go_meet
              exact ⟨by rw [HF.out]; simp [HX.out], rfl⟩
            · have q5 : (n.n != v.n) = true := by simpa using hx
              have HX := Lib.hid hx
              clear hx hne
              go_wp2
              go_meet
              exact ⟨by rw [HF.out]; simp [HX.out], rfl⟩
          · have HF := Lib.hid (L4 h (by omega))
            have q3 : (n.kind == 3) = false := by simp; omega
            have q4 : (n.kind == 4) = true := by simpa using h
            clear L3 L4 L5 h1 h2 hk1 h
            by_cases hx : n.s.toList = v.s.toList
            · have q5 : (n.s.toList == v.s.toList) = true := by simpa using hx
              have q6 : (n.s.toList != v.s.toList) = false := by simpa using hx
              have HX := Lib.hid hx
              clear hx hne
              by_cases hy : n.kids.length = v.kids.length
              · have q7 : ((n.kids.length : Int) != (v.kids.length : Int)) = false := by rw [bne_eq_false_iff_eq]; omega
                have q8 : (n.kids.length != v.kids.length) = false := by rw [bne_eq_false_iff_eq]; omega
                have HY := Lib.hid hy
                clear hy
                go_wp2
                go_meet
                exact ⟨by rw [HF.out]; simp [HX.out, HY.out], rfl⟩
              · have q7 : ((n.kids.length : Int) != (v.kids.length : Int)) = true := by rw [bne_iff_ne]; omega
                have q8 : (n.kids.length != v.kids.length) = true := by rw [bne_iff_ne]; exact hy
                have HY := Lib.hid hy
                clear hy
                go_wp2
                go_meet
                exact ⟨by rw [HF.out]; simp [HX.out, HY.out], rfl⟩
            · have q5 : (n.s.toList == v.s.toList) = false := by simpa using hx
              have q6 : (n.s.toList != v.s.toList) = true := by simpa using hx
              have HX := Lib.hid hx
              clear hx hne
              go_wp2
              go_meet
              exact ⟨by rw [HF.out]; simp [HX.out], rfl⟩
          · have HF := Lib.hid (L5 h hne.symm)
            have q3 : (n.kind == 3) = false := by simp; omega
            have q4 : (n.kind == 4) = false := by simp; omega
            clear L3 L4 L5 h1 h2 hk1 h hne
            go_wp2
            go_meet
            exact ⟨by rw [HF.out]; rfl, rfl⟩
        · have q1 : (n.kind != v.kind) = true := by simpa using hne
          have HF := Lib.hid (like_ne hne)
          clear L3 L4 L5 h1 h2 hk1 hne
          go_wp2
          go_meet
          exact ⟨by rw [HF.out]; rfl, rfl⟩
      case rest =>
        obtain ⟨rfl, rfl⟩ := hcut
        cases hlk : likeB n v
        all_goals first | rw [Bool.not_false] | rw [Bool.not_true]
        · have HN := Lib.hid (show hitN q d i k = none from by rw [HR.out, hlk]; rfl)
          clear IH HL
          go_wp2
          go_ret2
          rw [HN.out]
          exact ⟨none, 0, [], rfl, Grow.nil (World.ownsRow_nil _ _ _ _), rfl, B4⟩
        · have HN := Lib.hid (show hitN q d i k = hitsF (hitN q d) n.kids v.kids from by rw [HR.out, hlk, if_pos rfl])
          have hll : n.kids.length = v.kids.length := by
            simp only [likeB, Bool.and_eq_true, decide_eq_true_eq] at hlk
            exact hlk.2.2.2
          have e3 := (blk_cell g2 3).1
          simp at e3
          obtain ⟨jj, ti, tz0, tz1, tz2⟩ := info_parts info_data
          obtain ⟨R, hRR⟩ : ∃ R, R = hitN q d i k := ⟨_, rfl⟩
          rw [← hRR] at HN
          have HRR := Lib.hid hRR
          have B4' := B4
          clear HR HU hlk a0 a1 a2 a3 b0 b1 b2 b3 h1' h2' h1 h2 hRR
          have lt2 : w.heap.size + 1 + 1 < wc.heap.size := by omega
          go_wp2
          go_loopw [12, 13, 14, 15, 78] (fun ov xj xm xo ix wr => ∃ (c : Nat) (a : Option Addr) (cc : Nat) (zs : List (List Value × List DN × List Nat)), ov = .slice a zs.length cc ∧ ix = .int .i64 c ∧ c ≤ n.kids.length ∧ HInv w wc R (hitN q d) n.kids v.kids c a cc zs wr) (fun _ _ _ _ ix _ => n.kids.length - (intOf ix).toNat)
          case atStart =>
            refine ⟨0, some ⟨wc.heap.size, 0, none⟩, 0, [], rfl, rfl, Nat.zero_le _, ?_, ?_, by simp, Joins.below_alloc1 wc _⟩
            · exact Grow.nil (World.ownsRow_lit wc #[] 0 (Nat.le_refl _) (by decide) (by simp))
            · rw [HN.out, List.drop_zero, List.drop_zero]
              cases hitsF (hitN q d) n.kids v.kids <;> simp
          case round =>
            obtain ⟨c, a, cc, zs, rfl, rfl, hcl, hI⟩ := hrel
            have hsz := hI.bel.size
            have G0 := (blk_cell ((hI.bel.block _ (by omega)).trans g0) 0).1
            have G1 := (blk_cell ((hI.bel.block _ (by omega)).trans g1) 0).1
            have G2 := (blk_cell ((hI.bel.block _ (by omega)).trans g2) 3).1
            have G3 := (blk_cell ((hI.bel.block _ (by omega)).trans g3) 3).1
            simp at G0 G1 G2 G3
            by_cases hlt : c < n.kids.length
            · have hlt' : c < v.kids.length := by omega
              obtain ⟨bk, ok, rfl, hbk, hck⟩ := HK.out (by omega)
              obtain ⟨bj, oj, rfl, hbj, hcj⟩ := HJ.out (by omega)
              have hKW : Kept w wr := (Kept.of_below B4).trans (Kept.of_below hI.bel)
              obtain ⟨m0, -, -⟩ := IntEl.st w wr bk _ _ hKW hbk (hck c hlt)
              obtain ⟨m1, -, -⟩ := IntEl.st w wr bj _ _ hKW hbj (hcj c hlt')
              rw [Nat.mul_one] at m0 m1
              obtain ⟨x0, x1⟩ := HQK.out _ (List.getElem_mem hlt)
              obtain ⟨y0, y1⟩ := HDK.out _ (List.getElem_mem hlt')
              obtain ⟨s1, s2⟩ := hits_step c hlt hlt' _ hI.eq
              have hstep := fun w1 (hb : Below wr.heap.size wr w1) a2 c2 ys v2 w2 => hI.step (w1 := w1) (w2 := w2) (c2 := c2) (a2 := a2) (v2 := v2) (ys := ys) hlt hlt' hb
              have hstep0 := fun w1 (hb : Below wr.heap.size wr w1) => hI.step0 (w1 := w1) hlt hlt' hb
              obtain ⟨ka, hka⟩ : ∃ ka : Nat, n.kids[c] = ka := ⟨n.kids[c].toNat, by omega⟩
              obtain ⟨kb, hkb⟩ : ∃ kb : Nat, v.kids[c] = kb := ⟨v.kids[c].toNat, by omega⟩
              rw [hka] at m0 x0 x1 s1 s2 hstep hstep0
              rw [hkb] at m1 y0 y1 s1 s2 hstep hstep0
              simp only [Int.toNat_natCast] at s1 s2 hstep hstep0
              have ha1 : ka < q.length := by omega
              have hb1' : kb < d.length := by omega
              have hHL := fun r => HL ka kb ha1 hb1' (r := r)
              have hIH := fun W (hK : Kept w W) => IH ka kb ha1 hb1' (by omega) W hK
              obtain ⟨r2, hr2⟩ : ∃ r2, hitN q d ka kb = r2 := ⟨_, rfl⟩
              rw [hr2] at s1 s2 hstep hstep0 hHL hIH
              have HE := fun W (hK : Kept wr W) => Lib.hid (hIH W (hKW.trans hK))
              have hS : ∀ W, Kept wr W → (W.cell? ⟨w.heap.size, 0, none⟩ = some (.slice (some ⟨bq, oq, none⟩) q.length cq) ∧ W.cell? ⟨w.heap.size + 1, 0, none⟩ = some (.slice (some ⟨bd, od, none⟩) d.length cd) ∧ W.cell? ⟨w.heap.size + 1 + 1, 3, none⟩ = some (.slice (some ⟨bk, ok, none⟩) n.kids.length ck) ∧ W.cell? ⟨w.heap.size + 1 + 1 + 1, 3, none⟩ = some (.slice (some ⟨bj, oj, none⟩) v.kids.length cj) ∧ W.cell? ⟨bk, ok + c, none⟩ = some (.int .i64 ka) ∧ W.cell? ⟨bj, oj + c, none⟩ = some (.int .i64 kb) ∧ Kept wr W) := fun W hK =>
                ⟨(hK.cell w.heap.size 0 (by omega)).trans G0, (hK.cell (w.heap.size + 1) 0 (by omega)).trans G1, (hK.cell (w.heap.size + 1 + 1) 3 (by omega)).trans G2, (hK.cell (w.heap.size + 1 + 1 + 1) 3 (by omega)).trans G3, (hK.cell bk _ (by have := hKW.size; omega)).trans m0, (hK.cell bj _ (by have := hKW.size; omega)).trans m1, hK⟩
              have HST := Lib.hid hstep
              have HST0 := Lib.hid hstep0
              have HS1 := Lib.hid s1
              have HHL := Lib.hid hHL
              have hzs := hI.sz
              clear hstep hstep0 s1 s2 hHL hIH IH HL hck hcj m0 m1 G0 G1 G2 G3 hr2 e3 g0 g1 g2 g3 hka hkb
              go_wp2_with fail
              go_region_held3 (fun W => W.cell? ⟨w.heap.size, 0, none⟩ = some (.slice (some ⟨bq, oq, none⟩) q.length cq) ∧ W.cell? ⟨w.heap.size + 1, 0, none⟩ = some (.slice (some ⟨bd, od, none⟩) d.length cd) ∧ W.cell? ⟨w.heap.size + 1 + 1, 3, none⟩ = some (.slice (some ⟨bk, ok, none⟩) n.kids.length ck) ∧ W.cell? ⟨w.heap.size + 1 + 1 + 1, 3, none⟩ = some (.slice (some ⟨bj, oj, none⟩) v.kids.length cj) ∧ W.cell? ⟨bk, ok + c, none⟩ = some (.int .i64 ka) ∧ W.cell? ⟨bj, oj + c, none⟩ = some (.int .i64 kb) ∧ Kept wr W)
                (first | exact hS _ (Kept.refl _) | exact hS _ (Kept.drew _) | exact hS _ ((Kept.drew _).trans (Kept.of_below hb1)))
                ((go_at_call 38; refine (HE _ (by first | exact Kept.drew _ | exact Kept.refl _)).out.mono ?_; rintro r w1 ⟨a2, c2, ys, rfl, hy, hym, hb1⟩))
              have hB1 : Below wr.heap.size wr w1 := (Below.refl _ _).drew.trans hb1
              have hy' : Grow 1 DataCell wr.heap.size 29 w1 (.slice a2 ys.length c2) ys := hy
              clear HE hS hb1 hy
              cases r2 with
              | none =>
                have HN2 := Lib.hid (HS1.out rfl)
                go_wp2
                go_ret2
                rw [← HRR.out, HN2.out]
                exact ⟨none, 0, [], rfl, Grow.nil (World.ownsRow_nil _ _ _ _), rfl, below_tr B4 (hI.bel.trans (hB1.mono hsz))⟩
              | some x =>
                have hyx : ys.map (·.2.1) = x := hym
                have hyl : ys.length ≤ 600 := by
                  have := HHL.out x rfl
                  rw [← hyx, List.length_map] at this
                  exact this
                have hI1 := hI.below hB1
                have hO := hI1.gr.own
                obtain ⟨CC, hCC⟩ : ∃ CC : List Value, CC = zs.flatMap (·.1) := ⟨_, rfl⟩
                rw [← hCC] at hO
                have HCC := Lib.hid hCC
                clear hCC
                have hpar : (a2 = none ∧ c2 = 0 ∧ ys = []) ∨ ∃ gg, a2 = some ⟨gg, 0, none⟩ := by
                  rcases hy'.own with ⟨_, ⟨e1, e2⟩ | ⟨gg, cap, cur, e1, _⟩⟩
                  · left
                    injection e1 with e3 e4 e5
                    exact ⟨e3, e5, List.eq_nil_of_length_eq_zero e2⟩
                  · right
                    injection e1 with e3 e4 e5
                    exact ⟨gg, e3⟩
                rcases hpar with ⟨rfl, rfl, rfl⟩ | ⟨gg, rfl⟩
                · have hst := HST0.out w1 hB1 (by rw [← hyx]; rfl)
                  clear HST HST0 HS1 HHL hym hyx hI hI1 hy'
                  go_wp2_with (at_builtin; refine wpList_append_own_none rfl (.tmp 99) (.tmp 100) 37 rfl wc.heap.size 29 jj 1 Try.underlying37 ti _ zs.length CC rfl hO rfl ?_)
                  go_roundw
                  case rel => exact ⟨c + 1, a, cc, zs, rfl, by go_num, by omega, hst⟩
                  case measure => simp [intOf]; omega
                · have hcs := hy'.own.cells (g := gg) rfl
                  have hyl2 := grow_len hy'
                  have hone := grow_one' hy'
                  obtain ⟨CY, hCY⟩ : ∃ CY : List Value, CY = ys.flatMap (·.1) := ⟨_, rfl⟩
                  rw [← hCY] at hcs hyl2 hone
                  have HCY := Lib.hid hCY
                  clear hCY
                  have hm1 : zs.length + ys.length ≤ maxLen := by unfold maxLen; omega
                  have hm2 : (zs.length + ys.length) * 24 ≤ 140737488355328 := by omega
                  have hm3 : wc.heap.size ≤ w1.heap.size := by have := hB1.size; omega
                  go_wp2_with (at_builtin; refine wpList_append_own_at _ rfl (.tmp 99) (.tmp 100) 37 rfl wc.heap.size 29 jj (.agg #[.slice none 0 0]) 1 24 Try.underlying37 ti tz0 tz1 tz2 rfl (by decide) _ zs.length CC rfl hO ⟨gg, 0, none⟩ ys.length c2 CY rfl hyl2 hcs hone hm1 hm2 hm3 ?_; intro v2 w2 hown2 hgrow2 _ hat2; obtain ⟨a3, c3, rfl⟩ := own_sl hown2)
                  have hst := HST.out w1 hB1 a3 c3 ys _ w2 hy' (by rw [hyx]) hyl (by rw [HCC.out, HCY.out] at hown2; exact hown2) hgrow2 hat2
                  clear HST HST0 HS1 HHL hym hyx hI hI1 hy' hown2 hgrow2 hat2 hO hcs
                  go_roundw
                  case rel => exact ⟨c + 1, a3, c3, zs ++ ys, by rw [List.length_append], by go_num, by omega, hst⟩
                  case measure => simp [intOf]; omega
            · obtain rfl : c = n.kids.length := by omega
              have HN2 := Lib.hid (show R = some (zs.map (·.2.1)) from by
                have := hI.eq
                rw [List.drop_length, hitsF_nil] at this
                simpa using this)
              clear IH HL
              go_wp2
              go_ret2
              rw [← HRR.out, HN2.out]
              exact ⟨a, cc, zs, rfl, hI.gr.mono (by omega), rfl, below_tr B4 (hI.bel.mono (Nat.le_refl _))⟩
/-- What Hit hands back, as owned data. -/
def HitOut (r : List (List DN) × Bool) (w : World) (e : Ending) (w' : World) : Prop :=
  ∃ (u0 : Value) (F0 : List Nat), e = .returned (.tuple #[u0, .bool r.2]) ∧ RowOwn 1 DataOwn w' u0 r.1 F0 ∧ (∀ g ∈ F0, w.heap.size ≤ g) ∧ F0.Nodup ∧ Below w.heap.size w w'
theorem hit_out {q : List PN} {d : List DN} (hq : patOkB q = true) (hd : dOkB d = true) {w W : World} (hb : Below w.heap.size w W) {e : Ending} {w' : World} (h : HitPost (hitN q d 0 0) W e w') : HitOut (resHit q d) w e w' := by
  obtain ⟨a, c, zs, rfl, hG, hm, hb2⟩ := h
  obtain ⟨F, hF, hlo, hnd⟩ := hG.rowOwn (E := DataOwn) (by omega) DataCell.own
  have hz := hb.size
  have hr : resHit q d = ((hitN q d 0 0).getD [], (hitN q d 0 0).isSome) := by
    unfold resHit
    rw [hq, hd, Bool.and_true, if_pos rfl]
    cases hitN q d 0 0 <;> rfl
  rw [hr]
  rw [hm] at hF
  exact ⟨_, F, rfl, hF, fun g hg => by have := hlo g hg; omega, hnd, below_tr hb hb2⟩
theorem hit_no {q : List PN} {d : List DN} (h : (patOkB q && dOkB d) = false) {w w' : World} (hb : Below w.heap.size w w') : HitOut (resHit q d) w (.returned (.tuple #[.slice none 0 0, .bool false])) w' := by
  have hr : resHit q d = ([], false) := by unfold resHit; rw [h]; rfl
  rw [hr]
  exact ⟨.slice none 0 0, [], rfl, .inl ⟨rfl, rfl, _, _, rfl⟩, fun g hg => by simp at hg, List.nodup_nil, hb⟩
set_option maxHeartbeats 4000000 in
theorem sHitC (q : List PN) (d : List DN) (vq vd : Value) (w : World) (hRq : RowRd 4 PNEl w vq q) (hRd : RowRd 4 DNEl w vd d) (hzq : bPat q ≤ 1048576) (hzd : bData d ≤ 1048576) :
    Calls Try.prog 12 #[.agg #[vq], .agg #[vd]] w (HitOut (resHit q d) w) := by
  have hQ := fun W (hK : Kept w W) => sPatOkC q vq W (hRq.kept PNEl.st hK) hzq
  have hD := fun W (hK : Kept w W) => sDataOkC d vd W (hRd.kept DNEl.st hK) hzd
  have hH := fun (hq : patOkB q = true) (hd : dOkB d = true) W (hK : Kept w W) => sHitN (q.length + 1) q d vq vd 0 0 W (valid_of hq hd) (hRq.kept PNEl.st hK) (hRd.kept DNEl.st hK) (by have := (valid_of hq hd).ql; omega) (by have := (valid_of hq hd).dl; omega) (by omega)
  obtain ⟨pq, cq, rfl, hmq, -⟩ := hRq.form
  obtain ⟨pd, cd, rfl, hmd, -⟩ := hRd.form
  clear hRq hRd
  obtain ⟨Wb, hWb⟩ : ∃ Wb, Wb = (w.alloc (.cells #[.slice pq q.length cq] 42)).alloc (.cells #[.slice pd d.length cd] 29) := ⟨_, rfl⟩
  have g0 : Wb.heap[w.heap.size]? = some (.cells #[.slice pq q.length cq] 42 (0, 0)) := by
    rw [hWb, alloc_was _ _ _ (by simp)]; exact alloc_at _ _ rfl
  have g1 : Wb.heap[w.heap.size + 1]? = some (.cells #[.slice pd d.length cd] 29 (0, 0)) := by
    rw [hWb]; exact alloc_at _ _ (by simp)
  have z0 : w.heap.size < Wb.heap.size := by rw [hWb]; simp; omega
  have z1 : w.heap.size + 1 < Wb.heap.size := by rw [hWb]; simp
  have bB : Below w.heap.size w Wb := by rw [hWb]; exact Joins.below_alloc2 w _ _
  have e0 := (blk_cell g0 0).1
  have e1 := (blk_cell g1 0).1
  simp at e0 e1
  cases hq : patOkB q
  · have hr := fun W => Lib.hid (hit_no (q := q) (d := d) (by rw [hq]; rfl) (w := w) (w' := W))
    rw [hq] at hQ
    clear hH hD
    go_enter Try.func12, Try.ntmps12
    go_wp2_with fail
    rw [← hWb]
    clear hWb
    refine (hQ _ (Kept.of_below bB)).mono ?_
    rintro e w1 ⟨rfl, hb1⟩
    go_wp2
    go_ret2
    exact (hr _).out (below_tr bB hb1)
  · cases hd : dOkB d
    · have hr := fun W => Lib.hid (hit_no (q := q) (d := d) (by rw [hq, hd]; rfl) (w := w) (w' := W))
      rw [hq] at hQ
      rw [hd] at hD
      clear hH
      go_enter Try.func12, Try.ntmps12
      go_wp2_with fail
      rw [← hWb]
      clear hWb
      refine (hQ _ (Kept.of_below bB)).mono ?_
      rintro e w1 ⟨rfl, hb1⟩
      have f1 := (hb1.cell (p := ⟨w.heap.size + 1, 0, none⟩) z1).trans e1
      go_wp2_with fail
      refine (hD _ (Kept.of_below (below_tr bB hb1))).mono ?_
      rintro e w2 ⟨rfl, hb2⟩
      go_wp2
      go_ret2
      exact (hr _).out (below_tr (below_tr bB hb1) hb2)
    · have hr := fun W => hit_out (q := q) (d := d) hq hd (w := w) (W := W)
      have hH2 := hH hq hd
      rw [hq] at hQ
      rw [hd] at hD
      clear hH
      go_enter Try.func12, Try.ntmps12
      go_wp2_with fail
      rw [← hWb]
      clear hWb
      refine (hQ _ (Kept.of_below bB)).mono ?_
      rintro e w1 ⟨rfl, hb1⟩
      have f0 := (hb1.cell (p := ⟨w.heap.size, 0, none⟩) z0).trans e0
      have f1 := (hb1.cell (p := ⟨w.heap.size + 1, 0, none⟩) z1).trans e1
      go_wp2_with fail
      refine (hD _ (Kept.of_below (below_tr bB hb1))).mono ?_
      rintro e w2 ⟨rfl, hb2⟩
      have hz1 := hb1.size
      have k0 := (hb2.cell (p := ⟨w.heap.size, 0, none⟩) (by show w.heap.size < _; omega)).trans f0
      have k1 := (hb2.cell (p := ⟨w.heap.size + 1, 0, none⟩) (by show w.heap.size + 1 < _; omega)).trans f1
      go_wp2_with fail
      refine (hH2 _ (Kept.of_below (below_tr (below_tr bB hb1) hb2))).mono ?_
      rintro e w3 hp
      have ho := hr _ (below_tr (below_tr bB hb1) hb2) hp
      obtain ⟨a, c, zs, rfl, hp'⟩ := hp
      clear hp'
      go_wp2
      go_ret2
      exact ho
end Go.Proofs.Ytkalkmgnjlohnaa
