/- The program's part of a value by itself: the walk. -/
import Derived.Test.YtkalkmgnjlohnaaHtJ
namespace Go.Proofs.Ytkalkmgnjlohnaa
set_option linter.unusedVariables false
set_option maxRecDepth 100000
open Go.ChangeShapes Go.WideShapes Go.ChangeAt Go.RowKit

theorem own_shapeN {B e n m : Nat} {w : World} {v : Value} {xs : List Value} (h : w.ownsRow B e m v n xs) (hn : 0 < n) : ∃ g cap, v = .slice (some ⟨g, 0, none⟩) n cap := by
  obtain ⟨_, ⟨_, h0⟩ | ⟨g, cap, cur, rfl, _⟩⟩ := h
  · omega
  · exact ⟨g, cap, rfl⟩
set_option maxHeartbeats 4000000 in
theorem iPartOf (d : List DN) (k : Nat) (v : Value) (w : World) (hR : RowRd 4 DNEl w v d) (hp : preB (d.map DN.kids) = true) (hk2 : ∀ i (h : i < d.length), d[i].kids.length ≤ 2) (hk : k < d.length) :
    Calls Try.prog 65 #[.agg #[v], .int .i64 k] w (PartPost d k w) := by
  have hR0 := hR
  obtain ⟨p, cap, rfl, hm, hRf⟩ := hR.form
  unfold maxLen at hm
  have hlen : d.length ≤ 600 := by have := ((preB_iff _).1 hp).2.1; simpa using this
  obtain ⟨e, hs, hke, hel⟩ := span_at hp k (by simpa using hk)
  have hen := endN_of (by simpa using hk) hs
  simp only [List.length_map] at hel
  have hcap := hR0.cap (by omega)
  obtain ⟨b, o, rfl, hbw, hds⟩ := hRf (by omega)
  obtain ⟨us, hul, hus⟩ := kids_of hds
  have hkids : ∀ i (hi : i < d.length), ∀ y ∈ d[i].kids, (i : Int) < y ∧ y < (d.length : Int) := fun i hi y hy => by
    have := preB_kids _ hp i (by simpa using hi) y (by simpa using hy)
    simpa using this
  have hsrc := src_cellsN hds hul hus (k := k) hel
  have hsl := srcN_len (k := k) hul hel
  have hsg := fun j => srcN_get (j := j) (k := k) hul hel
  have hlast := fun j (hj : j < d.length) (h : Span (d.map DN.kids) d[j].kids (j + 1) e) => last_kid hj h
  have hsp0 : Span (d.map DN.kids) d[k].kids (k + 1) e := by simpa using hs
  obtain ⟨Wb, hWb⟩ : ∃ Wb, Wb = ((w.alloc (.cells #[.slice (some ⟨b, o, none⟩) d.length cap] 29)).alloc (.cells #[.int .i64 k] 3)).alloc (.cells #[.slice none 0 0] 29) := ⟨_, rfl⟩
  have g0 : Wb.heap[w.heap.size]? = some (.cells #[.slice (some ⟨b, o, none⟩) d.length cap] 29 (0, 0)) := by
    rw [hWb, alloc_was _ _ _ (by simp; omega), alloc_was _ _ _ (by simp)]; exact alloc_at _ _ rfl
  have g1 : Wb.heap[w.heap.size + 1]? = some (.cells #[.int .i64 k] 3 (0, 0)) := by
    rw [hWb, alloc_was _ _ _ (by simp)]; exact alloc_at _ _ (by simp)
  have g2 : Wb.heap[w.heap.size + 1 + 1]? = some (.cells #[.slice none 0 0] 29 (0, 0)) := by
    rw [hWb]; exact alloc_at _ _ (by simp)
  have hszb : w.heap.size + 3 ≤ Wb.heap.size := by rw [hWb]; simp
  have bB : Below w.heap.size w Wb := by rw [hWb]; exact below_tr (Joins.below_alloc2 w _ _) (Joins.below_alloc1 _ _)
  have c1 := (blk_cell g1 0).1
  simp at c1
  go_enter Try.func65, Try.ntmps65
  go_wp2_with fail
  rw [← hWb]
  clear hWb
  have HS := Lib.hid hsrc
  have HSG := Lib.hid hsg
  have HUS := Lib.hid hus
  have HLA := Lib.hid hlast
  have HKI := Lib.hid hkids
  have HD := Lib.hid hds
  have HP := Lib.hid hp
  clear hsrc hsg hus hlast hkids hds hp hs
  go_loopw [5] (fun t wr => ∃ j : Nat, t = .int .i64 j ∧ k ≤ j ∧ (∃ hj : j < d.length, Span (d.map DN.kids) d[j].kids (j + 1) e) ∧ Below Wb.heap.size Wb wr) (fun t _ => e - (intOf t).toNat)
  case atStart => exact ⟨k, rfl, Nat.le_refl _, ⟨hk, hsp0⟩, Below.refl _ _⟩
  case round =>
    obtain ⟨j, rfl, hkj, ⟨hj, hsp⟩, hbel⟩ := hrel
    have hsz := hbel.size
    have G0 := (blk_cell ((hbel.block _ (by omega)).trans g0) 0).1
    simp at G0
    have hK : Kept w wr := (Kept.of_below bB).trans (Kept.of_below hbel)
    have ex := DNEl.st w wr b _ _ hK hbw (HD.out j hj)
    have hje := hsp.le
    obtain ⟨L1, L2⟩ := HLA.out j hj hsp
    have hk2' := hk2 j hj
    have hbr : b < wr.heap.size := Nat.lt_of_lt_of_le hbw hK.size
    obtain ⟨x, hx⟩ : ∃ x, d[j] = x := ⟨_, rfl⟩
    rw [hx] at ex L1 L2 hk2'
    clear hx
    obtain ⟨⟨e0, i0⟩, ⟨e1, i1⟩, ⟨e2, i2⟩, ⟨u, e3, r3⟩⟩ := ex
    obtain ⟨pk, ck, rfl, hmk, hkf⟩ := r3.form
    have hc : x.kids.length = 0 ∨ x.kids.length = 0 + 1 ∨ x.kids.length = 1 + 1 := by omega
    rcases hc with hc | hc | hc
    · have he := L1 (List.eq_nil_of_length_eq_zero hc)
      rw [hc] at e3
      subst he
      have G1 := (blk_cell ((hbel.block _ (by omega)).trans g1) 0).1
      simp at G1
      have hcl0 := hK
      have hHS : ∀ i u, (dnC (srcN d us k (j + 1)))[i]? = some u → wr.cell? ((⟨b, o + k * 4, none⟩ : Addr).add i) = some u := fun i u hi => by
        have h1 := HS.out i u hi
        have hpp : (⟨b, o + k * 4, none⟩ : Addr).add i = ⟨b, o + k * 4 + i, none⟩ := by unfold Addr.add; split <;> simp_all
        rw [hpp] at h1 ⊢
        exact (hK.cell b _ hbw).trans h1
      have hC := Lib.hid (iClone b (o + k * 4) (j + 1 - k) (cap - k) (dnC (srcN d us k (j + 1))) wr (by rw [dnC_len, hsl]) hHS (fun u hu => by
        obtain ⟨z, hz, hu⟩ := List.mem_flatMap.1 hu
        obtain ⟨i, hi, rfl⟩ := List.getElem_of_mem hz
        rw [HSG.out i hi] at hu
        simp at hu
        rcases hu with rfl | rfl | rfl | rfl
        · rfl
        · rfl
        · rfl
        · obtain ⟨_, h2⟩ := HUS.out (k + i) (by omega) (by omega)
          obtain ⟨a, c, h3, _, _⟩ := h2.form
          rw [h3]; rfl) (by omega) hbr)
      have hkc : k ≤ cap := by omega
      have hjc : j + 1 ≤ cap := by omega
      have hkj1 : (k : Int) ≤ (j : Int) + 1 := by omega
      have hj6 : (j : Int) ≤ 600 := by omega
      clear hHS e0 e1 e2 hkf r3 L1 L2
      have hpl := part_len hk hen hel
      have hps := fun i => part_step (j := i) hen hel
      obtain ⟨m, hmm⟩ : ∃ m, m = j + 1 - k := ⟨_, rfl⟩
      rw [← hmm] at hC hpl hsl
      have hm0 : 0 < m := by omega
      have hm3 : k + m ≤ j + 1 := by omega
      have hm4 : j + 1 ≤ k + m := by omega
      go_wp2_with fail
      rw [← hmm]
      clear hmm
      generalize wr = wo at *
      refine hC.out.mono ?_
      rintro r w1 ⟨v', rfl, hown, hb1⟩
      have hwo1 := hb1.size
      obtain ⟨gp, cp, rfl⟩ := own_shapeN hown hm0
      have hgp := hown.lt gp rfl
      have hMI : MakeI wo.heap.size gp m cp d k (srcN d us k (j + 1)) wo [] w1 := ⟨by simpa using hown, by simp, by simp, by simp, by simp, hb1⟩
      have HPS := Lib.hid hps
      clear hps hown hC
      go_wp2
      go_loopw [45] (fun ix wi => ∃ zs : List (List Value × DN × List Nat), ix = .int .i64 (zs.length : Nat) ∧ zs.length ≤ m ∧ MakeI wo.heap.size gp m cp d k (srcN d us k (j + 1)) wo zs wi ∧ w1.heap.size ≤ wi.heap.size) (fun ix _ => m - (intOf ix).toNat)
      case atStart => exact ⟨[], rfl, Nat.zero_le _, hMI, Nat.le_refl _⟩
      case round =>
        obtain ⟨zs, rfl, hzm, hM, hws⟩ := hrel
        by_cases hlt : zs.length < m
        · have hlt2 : zs.length < (srcN d us k (j + 1)).length := by omega
          have hkz : k + zs.length < d.length := by omega
          have hsg2 := HSG.out zs.length hlt2
          have hMc := hM.cells hsl hlt2
          rw [hsg2] at hMc
          have hx1 := HPS.out zs.length (by omega)
          obtain ⟨⟨_, y0⟩, ⟨_, y1⟩, ⟨_, y2⟩, _⟩ := HD.out (k + zs.length) hkz
          obtain ⟨_, z2⟩ := HUS.out (k + zs.length) (by omega) hkz
          have hki := HKI.out (k + zs.length) hkz
          have hk22 := hk2 (k + zs.length) hkz
          obtain ⟨y, hy⟩ : ∃ y, d[k + zs.length] = y := ⟨_, rfl⟩
          obtain ⟨uu, huu⟩ : ∃ uu, us[k + zs.length]'(by omega) = uu := ⟨_, rfl⟩
          rw [hy] at hMc hx1 y0 y1 y2 z2 hki hk22 hsg2
          rw [huu] at hMc z2 hsg2
          have z20 := z2
          obtain ⟨pa, pc, rfl, hpm, -⟩ := z2.form
          clear hy huu
          obtain ⟨f0, f1, f2, f3, f4⟩ := hMc
          dsimp only at f0 f1 f2 f3
          have hKr : Kept w wr := hK.trans (Kept.of_below hM.bel)
          have hcz := (hM.bel.cell (p := ⟨w.heap.size + 1, 0, none⟩) (by show w.heap.size + 1 < _; omega)).trans G1
          have hwz := hM.bel.size
          have HMap := Lib.hid (iMapII 80 #[.pointer (some ⟨w.heap.size + 1, 0, none⟩)] e_iMoved (fun a => a - (k : Int)) y.kids _ (wr.alloc (.cells #[.int .i64 y.kind, .int .i64 y.n, .string y.s, .slice pa y.kids.length pc] 55)) (z20.kept IntEl.st (hKr.trans (Kept.alloc _ _))) (by omega)
            (fun a ha => by have := hki a ha; exact ⟨by omega, by omega⟩)
            (fun i hi W' hW' => iMoved y.kids[i] k (w.heap.size + 1) W' ((hW'.cell (p := ⟨w.heap.size + 1, 0, none⟩) (by simp; omega)).trans (((Kept.alloc wr _).cell (w.heap.size + 1) 0 (by omega)).trans hcz)) (by have := hki _ (List.getElem_mem hi); omega) (by have := hki _ (List.getElem_mem hi); omega) (by omega) (by omega)))
          have bA : Below wr.heap.size wr (wr.alloc (.cells #[.int .i64 y.kind, .int .i64 y.n, .string y.s, .slice pa y.kids.length pc] 55)) := Joins.below_alloc1 wr _
          have hwr1 : wo.heap.size ≤ wr.heap.size := by omega
          clear hki G0 G1 hcz
          go_wp2_with (first | (go_at_call 82; refine HMap.out.mono ?_; rintro r w2 ⟨a3, c3, F, rfl, hF, hFlo, hFnd, hb2⟩; have hM2 := hM.below (below_tr bA hb2) hwr1; have hMc2 := hM2.cells hsl hlt2; have hq3 := hMc2.2.2.2.1; have hq4 := hMc2.2.2.2.2) | fail)
          have hbs := hb2.size
          simp at hbs
          have hst := hM.step hM2 hsl hlt2 hsg2 (by omega) hwr1 hF (fun g hg => by have := hFlo g hg; simp at this; omega) hFnd y0 y1 y2 rfl hx1
          have hsz2 : w1.heap.size ≤ (w2.setCell ⟨gp, zs.length * 4 + 3, none⟩ (.slice a3 y.kids.length c3)).heap.size := by rw [setCell_size]; omega
          clear hM hM2 hF hMc2 hFlo HMap hsg2 hx1 z20 z2
          go_roundw
          case rel => exact ⟨_, by rw [List.length_append]; go_num, by rw [List.length_append]; simp; omega, hst, hsz2⟩
          case measure => simp [intOf]; omega
        · have hze : zs.length = m := by omega
          have hG := hM.fin hze hsl
          obtain ⟨F, hF, hFlo, hFnd⟩ := hG.rowOwn (E := DNOwn) (by omega) DNCell.own
          have hxs := hM.xs
          rw [hze, ← hpl, List.take_length] at hxs
          rw [hxs] at hF
          rw [hze] at hF
          have q3 := blk_cell (((hbel.trans (hM.bel.mono hsz)).block (w.heap.size + 1 + 1) (by omega)).trans g2) 0
          simp at q3
          obtain ⟨q3, q4⟩ := q3
          have hwz := hM.bel.size
          have HF := Lib.hid (hF.loc DNOwn.loc (w' := wr.setCell ⟨w.heap.size + 1 + 1, 0, none⟩ (.slice (some ⟨gp, 0, none⟩) m cp)) (by simp [World.setCell]) fun g hg => by
            have := hFlo g hg
            exact set_was _ _ _ _ _ (by omega))
          have HB : Hid (Below w.heap.size w (wr.setCell ⟨w.heap.size + 1 + 1, 0, none⟩ (.slice (some ⟨gp, 0, none⟩) m cp))) := Lib.hid ((bB.trans ((hbel.trans (hM.bel.mono hsz)).mono (by omega))).setCell (show w.heap.size ≤ w.heap.size + 1 + 1 by omega) _)
          have HPL := Lib.hid hpl
          clear hF hG hM hxs hpl hze
          go_wp2
          exact bodyPost_ret (v := .agg #[.slice (some ⟨gp, 0, none⟩) m cp]) (by simp [results, Try.results65, go_sem, q3]) rfl ⟨some ⟨gp, 0, none⟩, cp, F, by rw [HPL.out], by rw [HPL.out]; exact HF.out, fun g hg => by have := hFlo g hg; omega, hFnd, HB.out⟩
    · obtain ⟨j', h1, h2, hj', h3⟩ := L2 0 hc
      obtain ⟨bk, ok, rfl, hbk, hck⟩ := hkf (by omega)
      obtain ⟨m0, -, -⟩ := hck 0 (by omega)
      rw [(List.getElem?_eq_some_iff.1 h1).2, Nat.zero_mul, Nat.add_zero] at m0
      rw [hc] at e3
      have hje' := h3.le
      clear e0 e1 e2 hck hkf r3 L1 L2 h1
      go_wp2_with fail
      go_quiet (fail)
      go_wp2
      go_roundw
      case rel => exact ⟨j', rfl, by omega, ⟨hj', h3⟩, below_drewN hbel _⟩
      case measure => simp [intOf]; omega
    · obtain ⟨j', h1, h2, hj', h3⟩ := L2 1 hc
      obtain ⟨bk, ok, rfl, hbk, hck⟩ := hkf (by omega)
      obtain ⟨m0, -, -⟩ := hck 1 (by omega)
      rw [(List.getElem?_eq_some_iff.1 h1).2, Nat.one_mul] at m0
      rw [hc] at e3
      have hje' := h3.le
      clear e0 e1 e2 hck hkf r3 L1 L2 h1
      go_wp2_with fail
      go_quiet (fail)
      go_wp2
      go_roundw
      case rel => exact ⟨j', rfl, by omega, ⟨hj', h3⟩, below_drewN hbel _⟩
      case measure => simp [intOf]; omega
end Go.Proofs.Ytkalkmgnjlohnaa
