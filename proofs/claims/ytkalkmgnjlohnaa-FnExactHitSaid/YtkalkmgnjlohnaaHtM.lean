/- The program's match of a pattern: the walk. -/
import Derived.Test.YtkalkmgnjlohnaaHtL
import Derived.Test.YtkalkmgnjlohnaaRegionOwn
namespace Go.Proofs.Ytkalkmgnjlohnaa
set_option linter.unusedVariables false
set_option maxRecDepth 100000
open Go.ChangeShapes Go.WideShapes Go.ChangeAt Go.RowKit

theorem info_data' : (Try.prog.info? 29).map (fun i => (i.zero, i.size, i.bytes)) = some (some (.agg #[.slice none 0 0]), 1, 24) := by kernel_rfl
theorem step_append_at {P : Program} {ops : Array Oper} {o : Oper} {a : Act} {w : World} {K : Act → World → Prop} {Q : Exit → Act → World → Prop} {E : Prop}
    (hg : o.guard = none) (s x : Operand) (t : TypeId) (ho : o.op = .call { callee := .builtin .append, args := #[s, x], argTypes := #[t, t] })
    (base : Nat) (e : TypeId) (i : TypeInfo) (z : Value) (size bytes : Nat) (ht : P.underlying t = some (.slice e)) (hi : P.info? e = some i) (hz : i.zero = some z)
    (hsize : i.size = size) (hby : i.bytes = bytes) (hzs : z.cells.size = size) (hsz : 0 < size)
    (v : Value) (n : Nat) (xs : List Value) (hs : a.eval s = v) (hown : w.ownsRow base e size v n xs)
    (ad : Addr) (m c : Nat) (news : List Value) (hx : a.eval x = .slice (some ad) m c) (hl : news.length = m * size) (hnews : ∀ j u, news[j]? = some u → w.cell? (ad.add j) = some u) (h1 : ∀ u ∈ news, u.oneCell' = true)
    (h63 : n + m ≤ maxLen) (hbytes : (n + m) * bytes ≤ 140737488355328) (hbase : base ≤ w.heap.size)
    (h : ∀ v' w', w'.ownsRow base e size v' (n + m) (xs ++ news) → w.grownBy w' v.ownBlock → (v'.ownBlock = v.ownBlock ∨ v'.ownBlock = some w.heap.size) → K (a.put o.dst v') w') :
    if Region.wanted o (yielded ops a.tmps) = true then Oper.wp P o a w K Q else E := by
  have hw : Region.wanted o (yielded ops a.tmps) = true := by simp [Region.wanted, hg]
  rw [if_pos hw]
  obtain ⟨v', w', hr, h2, h3, h4, h5⟩ := run_append_own_at (P := P) w base t o.type e i z size bytes ht hi hz hsize hby hzs hsz v n xs hown ad m c news hl hnews h1 h63 hbytes hbase
  unfold Oper.wp execOp
  simp only [ho, resolve, invoke, builtin, Sem.run_bind, Sem.run_pure, Result.andThen_ok, List.map_toArray, List.map_cons, List.map_nil, hs, hx, hr]
  exact h v' w' h2 h3 h5
set_option maxHeartbeats 1500000 in
theorem iBoundBy (q : List PN) (d : List DN) (vq vd : Value) (w : World) (hV : Valid q d) (hRq : RowRd 4 PNEl w vq q) (hRd : RowRd 4 DNEl w vd d) :
    Calls Try.prog 40 #[.agg #[vq], .agg #[vd]] w (HitPost (hitN q d 0 0) w) := by
  have hRq0 := hRq
  have hRd0 := hRd
  obtain ⟨pq, cq, rfl, hmq, hqf⟩ := hRq.form
  obtain ⟨pd, cd, rfl, hmd, hdf⟩ := hRd.form
  unfold maxLen at hmq hmd
  have hql := hV.ql
  have hdl := hV.dl
  obtain ⟨bq, oq, rfl, hbq, hqs⟩ := hqf (by omega)
  obtain ⟨bd, od, rfl, hbd, hds⟩ := hdf (by omega)
  have HPO := fun k (hk : k < d.length) W (hK : Kept w W) => Lib.hid (iPartOf d k _ W (hRd0.kept DNEl.st hK) hV.dp (fun i h => dn_kids (hV.dn i h)) hk)
  obtain ⟨ii, gi, gz0, gz1, gz2⟩ := info_parts info_int
  obtain ⟨jj, ti, tz0, tz1, tz2⟩ := info_parts info_data'
  obtain ⟨R, hRR⟩ : ∃ R, R = hitN q d 0 0 := ⟨_, rfl⟩
  have HRR := Lib.hid hRR
  rw [← hRR]
  obtain ⟨Wb, hWb⟩ : ∃ Wb, Wb = ((w.alloc (.cells #[.slice (some ⟨bq, oq, none⟩) q.length cq] 42)).alloc (.cells #[.slice (some ⟨bd, od, none⟩) d.length cd] 29)).alloc (.cells #[] 29) := ⟨_, rfl⟩
  have g0 : Wb.heap[w.heap.size]? = some (.cells #[.slice (some ⟨bq, oq, none⟩) q.length cq] 42 (0, 0)) := by
    rw [hWb, alloc_was _ _ _ (by simp; omega), alloc_was _ _ _ (by simp)]; exact alloc_at _ _ rfl
  have g1 : Wb.heap[w.heap.size + 1]? = some (.cells #[.slice (some ⟨bd, od, none⟩) d.length cd] 29 (0, 0)) := by
    rw [hWb, alloc_was _ _ _ (by simp)]; exact alloc_at _ _ (by simp)
  have hOb : Wb.ownsRow (w.heap.size + 2) 29 1 (.slice (some ⟨w.heap.size + 1 + 1, 0, none⟩) 0 0) 0 [] := by
    rw [hWb]
    have := World.ownsRow_lit ((w.alloc (.cells #[.slice (some ⟨bq, oq, none⟩) q.length cq] 42)).alloc (.cells #[.slice (some ⟨bd, od, none⟩) d.length cd] 29)) (base := w.heap.size + 2) (e := 29) (size := 1) #[] 0 (by simp) (by decide) (by simp)
    simpa using this
  have hszb : Wb.heap.size = w.heap.size + 3 := by rw [hWb]; simp
  have bB : Below w.heap.size w Wb := by rw [hWb]; exact below_tr (Joins.below_alloc2 w _ _) (Joins.below_alloc1 _ _)
  obtain ⟨W0, hmk, hown0, hgr0⟩ := run_makeSlice_full (P := Try.prog) Wb (w.heap.size + 2) 53 3 ii (.int .i64 0) 1 Try.underlying53 gi gz0 gz1 .i64 .i64 q.length (by omega) (by rw [gz2]; omega) (by unfold maxLen; omega) (by omega)
  have hgq := hown0.lt Wb.heap.size rfl
  have hB0 : BInv w q d (some ⟨bq, oq, none⟩) cq (some ⟨bd, od, none⟩) cd R Wb.heap.size 0 (some ⟨w.heap.size + 1 + 1, 0, none⟩) 0 [] (List.replicate q.length 0) [(0, 0)] W0 := by
    have hblk : ∀ k, k < Wb.heap.size → W0.heap[k]? = Wb.heap[k]? := fun k hk => hgr0.block k hk (by simp)
    refine ⟨(hblk _ (by omega)).trans g0, (hblk _ (by omega)).trans g1, Grow.nil (own_bel hOb fun k hk => hblk k (hOb.lt k hk).2), ?_, by simp, fun x hx => ?_, ?_, by simp, ?_, ?_, ?_, by simp, bB.trans ⟨hgr0.os, hgr0.tape, hgr0.output, hgr0.size, fun k hk => hblk k (by omega)⟩, by have := hgr0.size; omega⟩
    · have : ic (List.replicate q.length (0 : Int)) = List.replicate q.length (Value.int .i64 0) := by simp [ic]
      rw [this]
      have hmc : (madeCells (Value.int .i64 0).cells (q.length * 1)).toList = List.replicate q.length (Value.int .i64 0) := by
        refine List.ext_getElem (by simp [madeCells]) fun i h1 h2 => ?_
        simp [madeCells, Value.cells, Nat.mod_one]
      rw [hmc] at hown0
      exact hown0
    · rw [List.eq_of_mem_replicate hx]; omega
    · intro e; injection e with e; have e : w.heap.size + 1 + 1 = Wb.heap.size := e; omega
    · have := span_pre hV.qp
      simpa using this
    · intro s hs
      rw [List.mem_singleton.1 hs]
      show (List.replicate q.length (0 : Int))[(0 : Int).toNat]? = some 0
      rw [Int.toNat_zero, List.getElem?_replicate, if_pos (by omega)]
    · rw [hRR]
      simp only [List.map_cons, List.map_nil]
      rw [hitsF, hitsF_nil]
      simp only [Int.toNat_zero]
      cases hitN q d 0 0 <;> simp
  clear hRR
  go_enter Try.func40, Try.ntmps40
  go_upto_region 2 with fail
  rw [← hWb]
  have G0 := (blk_cell g0 0).1
  have G1 := (blk_cell g1 0).1
  simp at G0 G1
  clear hWb g0 g1
  have K0 := (blk_cell hB0.b0 0).1
  simp at K0
  have hszw : w.heap.size + 3 ≤ Wb.heap.size := by omega
  clear hszb
  go_wp2
  generalize Wb.heap.size = gq at *
  have HQ := Lib.hid hqs
  have HD := Lib.hid hds
  have HV := Lib.hid hV
  have HPO' := Lib.hid HPO
  have HB0 := Lib.hid hB0
  clear hqs hds hRq hRd hRq0 hRd0 hmk hown0 hgr0 hOb G0 G1 K0 bB hgq HPO
  go_loopw [6, 21] (fun ov ix wr => ∃ (t : Nat) (ab : Option Addr) (cb : Nat) (zs : List (List Value × List DN × List Nat)) (P : List Int) (S : List (Int × Int)), ov = .slice ab zs.length cb ∧ ix = .int .i64 t ∧ t ≤ q.length ∧ BInv w q d (some ⟨bq, oq, none⟩) cq (some ⟨bd, od, none⟩) cd R gq t ab cb zs P S wr) (fun _ ix _ => q.length - (intOf ix).toNat)
  case atStart => exact ⟨0, _, 0, [], _, _, rfl, rfl, Nat.zero_le _, HB0.out⟩
  case round =>
    obtain ⟨t, ab, cb, zs, P, S, rfl, rfl, htl, hI⟩ := hrel
    by_cases hlt : t < q.length
    · obtain ⟨k, m, S', rfl, hkd, hPt, hs1, hs2, hno, hx, hk⟩ := hI.top HV.out hlt
      have hle := hI.le
      have hgl := hI.pr.lt gq rfl
      have K0 := (blk_cell hI.b0 0).1
      have K1 := (blk_cell hI.b1 0).1
      simp at K0 K1
      have hKw : Kept w wr := Kept.of_below hI.bel
      have exq := PNEl.st w wr bq _ _ hKw hbq (HQ.out t hlt)
      have exd := DNEl.st w wr bd _ _ hKw hbd (HD.out k hkd)
      have exqw := HQ.out t hlt
      have exdw := HD.out k hkd
      have hbqr : bq < wr.heap.size := Nat.lt_of_lt_of_le hbq hI.bel.size
      have hbdr : bd < wr.heap.size := Nat.lt_of_lt_of_le hbd hI.bel.size
      have hpc : wr.cell? ⟨gq, t, none⟩ = some (.int .i64 k) := by
        rw [hI.pr.cellAt t (by omega)]
        obtain ⟨h1, h2⟩ := List.getElem?_eq_some_iff.1 hPt
        rw [ic_get P t h1, h2]
      have hU := hitN_at (d := d) (fun i h k hk => (HV.out.qk i h k hk).1) t k hlt hkd
      have hvn := HV.out.qn t hlt
      have hvv := HV.out.dn k hkd
      have hqk := HV.out.qk t hlt
      have hdk := HV.out.dk k hkd
      have hgqr := hgl.2
      have lt0 : w.heap.size < wr.heap.size := by omega
      have lt1 : w.heap.size + 1 < wr.heap.size := by omega
      generalize wr = wo at *
      generalize q[t] = n at *
      generalize d[k] = v at *
      obtain ⟨⟨a0, i0⟩, ⟨a1, i1⟩, ⟨a2, i2⟩, ⟨u3, a3, r3⟩⟩ := exq
      obtain ⟨⟨b0, j0⟩, ⟨b1, j1⟩, ⟨b2, j2⟩, ⟨v3, b3, s3⟩⟩ := exd
      obtain ⟨_, _, _, ⟨u3w, aw, r30⟩⟩ := exqw
      obtain ⟨_, _, _, ⟨v3w, bw, s30⟩⟩ := exdw
      obtain rfl : u3 = u3w := by have := (hKw.cell bq (oq + t * 4 + 3) hbq).symm.trans a3; rw [aw] at this; exact (Option.some.inj this).symm
      obtain rfl : v3 = v3w := by have := (hKw.cell bd (od + k * 4 + 3) hbd).symm.trans b3; rw [bw] at this; exact (Option.some.inj this).symm
      clear aw bw
      obtain ⟨pk, ck, rfl, hmk, hkf⟩ := r3.form
      obtain ⟨pj, cj, rfl, hmj, hjf⟩ := s3.form
      have hk2 := pn_kids hvn
      have hk2' := dn_kids hvv
      go_upto_region 6 with fail
      go_region
      obtain ⟨W2, hW2⟩ : ∃ W2, W2 = ((wo.alloc (.cells #[.int .i64 n.kind, .int .i64 n.n, .string n.s, .slice pk n.kids.length ck] 60)).alloc (.cells #[.int .i64 v.kind, .int .i64 v.n, .string v.s, .slice pj v.kids.length cj] 55)).drew := ⟨_, rfl⟩
      have x0 : W2.heap[wo.heap.size]? = some (.cells #[.int .i64 n.kind, .int .i64 n.n, .string n.s, .slice pk n.kids.length ck] 60 (0, 0)) := by
        rw [hW2]
        show ((wo.alloc _).alloc _).heap[wo.heap.size]? = _
        rw [alloc_was _ _ _ (by simp)]; exact alloc_at _ _ rfl
      have y0 : W2.heap[wo.heap.size + 1]? = some (.cells #[.int .i64 v.kind, .int .i64 v.n, .string v.s, .slice pj v.kids.length cj] 55 (0, 0)) := by
        rw [hW2]
        show ((wo.alloc _).alloc _).heap[wo.heap.size + 1]? = _
        exact alloc_at _ _ (by simp)
      have hs2' : wo.heap.size + 2 ≤ W2.heap.size := by rw [hW2]; show _ ≤ ((wo.alloc _).alloc _).heap.size; simp
      have B2 : Below wo.heap.size wo W2 := by rw [hW2]; exact (Joins.below_alloc2 wo _ _).drew
      have hI2 := hI.below B2
      rw [← hW2]
      clear hW2
      have xc := blk_cell x0
      have yc := blk_cell y0
      have n0 := (xc 0).1
      have n1 := (xc 1).1
      have n2 := (xc 2).1
      have n3 := (xc 3).1
      have v0 := (yc 0).1
      have v1 := (yc 1).1
      have v2 := (yc 2).1
      have v3 := (yc 3).1
      simp at n0 n1 n2 n3 v0 v1 v2 v3
      have hst' : ∀ s ∈ S', P[s.1.toNat]? = some s.2 := fun s hs => hI.st s (List.mem_cons_of_mem _ hs)
      clear xc yc a0 a1 a2 a3 b0 b1 b2 b3
      have hkc : n.kind = 1 ∨ n.kind = 2 ∨ (¬ n.kind = 1 ∧ ¬ n.kind = 2) := by omega
      rcases hkc with h1 | h1 | ⟨h1, h2⟩
      · have hkz := kids_1 hvn (.inl h1)
        rw [hkz] at hs1
        have hm1 := hs1.emp_eq
        have hR := hx [] (by rw [hU, hitStep, if_pos h1])
        have hN : BInv w q d (some ⟨bq, oq, none⟩) cq (some ⟨bd, od, none⟩) cd R gq (t + 1) ab cb zs P S' W2 :=
          ⟨hI2.b0, hI2.b1, hI2.gr, hI2.pr, hI2.pl, hI2.pv, hI2.q1, hI2.q2, by rw [← hm1]; exact hs2, hst', by simpa using hR, by have := hI2.sz; omega, hI2.bel, hI2.le⟩
        have hkl : n.kids.length = 0 := by rw [hkz]; rfl
        have q1 : (n.kind == 1) = true := by simpa using h1
        rw [hkl] at n3
        have HN := Lib.hid hN
        clear hx hk hno hU hR hN hI hI2 hst' hs1 hs2 x0 y0
        go_wp2
        go_loopw [59] (fun ix wi => ix = .int .i64 0 ∧ wi = W2) (fun _ _ => 0)
        case atStart => exact ⟨rfl, rfl⟩
        case round =>
          obtain ⟨rfl, rfl⟩ := hrel
          go_wp2
          go_roundw
          case rel => exact ⟨t + 1, ab, cb, zs, P, S', rfl, by go_num, by omega, HN.out⟩
          case measure => simp [intOf]; omega
      · have hkz := kids_1 hvn (.inr h1)
        rw [hkz] at hs1
        have hm1 := hs1.emp_eq
        have hR := Lib.hid (hx [partN d k] (by rw [hU, hitStep, if_neg (by omega), if_pos h1]))
        have hkl : n.kids.length = 0 := by rw [hkz]; rfl
        have q1 : (n.kind == 1) = false := by simp; omega
        have q2 : (n.kind == 2) = true := by simpa using h1
        have HC := fun W (hK : Kept W2 W) => HPO'.out k hkd W (hKw.trans ((Kept.of_below B2).trans hK))
        rw [hkl] at n3
        have hpc2 : W2.cell? ⟨gq, t, none⟩ = some (.int .i64 k) := (B2.cell (p := ⟨gq, t, none⟩) (by show gq < _; omega)).trans hpc
        have K12 : W2.cell? ⟨w.heap.size + 1, 0, none⟩ = some (.slice (some ⟨bd, od, none⟩) d.length cd) := (B2.cell (p := ⟨w.heap.size + 1, 0, none⟩) (by show w.heap.size + 1 < _; omega)).trans K1
        have hzt := hI.sz
        have hob : ∀ g, (Value.slice ab zs.length cb).ownBlock = some g → g < wo.heap.size := fun g hg => (hI.gr.own.lt g hg).2
        have HX0 := Lib.hid x0
        clear hx hk hno hU hs1 x0 y0
        obtain ⟨CC, hCC⟩ : ∃ CC : List Value, CC = zs.flatMap (·.1) := ⟨_, rfl⟩
        have HCC := Lib.hid hCC
        clear hCC
        have hzm : zs.length + 1 ≤ maxLen := by unfold maxLen; omega
        have hzb : (zs.length + 1) * 24 ≤ 140737488355328 := by omega
        have HI2 := Lib.hid hI2
        have hle2 := hI2.le
        clear hI2
        go_wp2_with fail
        go_region_law (first
          | (refine step_append_at rfl (.tmp 42) (.tmp 49) 37 rfl (w.heap.size + 2) 29 jj (.agg #[.slice none 0 0]) 1 24 Try.underlying37 ti tz0 tz1 tz2 rfl (by decide) _ zs.length CC rfl (hO3.alloc _) ⟨w3.heap.size, 0, none⟩ 1 1 [.slice a (partN d k).length c] rfl rfl (new_cells _ _ _ _ rfl) (by intro u hu; rw [List.mem_singleton.1 hu]; rfl) hzm hzb (by simp; omega) ?_; intro v2 w4 hown4 hgrow4 hat4; obtain ⟨a4, c4, rfl⟩ := own_sl hown4)
          | (go_simp; go_at_call 65; refine (HC _ (by first | exact Kept.drew _ | exact Kept.refl _)).out.mono ?_; rintro e w3 ⟨a, c, F, rfl, hF, hlo, hnd, hb3⟩; have hb3' : Below W2.heap.size W2 w3 := (Below.refl _ _).drew.trans hb3; have hI3 := HI2.out.below hb3'; have hO3 := hI3.gr.own; rw [← HCC.out] at hO3; have hz3 := hI3.le))
        all_goals
          have hal : Below w3.heap.size w3 (w3.alloc (.cells #[.slice a (partN d k).length c] 29)) := Joins.below_alloc1 w3 _
          have hz23 := hb3'.size
          rw [HCC.out] at hown4
          have hN := Lib.hid (BInv.app HI2.out (hI3.below hal) (by simp; omega) (hF.kept DNOwn.loc DNOwn.sized hal) hlo hnd rfl hown4 hgrow4 hat4 (S' := S') (t' := t + 1) (by rw [← hm1]; exact hs2) hst' hR.out (by omega))
          have hx4 : w4.heap[wo.heap.size]? = _ := (hgrow4.block wo.heap.size (by simp; omega) (fun e => by have := hob _ e.symm; omega)).trans ((hal.block wo.heap.size (by omega)).trans ((hb3'.block wo.heap.size (by omega)).trans HX0.out))
          have n4 := (blk_cell hx4 3).1
          rw [hkl] at n4
          simp at n4
          clear hF hlo hnd hb3 hb3' hI3 hO3 hown4 hgrow4 hat4 hal HC hx4 hI
          go_wp2
          go_loopw [59] (fun ix wi => ix = .int .i64 0 ∧ wi = w4) (fun _ _ => 0)
          case atStart => exact ⟨rfl, rfl⟩
          case round =>
            obtain ⟨rfl, rfl⟩ := hrel
            go_wp2
            go_roundw
            case rel => exact ⟨t + 1, a4, c4, _, P, S', by rw [List.length_append]; rfl, by go_num, by omega, hN.out⟩
            case measure => simp [intOf]; omega
      · have q1 : (n.kind == 1) = false := by simp [h1]
        have q2 : (n.kind == 2) = false := by simp [h2]
        have HL := Lib.hid (iLooks n v _ _ W2 (r30.kept IntEl.st (hKw.trans (Kept.of_below B2))) (s30.kept IntEl.st (hKw.trans (Kept.of_below B2))) i2 j2)
        have hR := hU
        rw [hitStep, if_neg h1, if_neg h2] at hR
        clear hU
        cases hlk : likeB n v
        · rw [hlk] at HL hR
          have HN := Lib.hid (hno (by rw [hR]; rfl))
          have HBel := Lib.hid hI2.bel
          clear hx hk hno hR hI hI2 hst' hs1 hs2 x0 y0
          go_wp2_with (go_at_call 66; refine HL.out.mono ?_; rintro e w3 ⟨rfl, hb3⟩)
          go_ret2
          rw [HN.out]
          exact ⟨none, 0, [], rfl, Grow.nil (World.ownsRow_nil _ _ _ _), rfl, HBel.out.trans (hb3.mono HBel.out.size)⟩
        · rw [hlk] at HL hR
          have hll : n.kids.length = v.kids.length := by
            simp only [likeB, Bool.and_eq_true, decide_eq_true_eq] at hlk
            exact hlk.2.2.2
          have heq := hk v.kids hll (by rw [hR]; rfl)
          have HEQ := Lib.hid heq
          have HST := Lib.hid hst'
          have HQK := Lib.hid hqk
          have HDK := Lib.hid hdk
          have HS1 := Lib.hid hs1
          have HS2 := Lib.hid hs2
          have hasc := Lib.hid hs1.asc
          clear hx hk hno hR hst' heq hqk hdk hs1 hs2 hlk
          have HLL := Lib.hid hll
          clear hll
          go_wp2_with fail
          refine HL.out.mono ?_
          rintro e w3 ⟨rfl, hb3⟩
          have hI3 := hI2.below hb3
          have hb3s := hb3.size
          have x3 := (hb3.block wo.heap.size (by omega)).trans x0
          have y3 := (hb3.block (wo.heap.size + 1) (by omega)).trans y0
          have n33 := (blk_cell x3 3).1
          have v33 := (blk_cell y3 3).1
          simp at n33 v33
          have hle3 := hI3.le
          go_wp2
          have hgl3 := hI3.pr.lt gq rfl
          have hbw3 : Below wo.heap.size wo w3 := B2.trans (hb3.mono (by omega))
          have HI3 := Lib.hid hI3
          obtain ⟨_, _, rq, _, hkf3⟩ := r30.form
          cases rq
          obtain ⟨_, _, sq, _, hjf3⟩ := s30.form
          cases sq
          have HKF := Lib.hid hkf3
          have HJF := Lib.hid hjf3
          clear hI hI2 x0 y0 n0 n1 n2 n3 v0 v1 v2 v3 HL r3 s3 r30 s30 hkf hjf hkf3 hjf3 K0 K1 hpc
          go_loopw [59] (fun ix wi => ∃ (c : Nat) (P' : List Int), ix = .int .i64 c ∧ c ≤ n.kids.length ∧ KInv q gq (w.heap.size + 2) P n.kids v.kids d.length w3 c P' wi) (fun ix _ => n.kids.length - (intOf ix).toNat)
          case atStart => exact ⟨0, P, rfl, Nat.zero_le _, HI3.out.pr, HI3.out.pl, HI3.out.pv, fun _ _ => rfl, fun i _ _ h => absurd h (by omega), ⟨rfl, rfl, rfl, Nat.le_refl _, fun _ _ _ => rfl⟩⟩
          case round =>
            obtain ⟨c, P', rfl, hcl, hKI⟩ := hrel
            have hgs := hKI.gb.size
            by_cases hlt2 : c < n.kids.length
            · have hlt3 : c < v.kids.length := by have := HLL.out; omega
              obtain ⟨bk, ok, rfl, hbk, hck⟩ := HKF.out (by omega)
              obtain ⟨bj, oj, rfl, hbj, hcj⟩ := HJF.out (by omega)
              have hkw : bk ≠ gq := by omega
              have hjw : bj ≠ gq := by omega
              have hgb : ∀ b, b < w3.heap.size → b ≠ gq → wr.heap[b]? = w3.heap[b]? := fun b hb hne => hKI.gb.block b hb (fun e => hne (by injection e))
              have hw3 : w.heap.size ≤ w3.heap.size := by omega
              have hKc : ∀ b o, b < w.heap.size → b ≠ gq → wr.cell? ⟨b, o, none⟩ = w.cell? ⟨b, o, none⟩ := fun b o hb hne =>
                (World.cell?_of_block (a := ⟨b, o, none⟩) (hgb b (by omega) hne)).trans ((Kept.of_below hbw3).cell b o (by omega) |>.trans (hKw.cell b o hb))
              obtain ⟨m0, _, _⟩ := hck c hlt2
              obtain ⟨m1, _, _⟩ := hcj c hlt3
              rw [Nat.mul_one, ← hKc bk _ hbk hkw] at m0
              rw [Nat.mul_one, ← hKc bj _ hbj hjw] at m1
              have V3 := (World.cell?_of_block (a := ⟨wo.heap.size + 1, 3, none⟩) (hgb (wo.heap.size + 1) (by omega) (by omega))).trans v33
              obtain ⟨z0, z1⟩ := HQK.out _ (List.getElem_mem hlt2)
              obtain ⟨w0', w1'⟩ := HDK.out _ (List.getElem_mem hlt3)
              obtain ⟨ka, hka⟩ : ∃ ka : Nat, n.kids[c] = ka := ⟨n.kids[c].toNat, by omega⟩
              have hka2 : ka < q.length := by omega
              have hst := Lib.hid (hKI.step hlt2 hlt3 hasc.out (fun k hk => by have := HQK.out k hk; omega) ⟨by omega, by omega⟩ hka)
              obtain ⟨pv, hpc⟩ : ∃ pv : Int, wr.cell? ⟨gq, ka, none⟩ = some (.int .i64 pv) := by
                have : ka < P'.length := by rw [hKI.pl]; exact hka2
                exact ⟨P'[ka], by rw [hKI.pr.cellAt ka (by omega), ic_get P' ka this]⟩
              have hpf := hKI.pr.frozenAt ka
              rw [hka] at m0
              generalize v.kids[c] = y at *
              clear hck hcj hgb hKc
              go_wp2
              go_roundw
              case rel => exact ⟨c + 1, _, by go_num, by omega, hst.out⟩
              case measure => simp [intOf]; omega
            · obtain rfl : c = n.kids.length := by omega
              have hN := Lib.hid (HI3.out.kids hKI HLL.out HS1.out HS2.out HST.out HEQ.out)
              clear hKI
              go_wp2
              go_roundw
              case rel => exact ⟨t + 1, ab, cb, zs, P', n.kids.zip v.kids ++ S', rfl, by go_num, by omega, hN.out⟩
              case measure => simp [intOf]; omega
    · obtain rfl : t = q.length := by omega
      have hS := hI.sp.emp
      have hSl : S = [] := by cases S with
        | nil => rfl
        | cons s S => simp at hS
      subst hSl
      have HN := Lib.hid (show R = some (zs.map (·.2.1)) from by
        have := hI.eq
        simp only [List.map_nil] at this
        rw [hitsF_nil] at this
        simpa using this)
      go_wp2
      go_ret2
      rw [HN.out]
      exact ⟨ab, cb, zs, rfl, hI.gr.mono (by omega), rfl, hI.bel⟩
end Go.Proofs.Ytkalkmgnjlohnaa
