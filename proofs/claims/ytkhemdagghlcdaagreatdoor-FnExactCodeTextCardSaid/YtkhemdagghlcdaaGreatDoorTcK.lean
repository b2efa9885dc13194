/- The program's printed form of code: the whole. -/
import Derived.Test.YtkhemdagghlcdaaGreatDoorCdK
import Derived.Test.YtkhemdagghlcdaaGreatDoorTcI
import Derived.Test.YtkhemdagghlcdaaGreatDoorOwn
import Derived.Test.YtkhemdagghlcdaaGreatDoorRegionOwn
namespace Go.Proofs.YtkhemdagghlcdaaGreatDoor
set_option linter.unusedVariables false
set_option maxRecDepth 100000
open Go.ChangeShapes Go.WideShapes Go.ChangeAt Go.RowKit

/-- An append, inside a region that draws, of a row that may be nil: behind it the row is owned, and nothing ahead of the call's own memory has moved. -/
theorem step_append_rd {P : Program} {ops : Array Oper} {o : Oper} {a : Act} {w : World} {K : Act → World → Prop} {Q : Exit → Act → World → Prop} {E : Prop}
    (hg : o.guard = none) (s x : Operand) (t : TypeId) (ho : o.op = .call { callee := .builtin .append, args := #[s, x], argTypes := #[t, t] })
    (base : Nat) (e : TypeId) (i : TypeInfo) (z : Value) (bytes : Nat) (ht : P.underlying t = some (.slice e)) (hi : P.info? e = some i) (hz : i.zero = some z)
    (hsize : i.size = 1) (hby : i.bytes = bytes) (hzs : z.cells.size = 1)
    (v : Value) (n : Nat) (xs : List Value) (hs : a.eval s = v) (hown : w.ownsRow base e 1 v n xs)
    (oa : Option Addr) (m : Nat) (news : List Value) (hx : a.eval x = .slice oa m m) (hl : news.length = m) (hsrc : (m = 0 ∧ oa = none) ∨ ∃ ad, oa = some ad ∧ ∀ j u, news[j]? = some u → w.cell? (ad.add j) = some u) (h1 : ∀ u ∈ news, u.oneCell' = true)
    (h63 : n + m ≤ maxLen) (hbytes : (n + m) * bytes ≤ 140737488355328) (hbase : base ≤ w.heap.size)
    (h : ∀ v' w', w'.ownsRow base e 1 v' (n + m) (xs ++ news) → Below base w w' → K (a.put o.dst v') w') :
    if Region.wanted o (yielded ops a.tmps) = true then Oper.wp P o a w K Q else E := by
  rcases hsrc with ⟨rfl, rfl⟩ | ⟨ad, rfl, hnews⟩
  · have hw : Region.wanted o (yielded ops a.tmps) = true := by simp [Region.wanted, hg]
    rw [if_pos hw]
    obtain rfl : news = [] := List.eq_nil_of_length_eq_zero hl
    have hrun : (Builtin.append_ #[t, t] o.type #[v, .slice none 0 0]).run P w = .ok v w := by
      obtain ⟨_, ⟨e1, e2⟩ | ⟨g, cap, cur, e1, _, _, e2, _⟩⟩ := hown
      · rw [e1]; simp [Builtin.append_, Builtin.lenOf, Builtin.firstCells, sizeOf, typeInfo, run_underlying ht, hi]
      · rw [e1]; simp [Builtin.append_, Builtin.lenOf, Builtin.firstCells, storeCells, sizeOf, typeInfo, run_underlying ht, hi, e2]
    unfold Oper.wp
    simp [execOp, ho, resolve, invoke, builtin, hs, hx, hrun, Result.andThen]
    exact h v w (by simpa using hown) (Below.refl _ _)
  · exact step_append_own hg s x t ho base e i z 1 bytes ht hi hz hsize hby hzs (by decide) v n xs hs hown ad m m news hx (by omega) hnews h1 h63 hbytes hbase
      fun v' w' h2 h3 _ => h v' w' h2 (own_app0 hown (Below.refl _ _) (Nat.le_refl _) hbase h3).1
/-- What a caller of fieldTexts asks. -/
theorem ft_src {P : List (List UInt8)} {w w' : World} {e : Ending} (h : FtPost P w e w') : ∃ oa, e = .returned (.slice oa P.length P.length) ∧ ((P.length = 0 ∧ oa = none) ∨ ∃ b o, oa = some ⟨b, o, none⟩ ∧ b < w'.heap.size ∧ ∀ j u, (sc (strs P))[j]? = some u → w'.cell? ⟨b, o + j, none⟩ = some u) ∧ Below w.heap.size w w' := by
  obtain ⟨oa, m, rfl, rfl, h0, hR, hb⟩ := h
  refine ⟨oa, rfl, ?_, hb⟩
  by_cases hz : P.length = 0
  · exact .inl ⟨hz, h0 hz⟩
  · right
    have hlen : (strs P).length = P.length := strs_length P
    rw [← hlen] at hR
    obtain ⟨a, cap, e1, _, hc⟩ := hR.form
    cases e1
    obtain ⟨b, o, rfl, hb, hc⟩ := hc (by omega)
    refine ⟨b, o, rfl, hb, fun j u hj => ?_⟩
    rw [sc, List.getElem?_map, Option.map_eq_some_iff] at hj
    obtain ⟨x, hx, rfl⟩ := hj
    obtain ⟨hjl, rfl⟩ := List.getElem?_eq_some_iff.1 hx
    have := (hc j hjl).1
    rw [Nat.mul_one] at this
    exact this
theorem sc_ones (l : List ByteArray) : ∀ u ∈ sc l, u.oneCell' = true := by
  intro u hu
  obtain ⟨x, _, rfl⟩ := List.mem_map.1 hu
  rfl
theorem add_off (b o j : Nat) : (⟨b, o, none⟩ : Addr).add j = ⟨b, o + j, none⟩ := by unfold Addr.add; split <;> simp_all
/-- What the call asks of the package-level tables. -/
structure TcE (w : World) : Prop where
  tab : Lib.TabIs Tryz.prog w "internal/strconv.uint64pow10" .u64 Lib.pow10Tab
  ops : OpsE w
theorem TcE.below {w w' : World} (h : TcE w) (hb : Below w.heap.size w w') : TcE w' :=
  ⟨tab_below h.tab hb, fun i z hz => (hb.cell (p := ⟨0, i, none⟩) (World.block_lt_of_cell? _ _ (h.ops i z hz))).trans (h.ops i z hz)⟩
theorem words_join (WL : List (List UInt8)) : (strs WL).map (·.data.toList) = WL := by
  unfold strs
  rw [List.map_map]
  exact (List.map_congr_left fun x _ => rfl).trans (List.map_id WL)
set_option maxHeartbeats 4000000 in
theorem iCodeTextC (c : Cd) (v0 v1 : Value) (w : World) (h0 : RowRd 4 InsEl w v0 c.ins) (h1 : RowRd 1 PatEl w v1 c.pats) (hz : bCd c ≤ 1048576) (hE : TcE w) :
    Calls Tryz.prog 7 #[.agg #[v0, v1]] w fun e w' => e = .returned (.string (codeTxRes c)) ∧ Below w.heap.size w w' := by
  obtain ⟨i0, hi, hz0, hz1, hz2⟩ := info_parts info_str
  have HOK := fun W (hW : Below w.heap.size w W) => Lib.hid (iCodeOk c v0 v1 W (h0.kept InsEl.st (Kept.of_below hW)) (h1.kept PatEl.st (Kept.of_below hW)))
  obtain ⟨a0, c0, e0, hm0, hR0⟩ := h0.form
  obtain ⟨a1, c1, e1, hm1, -⟩ := h1.form
  subst e0 e1
  obtain ⟨O, hO⟩ : ∃ O, O = Obj.cells #[.slice a0 c.ins.length c0, .slice a1 c.pats.length c1] 31 := ⟨_, rfl⟩
  have bO : Below w.heap.size w (w.alloc O) := Joins.below_alloc1 w O
  have d0 : (w.alloc O).cell? ⟨w.heap.size, 0, none⟩ = some (.slice a0 c.ins.length c0) := by rw [hO]; simp
  have z : w.heap.size < (w.alloc O).heap.size := by simp
  clear h0 h1
  unfold maxLen at hm0
  cases hk : codeOkB c
  · rw [hk] at HOK
    have HB := Lib.hid (show codeTxRes c = ⟨#[]⟩ from by simp [codeTxRes, codeTx, hk])
    go_enter Tryz.func7, Tryz.ntmps7
    go_wp2_with fail
    rw [← hO]
    clear hO
    generalize w.alloc O = W at *
    refine (HOK _ bO).out.mono ?_
    rintro e w1 ⟨rfl, hb1⟩
    go_wp2
    go_ret
    exact ⟨by rw [HB.out]; rfl, below_tr bO hb1⟩
  · rw [hk] at HOK
    have HB := Lib.hid (show codeTxRes c = ⟨(codeP c.ins c.ins.length).flatten.toArray⟩ from by simp [codeTxRes, codeTx, hk])
    have HSZ := Lib.hid (code_sz hk hz _ (Nat.le_refl c.ins.length))
    have HIS := Lib.hid (fun k hk' => ins_sz hz k hk')
    have HL := Lib.hid (show 1 ≤ c.ins.length ∧ c.ins.length ≤ 3000 from by
      have h := hk
      simp only [codeOkB, Bool.and_eq_true, decide_eq_true_eq] at h
      exact ⟨h.1, h.2.1⟩)
    have HRT := Lib.hid (show ∀ k (hk : k < c.ins.length), 1 ≤ c.ins[k].op ∧ c.ins[k].op ≤ 25 from fun k hk' => by
      simp only [codeOkB, Bool.and_eq_true] at hk
      have := ins_right (List.all_eq_true.1 hk.2.2.1 _ (List.getElem_mem hk'))
      exact ⟨this.1, this.2.1⟩)
    have HC := Lib.hid (fun k hk' => codeP_succ c.ins k hk')
    have HCl := Lib.hid (fun k hk' => codeP_len c.ins k hk')
    clear hk hz
    go_enter Tryz.func7, Tryz.ntmps7
    go_wp2_with fail
    rw [← hO]
    clear hO
    generalize w.alloc O = W at *
    refine (HOK _ bO).out.mono ?_
    rintro e w1 ⟨rfl, hb1⟩
    have B1 := below_tr bO hb1
    have e0 := (hb1.cell (p := ⟨w.heap.size, 0, none⟩) z).trans d0
    have z1 := Nat.lt_of_lt_of_le z hb1.size
    have E1 := Lib.hid (hE.below B1)
    clear HOK bO d0 z hb1 hE
    generalize c.ins = ins at *
    have HL3 := HL.out.2
    have HL1 := HL.out.1
    go_wp2
    go_loopw [3, 14] (fun lv i wr => ∃ k : Nat, i = .int .i64 k ∧ k ≤ ins.length ∧ wr.ownsRow w1.heap.size 9 1 lv (2 * k) (sc (strs (codeP ins k))) ∧ Below w1.heap.size w1 wr) (fun _ i _ => ins.length - (intOf i).toNat)
    case atStart => exact ⟨0, rfl, Nat.zero_le _, World.ownsRow_lit w1 #[] 0 (Nat.le_refl _) (by decide) rfl, Joins.below_alloc1 w1 _⟩
    case round =>
      obtain ⟨k, rfl, hk, hown, hbel⟩ := hrel
      have hsz := hbel.size
      have f0 := (hbel.cell (p := ⟨w.heap.size, 0, none⟩) z1).trans e0
      have hK : Kept w wr := (Kept.of_below B1).trans (Kept.of_below hbel)
      by_cases hlt : k < ins.length
      · obtain ⟨b, o, rfl, hbw, hc⟩ := hR0 (by omega)
        obtain ⟨⟨x0, j0⟩, ⟨x1, j1⟩, ⟨x2, j2⟩, ⟨x3, -⟩⟩ := InsEl.st w wr b _ _ hK hbw (hc k hlt)
        obtain ⟨r1, r2⟩ := HRT.out k hlt
        have hs := HIS.out k hlt
        have HP := Lib.hid (HC.out k hlt)
        have HPl := Lib.hid (HCl.out k hk)
        have hLn := line_len k ins[k]
        have HLn := Lib.hid (show lineT k ins[k] = Lib.join (numL k :: opT ins[k].op.toNat :: fT ins[k]) [32] from rfl)
        obtain ⟨hF1, hF2⟩ := fT_sz ins[k]
        clear hc hR0 HRT HIS HSZ HC HCl
        generalize ins[k] = x at *
        have HFt := fun W (hW : Below w1.heap.size w1 W) => Lib.hid (iFieldTexts x W hs j1 j2 r1 r2 (E1.out.below hW).tab)
        have HN := fun W (hW : Below w1.heap.size w1 W) => Lib.hid (iNumText k W (by omega) (E1.out.below hW).tab)
        obtain ⟨m, hm⟩ : ∃ m : Nat, x.op = (m : Int) := ⟨x.op.toNat, by omega⟩
        have hOp := fun W (hW : Below w1.heap.size w1 W) => (E1.out.below hW).ops.at_ m (by omega)
        have hmt : x.op.toNat = m := by omega
        have m0 : (0 : Int) ≤ (m : Int) := by omega
        have m1 : (m : Int) < 26 := by omega
        rw [hmt] at HLn
        rw [hm] at x0 HFt
        clear hmt hm r1 r2
        generalize x.a = xa at *
        generalize x.b = xb at *
        generalize hxs : x.s = xs at *
        clear hxs
        generalize fT x = P at *
        generalize lineT k x = LN at *
        have lN := numL_le k
        have lO := opT_len m
        generalize numL k = N at *
        generalize opT m = OT at *
        obtain ⟨OB, hOB⟩ : ∃ OB, OB = Obj.cells #[.int .i64 m, .int .i64 xa, .int .i64 xb, .string xs] 39 := ⟨_, rfl⟩
        have bl : Below wr.heap.size wr (wr.alloc OB) := Joins.below_alloc1 wr OB
        have zl : wr.heap.size < (wr.alloc OB).heap.size := by simp
        have y0 : (wr.alloc OB).cell? ⟨wr.heap.size, 0, none⟩ = some (.int .i64 m) := by rw [hOB]; simp
        have y1 : (wr.alloc OB).cell? ⟨wr.heap.size, 1, none⟩ = some (.int .i64 xa) := by rw [hOB]; simp
        have y2 : (wr.alloc OB).cell? ⟨wr.heap.size, 2, none⟩ = some (.int .i64 xb) := by rw [hOB]; simp
        have y3 : (wr.alloc OB).cell? ⟨wr.heap.size, 3, none⟩ = some (.string xs) := by rw [hOB]; simp
        go_wp2_with fail
        rw [← hOB]
        clear hOB x0 x1 x2 x3
        generalize wr.alloc OB = W0 at *
        have B0 : Below w1.heap.size w1 W0 := below_tr hbel bl
        have KS : ∀ W, Below W0.heap.size W0 W → (W.cell? ⟨wr.heap.size, 0, none⟩ = some (.int .i64 m) ∧ W.cell? ⟨wr.heap.size, 1, none⟩ = some (.int .i64 xa) ∧ W.cell? ⟨wr.heap.size, 2, none⟩ = some (.int .i64 xb) ∧ W.cell? ⟨wr.heap.size, 3, none⟩ = some (.string xs)) ∧ W.cell? ⟨0, m, none⟩ = some (.string ⟨OT.toArray⟩) ∧ Below W0.heap.size W0 W := fun W h =>
          ⟨⟨(h.cell (p := ⟨wr.heap.size, 0, none⟩) zl).trans y0, (h.cell (p := ⟨wr.heap.size, 1, none⟩) zl).trans y1, (h.cell (p := ⟨wr.heap.size, 2, none⟩) zl).trans y2, (h.cell (p := ⟨wr.heap.size, 3, none⟩) zl).trans y3⟩, hOp W (below_tr B0 h), h⟩
        have hlP : (sc (strs P)).length = P.length := by rw [sc_length, strs_length]
        go_region_held3 (fun W => (W.cell? ⟨wr.heap.size, 0, none⟩ = some (.int .i64 m) ∧ W.cell? ⟨wr.heap.size, 1, none⟩ = some (.int .i64 xa) ∧ W.cell? ⟨wr.heap.size, 2, none⟩ = some (.int .i64 xb) ∧ W.cell? ⟨wr.heap.size, 3, none⟩ = some (.string xs)) ∧ W.cell? ⟨0, m, none⟩ = some (.string ⟨OT.toArray⟩) ∧ Below W0.heap.size W0 W)
          (first | exact KS _ (Below.refl _ _) | exact KS _ (Below.refl _ _).drew | exact KS _ h6 | exact KS _ hB | exact KS _ (below_tr hB (Joins.below_alloc1 _ _)) | exact KS _ hA | exact KS _ (below_tr hA (Joins.below_alloc1 _ _)))
          (first
            | (refine step_append_rd rfl (.tmp 25) (.tmp 27) 44 rfl W0.heap.size 9 i0 (.string ⟨#[]⟩) 16 Tryz.underlying44 hi hz0 hz1 hz2 rfl _ 2 (sc (strs [N, OT])) rfl (own_below hLA hbB) oa P.length (sc (strs P)) rfl hlP hs1 (sc_one _) (by unfold maxLen; omega) (by omega) (by have := hB.size; omega) ?_; intro v' w6 hown6 hb6; have h6 := hB.trans hb6)
            | (refine step_append_rd rfl (.tmp 25) (.tmp 27) 44 rfl W0.heap.size 9 i0 (.string ⟨#[]⟩) 16 Tryz.underlying44 hi hz0 hz1 hz2 rfl _ 2 (sc (strs [N, OT])) rfl hLB oa P.length (sc (strs P)) rfl hlP hs2 (sc_one _) (by unfold maxLen; omega) (by omega) (by have := hB.size; simp; omega) ?_; intro v' w6 hown6 hb6; have h6 := (below_tr hB (Joins.below_alloc1 _ _)).trans hb6)
            | (go_at_call 19; refine ((HFt _ (below_tr B0 (by first | exact hA | exact below_tr hA (Joins.below_alloc1 _ _)))).out.mono ?_); rintro e wB hft; obtain ⟨oa, rfl, hsrc, hbB⟩ := ft_src hft; have hB : Below W0.heap.size W0 wB := below_tr (by first | exact hA | exact below_tr hA (Joins.below_alloc1 _ _)) hbB; have hLB := lit_own (W := wB) (B := W0.heap.size) (C := #[.string ⟨N.toArray⟩, .string ⟨OT.toArray⟩]) (xs := strs [N, OT]) rfl hB.size rfl rfl (by rw [strs_length]; simp [maxLen]); have hs1 : (P.length = 0 ∧ oa = none) ∨ ∃ ad, oa = some ad ∧ ∀ j u, (sc (strs P))[j]? = some u → wB.cell? (ad.add j) = some u := hsrc.imp id (fun ⟨b, o, e, _, h⟩ => ⟨_, e, fun j u hj => by rw [add_off]; exact h j u hj⟩); have hs2 : (P.length = 0 ∧ oa = none) ∨ ∃ ad, oa = some ad ∧ ∀ j u, (sc (strs P))[j]? = some u → (wB.alloc (.cells #[.string ⟨N.toArray⟩, .string ⟨OT.toArray⟩] 9)).cell? (ad.add j) = some u := hsrc.imp id (fun ⟨b, o, e, hl, h⟩ => ⟨_, e, fun j u hj => by rw [add_off]; exact ((Joins.below_alloc1 wB _).cell (p := ⟨b, o + j, none⟩) hl).trans (h j u hj)⟩))
            | (go_at_call 18; refine ((HN _ (below_tr B0 (Below.refl _ _).drew)).out.mono ?_); rintro e wA ⟨rfl, hbA⟩; have hA : Below W0.heap.size W0 wA := (Below.refl _ _).drew.trans hbA; have hLA := lit_own (W := wA) (B := W0.heap.size) (C := #[.string ⟨N.toArray⟩, .string ⟨OT.toArray⟩]) (xs := strs [N, OT]) rfl hA.size rfl rfl (by rw [strs_length]; simp [maxLen])))
        all_goals
          have HW := Lib.hid (show w6.ownsRow W0.heap.size 9 1 v' (strs (N :: OT :: P)).length (sc (strs (N :: OT :: P))) from by
            have e1 : (strs (N :: OT :: P)).length = 2 + P.length := by rw [strs_length]; simp; omega
            have e2 : sc (strs (N :: OT :: P)) = sc (strs [N, OT]) ++ sc (strs P) := by simp [sc, strs]
            rw [e1, e2]; exact hown6)
          have hwl : (strs (N :: OT :: P)).length = 2 + P.length := by rw [strs_length]; simp; omega
          obtain ⟨g, gc, rfl, -, g2, g3, g4, -⟩ := own_shape hown6 (by omega)
          have HJ := Lib.hid (Tryz.strings_Join g 0 gc (strs (N :: OT :: P)) ⟨#[32]⟩ w6 (fun j y hj => by
              have hjl := (List.getElem?_eq_some_iff.1 hj).1
              rw [Nat.zero_add, g4 j (by omega)]
              have e2 : sc (strs [N, OT]) ++ sc (strs P) = sc (strs (N :: OT :: P)) := by simp [sc, strs]
              rw [e2, sc, List.getElem?_map, hj]; rfl) g2 (by omega) (by omega) (by rw [words_join]; show (Lib.join _ [32]).length ≤ _; rw [← HLn.out]; omega))
          have hownL : w6.ownsRow w1.heap.size 9 1 _ (2 * k) (sc (strs (codeP ins k))) := own_below (own_below hown bl) h6
          have B6 := below_tr B0 h6
          rw [words_join, hwl] at HJ
          rw [show Lib.join (N :: OT :: P) (⟨#[32]⟩ : ByteArray).data.toList = LN from HLn.out.symm] at HJ
          clear g4 hown6 HW hLA hLB hs1 hs2 hsrc HFt HN hOp KS hown hft
          go_wp2_with fail
          refine HJ.out.mono ?_
          rintro e wJ ⟨rfl, hbJ⟩
          have hownJ := own_below hownL hbJ
          have BJ := below_tr B6 hbJ
          have hszJ := BJ.size
          go_wp2_with (at_builtin; refine wpList_append_own _ rfl (.tmp 29) (.tmp 32) 44 rfl w1.heap.size 9 i0 (.string ⟨#[]⟩) 1 16 Tryz.underlying44 hi hz0 hz1 hz2 rfl (by decide) _ (2 * k) (sc (strs (codeP ins k))) rfl (hownJ.alloc _) ⟨wJ.heap.size, 0, none⟩ 2 2 [.string ⟨LN.toArray⟩, .string ⟨#[10]⟩] rfl rfl (new_cells _ _ _ _ rfl) (sc_one [⟨LN.toArray⟩, ⟨#[10]⟩]) (by unfold maxLen; omega) (by omega) (by simp; omega) ?_; intro v2 w7 hown7 hgrow7 _)
          have R := own_app hownJ BJ (Nat.le_refl _) hszJ hgrow7
          have e3 : sc (strs (codeP ins k)) ++ [.string ⟨LN.toArray⟩, .string ⟨#[10]⟩] = sc (strs (codeP ins (k + 1))) := by rw [HP.out]; simp [sc, strs]
          rw [e3] at hown7
          clear e3 hownJ hownL hgrow7 HJ
          go_roundw
          case rel => exact ⟨k + 1, by go_num, by omega, hown7, R.1⟩
          case measure => simp [intOf]; omega
      · obtain rfl : k = ins.length := by omega
        have hcl := HSZ.out
        have hpl := HCl.out _ hk
        have hsl : (strs (codeP ins ins.length)).length = 2 * ins.length := by rw [strs_length]; exact hpl
        obtain ⟨g, gc, rfl, -, g2, g3, g4, -⟩ := own_shape hown (by omega)
        have HJ := Lib.hid (joined g 0 gc (strs (codeP ins ins.length)) wr (fun j y hj => by
          have hjl := (List.getElem?_eq_some_iff.1 hj).1
          rw [Nat.zero_add, g4 j (by omega), sc, List.getElem?_map, hj]; rfl) g2 (by omega) (by omega) (by rw [cat_strs]; omega))
        rw [cat_strs, hsl] at HJ
        clear g4 hown HSZ HCl HC HRT HIS hR0 hpl hsl
        go_wp2_with fail
        refine HJ.out.mono ?_
        rintro e w2 ⟨rfl, hb⟩
        go_wp2
        go_ret
        exact ⟨by rw [HB.out]; rfl, below_tr B1 (below_tr hbel hb) (by have := B1.size; omega)⟩
end Go.Proofs.YtkhemdagghlcdaaGreatDoor
