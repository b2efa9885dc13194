/- What the program marks in a heap, with a stack: the search. -/
import Derived.Test.YtdhpmblhejcehaaDoorHqR
import Derived.Test.YtdhpmblhejcehaaDoorHpLaw
namespace Go.Proofs.YtdhpmblhejcehaaDoor
set_option linter.unusedVariables false
set_option maxRecDepth 100000
open Go.ChangeShapes Go.WideShapes Go.ChangeAt Go.RowKit

theorem wr_small (m : Nat) (h : (m : Int) ≤ 2000000) : wrap64 ((m : Int) + 1 - 1) = m ∧ wrap64 (m : Int) = m ∧ IntKind.i64.wrap (m : Int) = m := by
  have h2 : wrap64 (m : Int) = m := wrap64_small _ (by omega)
  refine ⟨?_, h2, IntWalk.i64_in _ ⟨by clear h2; omega, by clear h2; omega⟩⟩
  rw [Int.add_sub_cancel]; exact h2
theorem resl_vl (g m cap : Nat) (h : m + 1 ≤ cap) (W : World) : (Instr.sliceAt 24 (.slice (some ⟨g, 0, none⟩) (m + 1) cap) none (some (.int .i64 (m : Int))) none).run Tryd.prog W = .ok (.slice (some ⟨g, 0, none⟩) m cap) W := by
  have hu : Tryd.prog.underlying 24 = some (.slice (Tryd.prog.elem 24)) := by kernel_rfl
  have hs : (sizeOf (Tryd.prog.elem 24)).run Tryd.prog W = .ok 3 W := by kernel_rfl
  rw [run_sliceAt_slice (h := hu), run_slice_h (ht := hu) (h0 := by omega) (h2 := by omega), hs]
  simp only [Result.andThen, sliced, Int.toNat_natCast, Nat.sub_zero]
  rw [if_neg (by omega)]
  simp [Addr.add]
theorem SeenIs.blk {W w w' : World} {g : Nat} {S : List Bool} (h : SeenIs W g S w) (hb : w'.heap[g]? = w.heap[g]?) (hbel : Below W.heap.size W w') (hs : w.heap.size ≤ w'.heap.size) : SeenIs W g S w' :=
  ⟨fun i hi => (World.cell?_of_block (a := ⟨g, i, none⟩) hb).trans (h.cell i hi), fun i hi => (World.frozen?_of_block (a := ⟨g, i, none⟩) hb).trans (h.fr i hi), Nat.lt_of_lt_of_le h.lt hs, h.lo, hbel⟩
/-- How long a slice is. -/
def slN : Value → Nat
  | .slice _ n _ => n
  | _ => 0
set_option maxHeartbeats 400000 in
theorem iReached (h : List Ce) (r : List Vl) (v0 v1 : Value) (w : World) (h0 : RowRd 9 CeEl w v0 h) (h1 : RowRd 3 VlEl w v1 r) (hb : heapB h r = true) (hrl : r.length ≤ 1048576) :
    Calls Tryd.prog 31 #[v0, v1] w fun e w' => ∃ g, e = .returned (.slice (some ⟨g, 0, none⟩) h.length h.length) ∧ (∀ i, i < h.length → w'.cell? ⟨g, i, none⟩ = some (.bool (rchB h r i))) ∧ g < w'.heap.size ∧ w.heap.size ≤ g ∧ Below w.heap.size w w' := by
  obtain ⟨ii, gi, gz0, gz1, gz2⟩ := info_parts info_bool
  obtain ⟨jj, hi, hz0, hz1, hz2⟩ := info_parts info_vl
  obtain ⟨a0, c0, rfl, hm0, hR0⟩ := h0.form
  have HCl := fun W (hW : Kept w W) => Lib.hid (iCloneVl r v1 W (h1.kept VlEl.st hW) hrl)
  obtain ⟨a1, c1, rfl, hm1, -⟩ := h1.form
  clear h0 h1
  unfold maxLen at hm0 hm1
  have hl4 := heap_len hb
  have HHB := Lib.hid hb
  obtain ⟨W0, hmk, hown0, hgr0⟩ := run_makeSlice_full (P := Tryd.prog) w w.heap.size 63 4 ii (.bool false) 1 Tryd.underlying63 gi gz0 gz1 .i64 .i64 h.length (by omega) (by rw [gz2]; omega) (by unfold maxLen; omega) (Nat.le_refl _)
  have hS0 : SeenIs w w.heap.size (List.replicate h.length false) W0 := by
    have hlt := (hown0.lt w.heap.size rfl).2
    refine ⟨fun i hi => ?_, fun i hi => hown0.frozenAt i, hlt, Nat.le_refl _, ⟨hgr0.os, hgr0.tape, hgr0.output, hgr0.size, fun k hk => hgr0.block k hk (by simp)⟩⟩
    rw [List.length_replicate] at hi
    obtain ⟨g, cap, e, -, -, -, g4, -⟩ := own_shape hown0 (by omega)
    cases e
    rw [g4 i hi, List.getElem_replicate]
    simp [madeCells, Value.cells, hi, Nat.mod_one]
  have HD0 := Lib.hid (dfs_start hb)
  have hlt0 := hS0.lt
  have HM0 := Lib.hid (show r.length + 2 * unseen (List.replicate h.length false) ≤ r.length + 2 * h.length from by have := unseen_le (List.replicate h.length false); simp at this ⊢; omega)
  clear hown0 hgr0 gi gz0 gz1 gz2 hb
  go_enter Tryd.func31, Tryd.ntmps31
  go_wp2_with fail
  refine (HCl _ (Kept.of_below hS0.bel)).out.mono ?_
  rintro e w1 ⟨v', rfl, hown1, hb1⟩
  have hS1 := hS0.below hb1
  have hown2 := own_mon hown1 hS0.bel.size
  have hne1 : v'.ownBlock ≠ some w.heap.size := fun e => by have := (hown1.lt _ e).1; omega
  clear hmk hS0 HCl hown1 hb1
  go_wp2
  go_loopw [6] (fun u wr => ∃ (S : List Bool) (o : List Vl), Hid (Dfs h r S o) ∧ SeenIs w w.heap.size S wr ∧ wr.ownsRow w.heap.size 33 3 u o.length (vc o) ∧ u.ownBlock ≠ some w.heap.size ∧ Hid (o.length + 2 * unseen S ≤ r.length + 2 * h.length)) (fun u wr => 3 * unseen (seenOf wr w.heap.size h.length) + slN u)
  case atStart => exact ⟨_, r, HD0.out, hS1, hown2, hne1, HM0.out⟩
  case round =>
    clear hS1 hown2 hne1 HD0 HM0
    obtain ⟨S, o, HD, hS, hown, hne, HM⟩ := hrel
    have hK : Kept w wr := Kept.of_below hS.bel
    have hglt := hS.lt
    have hSl : S.length = h.length := HD.out.mks.len
    have HSN := Lib.hid (hS.of hSl)
    rcases List.eq_nil_or_concat o with rfl | ⟨o', x, ho⟩
    · have HE := Lib.hid (dfs_end HHB.out HD.out)
      obtain ⟨ua, uc, rfl⟩ := own_slN hown
      clear HD HM hown hR0 HSN
      go_wp2
      go_ret
      refine ⟨_, rfl, fun i hi => ?_, hS.lt, hS.lo, hS.bel⟩
      have hi' : i < S.length := by omega
      have := HE.out i hi
      rw [List.getElem?_eq_getElem hi'] at this
      rw [hS.cell i hi']
      exact congrArg (fun b => some (Value.bool b)) (Option.some.inj this)
    · rw [List.concat_eq_append] at ho
      subst ho
      have hlen : (o' ++ [x]).length = o'.length + 1 := by simp
      rw [hlen] at hown HM
      obtain ⟨g, cap, rfl, hgB, hgl, hgc, hgcell, -⟩ := own_dims hown (by omega)
      have e0 := (hgcell (o'.length * 3 + 0) (by omega)).trans (vc_get (o' ++ [x]) o'.length 0 (by simp) (by omega))
      have e1 := (hgcell (o'.length * 3 + 1) (by omega)).trans (vc_get (o' ++ [x]) o'.length 1 (by simp) (by omega))
      have e2 := (hgcell (o'.length * 3 + 2) (by omega)).trans (vc_get (o' ++ [x]) o'.length 2 (by simp) (by omega))
      simp only [List.getElem_append_right (Nat.le_refl _), Nat.sub_self, List.getElem_singleton] at e0 e1 e2
      simp [vl3] at e0 e1 e2
      have hpop := own_popN hown
      rw [vc_pop] at hpop
      have hgne : g ≠ w.heap.size := fun e => hne (by rw [e]; rfl)
      have HSk := Lib.hid (fun hv => dfs_skip HD.out (v := x) hv)
      have HMk := Lib.hid (fun hk hl => dfs_mark HHB.out HD.out (v := x) hk hl)
      have HRx := Lib.hid (fun hk => HD.out.rch x (by simp) hk)
      clear hown hgcell HD hlen
      generalize hm : o'.length = m at *
      have HMm := Lib.hid hm
      clear hm
      have hml : (m : Int) ≤ 2000000 := by have := HM.out; omega
      have hm0 : (0 : Int) ≤ m := by omega
      have r4 : decide (0 < (m : Int) + 1) = true := decide_eq_true (by omega)
      have r5 : (m : Int) < (m : Int) + 1 := by omega
      have r6 : (m : Int) ≤ cap := by omega
      have r7 := resl_vl g m cap hgc
      have HM2 := Lib.hid (show o'.length + 2 * unseen S ≤ r.length + 2 * h.length from by rw [HMm.out]; have := HM.out; omega)
      obtain ⟨r1, r2, r3⟩ := wr_small m hml
      by_cases hk6 : x.kind = 6
      · obtain ⟨-, n0, n1⟩ := HRx.out hk6
        obtain ⟨p, hp⟩ : ∃ p : Nat, x.n = (p : Int) := ⟨x.n.toNat, by clear r1 r2 r3; omega⟩
        have hpt : x.n.toNat = p := by clear r1 r2 r3; omega
        have hph : p < h.length := by clear r1 r2 r3; omega
        have hpl : p < S.length := by rw [hSl]; exact hph
        have q1 := hS.cell p hpl
        have q2 := hS.fr p hpl
        have m2 : (p : Int) < (h.length : Int) := by clear r1 r2 r3; omega
        have m3 : (0 : Int) ≤ (p : Int) := by clear r1 r2 r3; omega
        have hSp := List.getElem?_eq_getElem hpl
        rw [hpt] at HMk HSk
        have HSk2 := Lib.hid (HSk.out)
        have HMk2 := Lib.hid (HMk.out hk6 hph)
        rw [hk6] at e0
        rw [hp] at e1
        have HPOP := Lib.hid hpop
        clear hpop hne hm1 hp hpt n0 n1 hk6 HSk HMk HRx
        cases hsp : S[p]
        · rw [hsp] at q1 hSp
          obtain ⟨b, oo, rfl, hbw, hc⟩ := hR0 (by clear r1 r2 r3; omega)
          obtain ⟨⟨-, -, -, f3, f4, f5, f6, f7, f8⟩, -⟩ := ce_at (CeEl.st w wr b _ _ hK hbw (hc p hph))
          have hbr := Nat.lt_of_lt_of_le hbw hK.size
          have HUS := Lib.hid (unseen_set hSp)
          generalize hy : h[p] = y at *
          clear hc hR0 hK hy HSk2 hSp
          go_wp2_with fail
          refine hp_gen (P := fun W => Code.wp _ _ _ _ W) _ ?_
          intro W3 hW3
          have hbg : b ≠ w.heap.size := by clear r1 r2 r3; omega
          have qb : W3.heap[b]? = wr.heap[b]? := by rw [hW3]; exact ((Joins.below_alloc1 _ _).block b (by rw [setCell_size]; exact hbr)).trans (Below.heap_setCell _ _ _ _ hbg)
          have qg : W3.heap[g]? = wr.heap[g]? := by rw [hW3]; exact ((Joins.below_alloc1 _ _).block g (by rw [setCell_size]; exact hgl)).trans (Below.heap_setCell _ _ _ _ hgne)
          have bx : W3.cell? ⟨wr.heap.size, 1, none⟩ = some (.int .i64 (p : Int)) := by rw [hW3, hp_cell (hp_al _ _ (by rw [setCell_size])) 1]; rfl
          have own3 : W3.ownsRow w.heap.size 33 3 (.slice (some ⟨g, 0, none⟩) m cap) m (vc o') := own_blkN HPOP.out (fun g' e => by simp [Value.ownBlock] at e; subst e; exact qg)
          have hS3 : SeenIs w w.heap.size (S.set p true) W3 := by rw [hW3]; exact (hS.set p hpl).below (Joins.below_alloc1 _ _)
          have sz3 : W3.heap.size = wr.heap.size + 1 := by rw [hW3]; simp
          clear hW3
          have hb3 : b < W3.heap.size := by clear r1 r2 r3; omega
          have hw3 : wr.heap.size < W3.heap.size := by clear r1 r2 r3; omega
          have hww3 : w.heap.size ≤ W3.heap.size := by clear r1 r2 r3; omega
          have hgw3 : g < W3.heap.size := by clear r1 r2 r3; omega
          have KB : ∀ W : World, W.heap[b]? = W3.heap[b]? → W.heap[wr.heap.size]? = W3.heap[wr.heap.size]? → (W.cell? ⟨wr.heap.size, 1, none⟩ = some (.int .i64 (p : Int)) ∧ W.cell? ⟨b, oo + p * 9 + 3, none⟩ = some (.int .i64 y.a.kind) ∧ W.cell? ⟨b, oo + p * 9 + 4, none⟩ = some (.int .i64 y.a.n) ∧ W.cell? ⟨b, oo + p * 9 + 5, none⟩ = some (.string y.a.s)) ∧ (W.cell? ⟨b, oo + p * 9 + 6, none⟩ = some (.int .i64 y.b.kind) ∧ W.cell? ⟨b, oo + p * 9 + 7, none⟩ = some (.int .i64 y.b.n) ∧ W.cell? ⟨b, oo + p * 9 + 8, none⟩ = some (.string y.b.s)) := fun W hW hW2 =>
            have qq : ∀ i, W.cell? ⟨b, i, none⟩ = wr.cell? ⟨b, i, none⟩ := fun i => World.cell?_of_block (a := ⟨b, i, none⟩) (hW.trans qb)
            ⟨⟨(World.cell?_of_block (a := ⟨wr.heap.size, 1, none⟩) hW2).trans bx, (qq _).trans f3, (qq _).trans f4, (qq _).trans f5⟩, (qq _).trans f6, (qq _).trans f7, (qq _).trans f8⟩
          have KS := fun W (hW : Below W3.heap.size W3 W) => KB W (hW.block b hb3) (hW.block _ hw3)
          have hgr3 : g ≠ wr.heap.size := by clear r1 r2 r3; omega
          have hgb3 : b ≠ g := by clear r1 r2 r3; omega
          have SZ := Lib.hid sz3
          have hmx : m + 2 ≤ maxLen := by unfold maxLen; clear r1 r2 r3; omega
          have hmy : (m + 2) * 32 ≤ 140737488355328 := by clear r1 r2 r3; omega
          clear sz3 e0 e1 e2 f3 f4 f5 f6 f7 f8 q1 q2 qb bx
          go_region_held3 (fun W => (W.cell? ⟨wr.heap.size, 1, none⟩ = some (.int .i64 (p : Int)) ∧ W.cell? ⟨b, oo + p * 9 + 3, none⟩ = some (.int .i64 y.a.kind) ∧ W.cell? ⟨b, oo + p * 9 + 4, none⟩ = some (.int .i64 y.a.n) ∧ W.cell? ⟨b, oo + p * 9 + 5, none⟩ = some (.string y.a.s)) ∧ (W.cell? ⟨b, oo + p * 9 + 6, none⟩ = some (.int .i64 y.b.kind) ∧ W.cell? ⟨b, oo + p * 9 + 7, none⟩ = some (.int .i64 y.b.n) ∧ W.cell? ⟨b, oo + p * 9 + 8, none⟩ = some (.string y.b.s)))
            (first | exact KS _ (Below.refl _ _) | exact KS _ (Below.refl _ _).drew | exact KS _ ((Below.refl _ _).drew.alloc (Nat.le_refl _) _) | exact KB _ (qk _ hb3 hgb3) (qk _ hw3 hgr3.symm))
            (first | (refine hp_append_at rfl (.tmp 42) (.tmp 55) 24 rfl w.heap.size 33 jj (.agg #[.int .i64 0, .int .i64 0, .string ⟨#[]⟩]) 3 32 Tryd.underlying24 hi hz0 hz1 hz2 rfl (by decide) (.slice (some ⟨g, 0, none⟩) m cap) m (vc o') rfl (own3.drew.alloc _) ⟨W3.heap.size, 0, none⟩ 2 2 (vc [y.a, y.b]) rfl rfl (new_cells _ _ _ _ rfl) (vc_cell _) hmx hmy (by simp [World.drew]; omega) ?_; intro v2 w2 hown2 hgrow2 hat2; have qk : ∀ k, k < W3.heap.size → k ≠ g → w2.heap[k]? = W3.heap[k]? := fun k hk hne => (hgrow2.block k (by simp [World.drew]; omega) (by simp [Value.ownBlock]; exact hne)).trans (((Below.refl W3.heap.size W3).drew.alloc (Nat.le_refl _) _).block k hk)))
          obtain ⟨va, vcp, rfl⟩ := own_slN hown2
          have e9 : W3.drew.heap.size = W3.heap.size := rfl
          have hsz2 : W3.heap.size ≤ w2.heap.size := by have := hgrow2.size; simp at this; clear r1 r2 r3; omega
          have hbl2 : Below w.heap.size w w2 := ((hS3.bel.drew).alloc (show w.heap.size ≤ W3.drew.heap.size from hww3) _).grown hgrow2 (by simp; clear r1 r2 r3; omega) (fun k hk => by simp [Value.ownBlock] at hk; clear r1 r2 r3; omega)
          have hS4 := hS3.blk (qk _ hS3.lt hgne.symm) hbl2 hsz2
          have HSN4 := Lib.hid (hS4.of (n := h.length) (by rw [List.length_set]; exact hSl))
          have hown4 : w2.ownsRow w.heap.size 33 3 (.slice va (m + 2) vcp) (o' ++ [y.a, y.b]).length (vc (o' ++ [y.a, y.b])) := own_vcs (l := o') (l' := [y.a, y.b]) HMm.out.symm rfl rfl rfl hown2
          have hne4 : (Value.slice va (m + 2) vcp).ownBlock ≠ some w.heap.size := by
            rcases hat2 with e | e
            · rw [e]; simpa [Value.ownBlock] using hgne
            · rw [e]; simp; clear r1 r2 r3; omega
          have HM4 := Lib.hid (show (o' ++ [y.a, y.b]).length + 2 * unseen (S.set p true) ≤ r.length + 2 * h.length from by have a1 := HUS.out; have a2 := HM2.out; clear r1 r2 r3; simp; omega)
          have HUS4 := Lib.hid (show 3 * unseen (S.set p true) + (m + 2) < 3 * unseen S + (m + 1) from by have a1 := HUS.out; clear r1 r2 r3; omega)
          clear hown2 hgrow2 hat2 qk hS3 e9
          go_wp2
          go_roundw
          case rel => exact ⟨S.set p true, o' ++ [y.a, y.b], HMk2, hS4, hown4, hne4, HM4⟩
          case measure => rw [HSN.out, HSN4.out]; exact HUS4.out
        · rw [hsp] at q1 hSp
          have HD2 := Lib.hid (HSk2.out (fun _ => hSp))
          clear hR0 hK HSk2 HMk2 hSp
          go_wp2
          go_roundw
          case rel => exact ⟨S, o', HD2, hS.below (Joins.below_alloc1 wr _), by rw [HMm.out]; exact own_belN HPOP.out (Joins.below_alloc1 wr _), fun e => hgne (by simpa [Value.ownBlock] using e), HM2⟩
          case measure => rw [HSN.out, show seenOf _ _ _ = S from (hS.below (Joins.below_alloc1 wr _)).of hSl]; simp [slN]
      · have hkb : (x.kind == 6) = false := by simpa using hk6
        have HD2 := Lib.hid (HSk.out (fun e => absurd e hk6))
        clear HSk HMk HRx hk6
        have HPOP := Lib.hid hpop
        clear hpop hne hK hR0 hm1
        go_wp2
        go_roundw
        case rel => exact ⟨S, o', HD2, hS.below (Joins.below_alloc1 wr _), by rw [HMm.out]; exact own_belN HPOP.out (Joins.below_alloc1 wr _), fun e => hgne (by simpa [Value.ownBlock] using e), HM2⟩
        case measure => rw [HSN.out, show seenOf _ _ _ = S from (hS.below (Joins.below_alloc1 wr _)).of hSl]; simp [slN]
end Go.Proofs.YtdhpmblhejcehaaDoor
