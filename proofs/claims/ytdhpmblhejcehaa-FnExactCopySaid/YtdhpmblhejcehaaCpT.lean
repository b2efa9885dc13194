/- The model's copying of a heap: the roots, then the cells. -/
import Derived.Test.YtdhpmblhejcehaaCpS
import Derived.Test.YtdhpmblhejcehaaHpRow
namespace Go.Proofs.Ytdhpmblhejcehaa
set_option linter.unusedVariables false
set_option maxRecDepth 100000
open Go.ChangeShapes Go.WideShapes Go.ChangeAt Go.RowKit

theorem ToIs.blk {B t g n : Nat} {o : List Nat} {ov : Value} {w w' : World} (h : ToIs B t g n o ov w) (hs : w.heap.size ≤ w'.heap.size) (ht : w'.heap[t]? = w.heap[t]?) (hg : w'.heap[g]? = w.heap[g]?) (ho : ∀ b, ov.ownBlock = some b → w'.heap[b]? = w.heap[b]?) : ToIs B t g n o ov w' :=
  ⟨ht.trans h.box, own_blkN h.own ho, fun i hi => (World.cell?_of_block (a := ⟨g, i, none⟩) hg).trans (h.cell i hi), fun i hi => (World.frozen?_of_block (a := ⟨g, i, none⟩) hg).trans (h.fr i hi), Nat.lt_of_lt_of_le h.lt hs, h.ne, h.ng, h.nt, h.lot, h.log⟩
theorem rootsO_ok {h : List Ce} {r : List Vl} (hb : heapB h r = true) : ∀ k, k ≤ r.length → OrdOk h.length (rootsO [] (r.take k))
  | 0, _ => ⟨by simp [rootsO], fun x hx => by simp [rootsO] at hx⟩
  | k + 1, hk => by
    rw [List.take_succ_eq_append_getElem (by omega), rootsO_snoc]
    refine mvO_ok (rootsO_ok hb k (by omega)) fun h6 => ?_
    have := heap_root hb (List.getElem_mem (show k < r.length by omega)) h6
    omega
theorem cpAt_ok {h : List Ce} {r : List Vl} {o0 : List Nat} (hb : heapB h r = true) (h0 : OrdOk h.length o0) : ∀ k, OrdOk h.length (cpAt h o0 k).1
  | 0 => h0
  | k + 1 => by
    have ih := cpAt_ok hb h0 k
    rw [cpAt]
    split
    · exact ih
    · split
      · exact ih
      · rename_i x hx _ c hc
        obtain ⟨hl, rfl⟩ := List.getElem?_eq_some_iff.1 hc
        refine mvO_ok (mvO_ok ih fun h6 => ?_) fun h6 => ?_
        · have := heap_a hb hl h6; omega
        · have := heap_b hb hl h6; omega
theorem mvV_ok {o : List Nat} {v : Vl} {n : Nat} (ho : OrdOk n (mvO o v)) (hn : n ≤ 4000) (hv : VlOk v) : VlOk (mvV o v) := by
  unfold mvV
  split
  · rename_i hk
    have hm : v.n.toNat ∈ mvO o v := by
      unfold mvO
      by_cases hx : v.n.toNat ∈ o
      · rw [if_neg (fun c => c.2 hx)]; exact hx
      · rw [if_pos ⟨hk, hx⟩]; simp
    have h1 := List.idxOf_lt_length_iff.2 hm
    have h2 := nodup_le n _ ho
    refine ⟨by show -9223372036854775808 ≤ (6 : Int) ∧ (6 : Int) ≤ 9223372036854775807; omega, by show -9223372036854775808 ≤ (((mvO o v).idxOf v.n.toNat : Nat) : Int) ∧ (((mvO o v).idxOf v.n.toNat : Nat) : Int) ≤ 9223372036854775807; omega, by show (0 : Nat) ≤ _; omega⟩
  · exact hv
theorem vl_s6 {m : Int} {v : Vl} (h : valB m v = true) (hk : v.kind = 6) : v.s.toList = [] := (val_cell h hk).2.2
theorem heap_rs {h : List Ce} {r : List Vl} (hb : heapB h r = true) {v : Vl} (hv : v ∈ r) (hk : v.kind = 6) : v.s.toList = [] := by
  simp only [heapB, Bool.and_eq_true, decide_eq_true_eq] at hb
  exact vl_s6 (List.all_eq_true.1 hb.2.2 v hv) hk
theorem heap_as {h : List Ce} {r : List Vl} (hb : heapB h r = true) {i : Nat} (hi : i < h.length) (hk : h[i].a.kind = 6) : h[i].a.s.toList = [] := by
  simp only [heapB, Bool.and_eq_true, decide_eq_true_eq] at hb
  have := List.all_eq_true.1 hb.2.1 _ (List.getElem_mem hi)
  simp only [cellB, Bool.and_eq_true] at this
  exact vl_s6 this.2.2.1 hk
theorem heap_bs {h : List Ce} {r : List Vl} (hb : heapB h r = true) {i : Nat} (hi : i < h.length) (hk : h[i].b.kind = 6) : h[i].b.s.toList = [] := by
  simp only [heapB, Bool.and_eq_true, decide_eq_true_eq] at hb
  have := List.all_eq_true.1 hb.2.1 _ (List.getElem_mem hi)
  simp only [cellB, Bool.and_eq_true] at this
  have hB := this.2.2.2.1
  unfold cellBB at hB
  split at hB
  · exact vl_s6 hB hk
  · simp only [noneB, Bool.and_eq_true, decide_eq_true_eq] at hB; omega
/-- What copying leaves: two rows of the call's own. -/
def CopyRes (h : List Ce) (r : List Vl) (w : World) (e : Ending) (w' : World) : Prop :=
  ∃ u v, e = .returned (.tuple #[u, v]) ∧ w'.ownsRow w.heap.size 55 9 u (resCopy h r).1.length (cc (resCopy h r).1) ∧ w'.ownsRow w.heap.size 53 3 v (resCopy h r).2.length (vc (resCopy h r).2) ∧ Below w.heap.size w w'
set_option maxHeartbeats 1000000 in
theorem sCopyL (h : List Ce) (r : List Vl) (v0 v1 : Value) (w : World) (h0 : RowRd 9 CeEl w v0 h) (h1 : RowRd 3 VlEl w v1 r) (hb : heapB h r = true) (hrl : r.length ≤ 1048576) :
    Calls Try.prog 51 #[v0, v1] w (CopyRes h r w) := by
  obtain ⟨ii, gi, gz0, gz1, gz2⟩ := info_parts info_int1
  obtain ⟨jj, hi, hz0, hz1, hz2⟩ := info_parts info_vl
  obtain ⟨kk, ci, cz0, cz1, cz2⟩ := info_parts info_ce
  obtain ⟨a0, c0, rfl, hm0, hR0⟩ := h0.form
  obtain ⟨a1, c1, rfl, hm1, hR1⟩ := h1.form
  clear h0 h1
  unfold maxLen at hm0 hm1
  have hl4 := heap_len hb
  have HHB := Lib.hid hb
  obtain ⟨W0, hmk, hown0, hgr0⟩ := run_makeSlice_full (P := Try.prog) w w.heap.size 27 3 ii (.int .i64 0) 1 Try.underlying27 gi gz0 gz1 .i64 .i64 h.length (by omega) (by rw [gz2]; omega) (by unfold maxLen; omega) (Nat.le_refl _)
  have hgl0 := (hown0.lt w.heap.size rfl).2
  have b0 : Below w.heap.size w W0 := ⟨hgr0.os, hgr0.tape, hgr0.output, hgr0.size, fun k hk => hgr0.block k hk (by simp)⟩
  obtain ⟨O1, hO1⟩ : ∃ O, O = Obj.cells #[.slice none 0 0, .slice (some ⟨w.heap.size, 0, none⟩) h.length h.length] 90 := ⟨_, rfl⟩
  have hT0 : ToIs w.heap.size W0.heap.size w.heap.size h.length (rootsO [] (r.take 0)) (.slice none 0 0) (W0.alloc O1) := by
    have k1 := Joins.below_alloc1 W0 O1
    refine ⟨by rw [hO1]; exact hp_al _ _ rfl, World.ownsRow_nil _ _ _ _, fun i hi => ?_, fun i hi => (k1.frozen (p := ⟨w.heap.size, i, none⟩) hgl0).trans (hown0.frozenAt i), by simp; omega, by omega, by simp [Value.ownBlock], by simp [Value.ownBlock], b0.size, Nat.le_refl _⟩
    rw [k1.cell (p := ⟨w.heap.size, i, none⟩) hgl0]
    obtain ⟨g, cap, e, -, -, -, g4, -⟩ := own_shape hown0 (by omega)
    cases e
    rw [g4 i hi]
    simp [madeCells, Value.cells, hi, Nat.mod_one, placeOf, rootsO]
  have hnow0 : ((W0.alloc O1).alloc (.cells #[] 53)).ownsRow w.heap.size 53 3 (.slice (some ⟨(W0.alloc O1).heap.size, 0, none⟩) 0 0) 0 (vc (rootsV [] (r.take 0))) := World.ownsRow_lit (W0.alloc O1) #[] 0 (by simp; have := b0.size; omega) (by decide) rfl
  have hT1 := hT0.below (Joins.below_alloc1 (W0.alloc O1) (.cells #[] 53))
  have hB1 : Below w.heap.size w ((W0.alloc O1).alloc (.cells #[] 53)) := b0.trans ((Joins.below_alloc2 W0 _ _).mono b0.size)
  have hng1 : (Value.slice (some ⟨(W0.alloc O1).heap.size, 0, none⟩) 0 0).ownBlock ≠ some w.heap.size := fun e => by simp [Value.ownBlock] at e; omega
  have HZ : (W0.alloc O1).heap.size = W0.heap.size + 1 := by simp
  rw [HZ] at hnow0 hng1
  have HT1 := Lib.hid hT1
  have HN1 := Lib.hid hnow0
  have HB1 := Lib.hid hB1
  have HG1 := Lib.hid hng1
  clear hown0 hgr0 gi gz0 gz1 gz2 hT0 hnow0 hT1 hB1 hng1 hb HZ
  go_enter Try.func51, Try.ntmps51
  go_wp2
  rw [← hO1]
  clear hmk hO1
  go_loopw [7, 21] (fun nv i wr => ∃ (k : Nat) (ov : Value), i = .int .i64 k ∧ k ≤ r.length ∧ ToIs w.heap.size W0.heap.size w.heap.size h.length (rootsO [] (r.take k)) ov wr ∧ wr.ownsRow w.heap.size 53 3 nv k (vc (rootsV [] (r.take k))) ∧ nv.ownBlock ≠ some w.heap.size ∧ Below w.heap.size w wr) (fun _ i _ => r.length - (intOf i).toNat)
  case atStart => exact ⟨0, _, rfl, Nat.zero_le _, HT1.out, HN1.out, HG1.out, HB1.out⟩
  case round =>
    clear HT1 HN1 HG1 HB1
    obtain ⟨k, ov, rfl, hk, hT, hown, hng, hbel⟩ := hrel
    have hsz := hbel.size
    by_cases hlt : k < r.length
    · obtain ⟨b, o, rfl, hbw, hc⟩ := hR1 (by omega)
      obtain ⟨⟨e0, i0⟩, ⟨e1, i1⟩, ⟨e2, i2⟩⟩ := VlEl.st w wr b _ _ (Kept.of_below hbel) hbw (hc k hlt)
      have hbwr : b < wr.heap.size := by omega
      have HO := Lib.hid (rootsO_ok HHB.out k hk)
      have HO2 := Lib.hid (show rootsO [] (r.take (k + 1)) = mvO (rootsO [] (r.take k)) r[k] from by rw [List.take_succ_eq_append_getElem hlt, rootsO_snoc])
      have HV2 := Lib.hid (show rootsV [] (r.take (k + 1)) = rootsV [] (r.take k) ++ [mvV (rootsO [] (r.take k)) r[k]] from by rw [List.take_succ_eq_append_getElem hlt, rootsV_snoc])
      have HRK := Lib.hid (show r[k].kind = 6 → 0 ≤ r[k].n ∧ r[k].n < h.length from fun h6 => heap_root HHB.out (List.getElem_mem hlt) h6)
      have HRS := Lib.hid (show r[k].kind = 6 → r[k].s.toList = [] from fun h6 => heap_rs HHB.out (List.getElem_mem hlt) h6)
      clear hc hR0 hR1 ci cz0 cz1 cz2
      generalize r[k] = x at *
      generalize rootsO [] (r.take k) = O at *
      generalize rootsV [] (r.take k) = V at *
      have HMV := fun (W : World) (hW : ToIs w.heap.size W0.heap.size w.heap.size h.length O ov W) (hBW : w.heap.size ≤ W.heap.size) => Lib.hid (sMove w.heap.size W0.heap.size w.heap.size h.length O ov x W hW HO.out HRK.out hl4 hBW HRS.out)
      go_wp2_with fail
      obtain ⟨Ob, hOb⟩ : ∃ O, O = Obj.cells #[.int .i64 x.kind, .int .i64 x.n, .string x.s] 53 := ⟨_, rfl⟩
      rw [← hOb]
      have hTa := hT.below (Joins.below_alloc1 wr Ob)
      have hownA := own_belN hown (Joins.below_alloc1 wr Ob)
      have hbelA := below_tr hbel (Joins.below_alloc1 wr Ob)
      clear hOb hT hown
      refine (HMV _ hTa hbelA.size).out.mono ?_
      rintro e w1 ⟨ov2, rfl, hT2, hK2, hat2, hb2⟩
      have hown1 := own_blkN hownA (fun g' e => hK2 g' (hownA.lt g' e).2 (fun he => hp_ne hownA hTa.box (by decide) (he ▸ e)) (fun he => hng (he ▸ e)) (hp_two hTa.own hownA (by decide) e))
      have hbel1 := hbelA.trans hb2
      have hsz1 := hbel1.size
      generalize mvV O x = y at *
      have h63 : k + 1 ≤ maxLen := by unfold maxLen; omega
      have hby : (k + 1) * 32 ≤ 140737488355328 := by omega
      clear hTa hownA hbelA hK2 hat2 hb2 HMV e0 e1 e2 hbel
      go_wp2_with (at_builtin; refine wpList_append_own_at _ rfl (.tmp 25) (.tmp 29) 24 rfl w.heap.size 53 jj (.agg #[.int .i64 0, .int .i64 0, .string ⟨#[]⟩]) 3 32 Try.underlying24 hi hz0 hz1 hz2 rfl (by decide) _ k (vc V) rfl (hown1.alloc _) ⟨w1.heap.size, 0, none⟩ 1 1 (vc [y]) rfl rfl (new_cells _ _ _ _ rfl) (vc_cell _) h63 hby (by simp; omega) ?_; intro v2 w7 hown7 hgrow7 _ hat7)
      have R := own_grow hown1 hbel1 (Nat.le_refl _) hsz1 hgrow7
      have hT3 := hT2.below (Joins.below_alloc1 w1 (.cells #[.int .i64 y.kind, .int .i64 y.n, .string y.s] 53))
      have hT7 := hT3.blk hgrow7.size (hgrow7.block _ (hp_lt hT3.box) (fun e => hp_ne hown1 hT2.box (by decide) e.symm)) (hgrow7.block _ hT3.lt (fun e => hng e.symm)) (fun b' e => hgrow7.block _ (hT3.own.lt b' e).2 (fun e' => hp_two hown1 hT2.own (by decide) e e'.symm))
      have hng7 : v2.ownBlock ≠ some w.heap.size := by
        rcases hat7 with e | e
        · rw [e]; exact hng
        · rw [e]; simp; omega
      rw [← vc_app] at hown7
      clear hgrow7 hat7 hT3 hT2 hown1 hng hbel1
      go_roundw
      case rel => exact ⟨k + 1, ov2, by go_num, by omega, by rw [HO2.out]; exact hT7, by rw [HV2.out]; exact hown7, hng7, R.1⟩
      case measure => simp [intOf]; omega
    · obtain rfl : k = r.length := by omega
      rw [List.take_length] at hT hown
      have HO0 := Lib.hid (show OrdOk h.length (rootsO [] r) from by have := rootsO_ok HHB.out r.length (Nat.le_refl _); rwa [List.take_length] at this)
      have HRr := Lib.hid (show resCopy h r = ((cpAt h (rootsO [] r) h.length).2, rootsV [] r) from by unfold resCopy; rw [if_pos HHB.out])
      have HVl := Lib.hid (rootsV_len r [])
      have HCK := Lib.hid (cpAt_ok HHB.out HO0.out)
      generalize rootsO [] r = o0 at *
      generalize rootsV [] r = V at *
      have hTq := hT.below (Joins.below_alloc1 wr (.cells #[] 55))
      have hNq := own_belN hown (Joins.below_alloc1 wr (.cells #[] 55))
      have hBq := below_tr hbel (Joins.below_alloc1 wr (.cells #[] 55))
      have hOq : (wr.alloc (.cells #[] 55)).ownsRow w.heap.size 55 9 (.slice (some ⟨wr.heap.size, 0, none⟩) 0 0) 0 (cc (cpAt h o0 0).2) := World.ownsRow_lit wr #[] 0 (by omega) (by decide) rfl
      have hGq : (Value.slice (some ⟨wr.heap.size, 0, none⟩) 0 0).ownBlock ≠ some w.heap.size := fun e => by simp [Value.ownBlock] at e; have := hT.lt; omega
      have HTq := Lib.hid hTq
      have HNq := Lib.hid hNq
      have HBq := Lib.hid hBq
      have HOq := Lib.hid hOq
      have HGq := Lib.hid hGq
      clear hT hown hbel hTq hNq hBq hOq hGq hR1 hsz hlt hk
      generalize u7 = nv at *
      generalize hWq : wr = Wq at *
      clear hWq
      go_wp2
      go_loopw [10, 11] (fun out i wr => ∃ (k : Nat) (ov : Value), i = .int .i64 k ∧ k ≤ h.length ∧ ToIs w.heap.size W0.heap.size w.heap.size h.length (cpAt h o0 k).1 ov wr ∧ Hid ((cpAt h o0 k).2.length = k) ∧ wr.ownsRow w.heap.size 55 9 out k (cc (cpAt h o0 k).2) ∧ out.ownBlock ≠ some w.heap.size ∧ wr.ownsRow w.heap.size 53 3 nv r.length (vc V) ∧ Below w.heap.size w wr) (fun _ i _ => h.length - (intOf i).toNat)
      case atStart => exact ⟨0, _, rfl, Nat.zero_le _, HTq.out, rfl, HOq.out, HGq.out, HNq.out, HBq.out⟩
      case round =>
        clear HTq HNq HBq HOq HGq
        obtain ⟨k, ov, rfl, hk, hT, HCl, hout, hog, hnow, hbel⟩ := hrel
        have hsz := hbel.size
        obtain ⟨oa, oc, rfl⟩ := own_slN hT.own
        have ho := HCK.out k
        have hol := nodup_le _ _ ho
        have HO := Lib.hid ho
        have bt0 := hp_cell hT.box 0
        simp at bt0
        have htl := hp_lt hT.box
        have HNX := Lib.hid (fun x hx hl => cpAt_next (h := h) (o0 := o0) (i := k) (x := x) hx hl)
        have HEN := Lib.hid (fun he => cpAt_end (h := h) (o0 := o0) (i := k) he)
        by_cases hlt : k < (cpAt h o0 k).1.length
        · obtain ⟨og, oc', hoe, -, hogl, -, hocell, -⟩ := own_dims hT.own (by omega)
          cases hoe
          have e0 := hocell k (by omega)
          have hxk : (cpAt h o0 k).1[k]? = some (cpAt h o0 k).1[k] := List.getElem?_eq_getElem hlt
          have hxl := ho.2 _ (List.getElem_mem hlt)
          have HNX2 := Lib.hid (HNX.out _ hxk hxl)
          rw [show (Go.Proofs.Ytdhpmblhejcehaa.oc (cpAt h o0 k).1)[k]? = some (Value.int .i64 (((cpAt h o0 k).1[k] : Nat) : Int)) from by unfold Go.Proofs.Ytdhpmblhejcehaa.oc; rw [List.getElem?_map, hxk]; rfl] at e0
          clear hocell ho HNX HEN hxk
          generalize (cpAt h o0 k).1[k] = x at *
          obtain ⟨b, oo, rfl, hbw, hc⟩ := hR0 (by omega)
          obtain ⟨⟨f0, f1, f2, f3, f4, f5, f6, f7, f8⟩, -⟩ := ce_at (CeEl.st w wr b _ _ (Kept.of_below hbel) hbw (hc x hxl))
          have hbwr : b < wr.heap.size := by omega
          have HKA := Lib.hid (show h[x].a.kind = 6 → 0 ≤ h[x].a.n ∧ h[x].a.n < h.length from fun h6 => heap_a HHB.out hxl h6)
          have HKB := Lib.hid (show h[x].b.kind = 6 → 0 ≤ h[x].b.n ∧ h[x].b.n < h.length from fun h6 => heap_b HHB.out hxl h6)
          have HSA := Lib.hid (show h[x].a.kind = 6 → h[x].a.s.toList = [] from fun h6 => heap_as HHB.out hxl h6)
          have HSB := Lib.hid (show h[x].b.kind = 6 → h[x].b.s.toList = [] from fun h6 => heap_bs HHB.out hxl h6)
          clear hc hR0
          generalize h[x] = y at *
          generalize hcp : cpAt h o0 k = pc at *
          obtain ⟨O, C⟩ := pc
          simp only at *
          clear hcp
          generalize u10 = out at *
          have HNW := Lib.hid hnow
          have HOU := Lib.hid hout
          have hkO : (k : Int) < (O.length : Int) := by omega
          have hkh : k + 1 ≤ h.length := by omega
          have hxL : (x : Int) < (h.length : Int) := by omega
          have hx0 : (0 : Int) ≤ (x : Int) := by omega
          have hk0 : (0 : Int) ≤ (k : Int) := by omega
          have HT := Lib.hid hT
          have HMA := fun (W : World) (hW : ToIs w.heap.size W0.heap.size w.heap.size h.length O (.slice (some ⟨og, 0, none⟩) O.length oc) W) (hBW : w.heap.size ≤ W.heap.size) => Lib.hid (sMove w.heap.size W0.heap.size w.heap.size h.length O _ y.a W hW HO.out HKA.out hl4 hBW HSA.out)
          have HO2 := Lib.hid (show OrdOk h.length (mvO O y.a) from mvO_ok HO.out (fun h6 => by have := HKA.out h6; omega))
          have HMB := fun (ov : Value) (W : World) (hW : ToIs w.heap.size W0.heap.size w.heap.size h.length (mvO O y.a) ov W) (hBW : w.heap.size ≤ W.heap.size) => Lib.hid (sMove w.heap.size W0.heap.size w.heap.size h.length (mvO O y.a) ov y.b W hW HO2.out HKB.out hl4 hBW HSB.out)
          clear hT hnow hout hol
          go_wp2_with fail
          refine hp_gen (P := fun W => Calls _ _ _ W _) _ ?_
          intro WA hWA
          have kA : Below wr.heap.size wr WA := by rw [hWA]; exact Joins.below_alloc1 _ _
          have bxA : WA.heap[wr.heap.size]? = some (.cells #[.int .i64 y.kind, .int .i64 y.n, .string y.s, .int .i64 y.a.kind, .int .i64 y.a.n, .string y.a.s, .int .i64 y.b.kind, .int .i64 y.b.n, .string y.b.s] 55 (0, 0)) := by rw [hWA]; exact hp_al _ _ rfl
          clear hWA e0 f0 f1 f2 f3 f4 f5 f6 f7 f8 bt0
          have hTA := HT.out.below kA
          have hBA := below_tr hbel kA
          have hOA := own_belN HOU.out kA
          have hNA := own_belN HNW.out kA
          refine (HMA _ hTA hBA.size).out.mono ?_
          rintro e w1 ⟨ov1, rfl, hT1, hK1, hat1, hb1⟩
          have hne1 := hp_ne hTA.own bxA (by decide)
          have hT1x := hp_ne hT1.own (hK1 _ (hp_lt bxA) (by omega) (by omega) hne1 |>.trans bxA) (by decide)
          have bx1 := (hK1 _ (hp_lt bxA) (by omega) (by omega) hne1).trans bxA
          have hO1 := own_blkN hOA (fun g' e => hK1 g' (hOA.lt g' e).2 (fun he => hp_ne hOA hTA.box (by decide) (he ▸ e)) (fun he => hog (he ▸ e)) (hp_two hTA.own hOA (by decide) e))
          have hN1 := own_blkN hNA (fun g' e => hK1 g' (hNA.lt g' e).2 (fun he => hp_ne hNA hTA.box (by decide) (he ▸ e)) (fun he => hng (he ▸ e)) (hp_two hTA.own hNA (by decide) e))
          have hB1 := hBA.trans hb1
          have hoB : out.ownBlock ≠ some wr.heap.size := fun e => by have := (HOU.out.lt _ e).2; omega
          have hnB : nv.ownBlock ≠ some wr.heap.size := fun e => by have := (HNW.out.lt _ e).2; omega
          generalize hya : mvV O y.a = ya at *
          clear hTA hBA hOA hNA hK1 hat1 hb1 kA bxA hne1 hya
          have p10 := hp_cell bx1 0
          have p13 := hp_cell bx1 3
          have p14 := hp_cell bx1 4
          have p15 := hp_cell bx1 5
          have p16 := hp_cell bx1 6
          have p17 := hp_cell bx1 7
          have p18 := hp_cell bx1 8
          have q13 := hp_fr bx1 3
          have q14 := hp_fr bx1 4
          have q15 := hp_fr bx1 5
          simp at p10 p13 p14 p15 p16 p17 p18
          go_wp2_with fail
          refine hp_gen (P := fun W => Calls _ _ _ W _) _ ?_
          intro W2 hW2
          have h2 : ∀ k, k ≠ wr.heap.size → W2.heap[k]? = w1.heap[k]? := fun k hk => by rw [hW2]; exact (Below.heap_setCell _ _ _ _ hk).trans ((Below.heap_setCell _ _ _ _ hk).trans (Below.heap_setCell _ _ _ _ hk))
          have s2 : W2.heap.size = w1.heap.size := by rw [hW2]; simp only [setCell_size]
          have hB2 : Below w.heap.size w W2 := by rw [hW2]; exact ((hB1.setCell (by exact hsz) _).setCell (by exact hsz) _).setCell (by exact hsz) _
          have bx2 : W2.heap[wr.heap.size]? = some (.cells #[.int .i64 y.kind, .int .i64 y.n, .string y.s, .int .i64 ya.kind, .int .i64 ya.n, .string ya.s, .int .i64 y.b.kind, .int .i64 y.b.n, .string y.b.s] 55 (0, 0)) := by
            rw [hW2]
            have := hp_put (i := 5) (u := .string ya.s) (hp_put (i := 4) (u := .int .i64 ya.n) (hp_put (i := 3) (u := .int .i64 ya.kind) bx1))
            simpa using this
          have hTn : W0.heap.size ≠ wr.heap.size := by omega
          have hgn : w.heap.size ≠ wr.heap.size := by omega
          have hT2 := hT1.blk (by omega) (h2 _ hTn) (h2 _ hgn) (fun b' e => h2 b' (fun he => hT1x (he ▸ e)))
          have hO2 := own_blkN hO1 (fun g' e => h2 g' (fun he => hoB (he ▸ e)))
          have hN2 := own_blkN hN1 (fun g' e => h2 g' (fun he => hnB (he ▸ e)))
          clear hW2 h2 hT1 hO1 hN1 hB1 bx1 p10 p13 p14 p15 p16 p17 p18 q13 q14 q15 hT1x s2
          refine (HMB _ _ hT2 hB2.size).out.mono ?_
          rintro e w3 ⟨ov3, rfl, hT3, hK3, hat3, hb3⟩
          have hne3 := hp_ne hT2.own bx2 (by decide)
          have bx3 := (hK3 _ (hp_lt bx2) hTn.symm hgn.symm hne3).trans bx2
          have hT3x := hp_ne hT3.own bx3 (by decide)
          have hO3 := own_blkN hO2 (fun g' e => hK3 g' (hO2.lt g' e).2 (fun he => hp_ne hO2 hT2.box (by decide) (he ▸ e)) (fun he => hog (he ▸ e)) (hp_two hT2.own hO2 (by decide) e))
          have hN3 := own_blkN hN2 (fun g' e => hK3 g' (hN2.lt g' e).2 (fun he => hp_ne hN2 hT2.box (by decide) (he ▸ e)) (fun he => hng (he ▸ e)) (hp_two hT2.own hN2 (by decide) e))
          have hB3 := hB2.trans hb3
          generalize hyb : mvV (mvO O y.a) y.b = yb at *
          clear hT2 hO2 hN2 hK3 hat3 hb3 bx2 hne3 hyb hB2 HMA HMB
          have p13 := hp_cell bx3 3
          have p16 := hp_cell bx3 6
          have p17 := hp_cell bx3 7
          have p18 := hp_cell bx3 8
          have q16 := hp_fr bx3 6
          have q17 := hp_fr bx3 7
          have q18 := hp_fr bx3 8
          simp at p13 p16 p17 p18
          go_upto_region 15 with fail
          refine hp_gen (P := fun W => Code.wp _ _ _ _ W) _ ?_
          intro W4 hW4
          have h4 : ∀ k, k ≠ wr.heap.size → W4.heap[k]? = w3.heap[k]? := fun k hk => by rw [hW4]; exact (Below.heap_setCell _ _ _ _ hk).trans ((Below.heap_setCell _ _ _ _ hk).trans (Below.heap_setCell _ _ _ _ hk))
          have s4 : W4.heap.size = w3.heap.size := by rw [hW4]; simp only [setCell_size]
          have hB4 : Below w.heap.size w W4 := by rw [hW4]; exact ((hB3.setCell (by exact hsz) _).setCell (by exact hsz) _).setCell (by exact hsz) _
          have bx4 : W4.heap[wr.heap.size]? = some (.cells #[.int .i64 y.kind, .int .i64 y.n, .string y.s, .int .i64 ya.kind, .int .i64 ya.n, .string ya.s, .int .i64 yb.kind, .int .i64 yb.n, .string yb.s] 55 (0, 0)) := by
            rw [hW4]
            have := hp_put (i := 8) (u := .string yb.s) (hp_put (i := 7) (u := .int .i64 yb.n) (hp_put (i := 6) (u := .int .i64 yb.kind) bx3))
            simpa using this
          have hT4 := hT3.blk (by omega) (h4 _ hTn) (h4 _ hgn) (fun b' e => h4 b' (fun he => hT3x (he ▸ e)))
          have hO4 := own_blkN hO3 (fun g' e => h4 g' (fun he => hoB (he ▸ e)))
          have hN4 := own_blkN hN3 (fun g' e => h4 g' (fun he => hnB (he ▸ e)))
          clear hW4 h4 hT3 hO3 hN3 hB3 bx3 p13 p16 p17 p18 q16 q17 q18 hT3x s4
          have p40 := hp_cell bx4 0
          have p41 := hp_cell bx4 1
          have p42 := hp_cell bx4 2
          have p43 := hp_cell bx4 3
          have p44 := hp_cell bx4 4
          have p45 := hp_cell bx4 5
          have p46 := hp_cell bx4 6
          have p47 := hp_cell bx4 7
          have p48 := hp_cell bx4 8
          simp at p40 p41 p42 p43 p44 p45 p46 p47 p48
          have h63 : k + 1 ≤ maxLen := by unfold maxLen; omega
          have hby : (k + 1) * 96 ≤ 140737488355328 := by omega
          have hsz4 := hB4.size
          go_wp2_with (at_builtin; refine wpList_append_own_at _ rfl (.tmp 62) (.tmp 64) 23 rfl w.heap.size 55 kk (.agg #[.int .i64 0, .int .i64 0, .string ⟨#[]⟩, .int .i64 0, .int .i64 0, .string ⟨#[]⟩, .int .i64 0, .int .i64 0, .string ⟨#[]⟩]) 9 96 Try.underlying23 ci cz0 cz1 cz2 rfl (by decide) _ k (cc C) rfl (hO4.alloc _) ⟨W4.heap.size, 0, none⟩ 1 1 (cc [⟨y.kind, y.n, y.s, ya, yb⟩]) rfl rfl (new_cells _ _ _ _ rfl) (cc_cell _) h63 hby (by simp; omega) ?_; intro v2 w7 hown7 hgrow7 _ hat7)
          have R := own_grow hO4 hB4 (Nat.le_refl _) hsz4 hgrow7
          have hT5 := hT4.below (Joins.below_alloc1 W4 (.cells #[.int .i64 y.kind, .int .i64 y.n, .string y.s, .int .i64 ya.kind, .int .i64 ya.n, .string ya.s, .int .i64 yb.kind, .int .i64 yb.n, .string yb.s] 55))
          have hN5 := own_belN hN4 (Joins.below_alloc1 W4 (.cells #[.int .i64 y.kind, .int .i64 y.n, .string y.s, .int .i64 ya.kind, .int .i64 ya.n, .string ya.s, .int .i64 yb.kind, .int .i64 yb.n, .string yb.s] 55))
          have hT7 := hT5.blk hgrow7.size (hgrow7.block _ (hp_lt hT5.box) (fun e => hp_ne hO4 hT4.box (by decide) e.symm)) (hgrow7.block _ hT5.lt (fun e => hog e.symm)) (fun b' e => hgrow7.block _ (hT5.own.lt b' e).2 (fun e' => hp_two hO4 hT4.own (by decide) e e'.symm))
          have hN7 := own_blkN hN5 (fun b' e => hgrow7.block _ (hN5.lt b' e).2 (fun e' => hp_two hO4 hN4 (by decide) e e'.symm))
          have hog7 : v2.ownBlock ≠ some w.heap.size := by
            rcases hat7 with e | e
            · rw [e]; exact hog
            · rw [e]; simp; omega
          rw [← cc_app] at hown7
          have HCl2 := Lib.hid (show (C ++ [(⟨y.kind, y.n, y.s, ya, yb⟩ : Ce)]).length = k + 1 from by rw [List.length_append, HCl.out]; rfl)
          clear hgrow7 hat7 hT5 hT4 hO4 hog hB4 hN5 hN4
          go_wp2
          go_roundw
          case rel => exact ⟨k + 1, ov3, by go_num, by omega, by rw [HNX2.out]; exact hT7, by rw [HNX2.out]; exact HCl2, by rw [HNX2.out]; exact hown7, hog7, hN7, R.1⟩
          case measure => simp [intOf]; omega
        · have hke : (cpAt h o0 k).1.length ≤ k := by omega
          have HE := Lib.hid (show resCopy h r = ((cpAt h o0 k).2, V) from by
            have := HEN.out hke (h.length - k)
            rw [show k + (h.length - k) = h.length by omega] at this
            rw [HRr.out, this])
          clear HNX HEN HCK HRr
          generalize cpAt h o0 k = pc at *
          obtain ⟨O, C⟩ := pc
          simp only at *
          have hkO : decide ((k : Int) < (O.length : Int)) = false := by simp; omega
          have HR1 := Lib.hid (show (resCopy h r).1 = C from by rw [HE.out])
          have HR2 := Lib.hid (show (resCopy h r).2 = V from by rw [HE.out])
          have HOU := Lib.hid hout
          have HNW := Lib.hid hnow
          clear hout hnow ho hol
          go_wp2
          refine bodyPost_ret (v := .tuple #[u10, nv]) (by simp [results, Try.results51, go_sem]) rfl ⟨_, _, rfl, ?_, ?_, hbel⟩
          · rw [HR1.out, HCl.out]; exact HOU.out
          · rw [HR2.out, HVl.out]; exact HNW.out
/-- Copied cells are right ones. -/
theorem cpAt_cells {h : List Ce} {r : List Vl} {o0 : List Nat} (hb : heapB h r = true) (h0 : OrdOk h.length o0) (hc : ∀ x ∈ h, CeOk x) : ∀ k, ∀ x ∈ (cpAt h o0 k).2, CeOk x
  | 0 => by intro x hx; simp [cpAt] at hx
  | k + 1 => by
    have ih := cpAt_cells hb h0 hc k
    have io := cpAt_ok hb h0 k
    have hl4 := heap_len hb
    rw [cpAt]
    split
    · exact ih
    · split
      · exact ih
      · rename_i x hx _ c hc'
        obtain ⟨hl, rfl⟩ := List.getElem?_eq_some_iff.1 hc'
        obtain ⟨c0, c1, c2, c3, c4⟩ := hc _ (List.getElem_mem hl)
        have o1 : OrdOk h.length (mvO (cpAt h o0 k).1 h[x].a) := mvO_ok io fun h6 => by have := heap_a hb hl h6; omega
        have o2 : OrdOk h.length (mvO (mvO (cpAt h o0 k).1 h[x].a) h[x].b) := mvO_ok o1 fun h6 => by have := heap_b hb hl h6; omega
        intro y hy
        rcases List.mem_append.1 hy with hy | hy
        · exact ih y hy
        · rw [List.mem_singleton] at hy
          subst hy
          exact ⟨c0, c1, c2, mvV_ok o1 hl4 c3, mvV_ok o2 hl4 c4⟩
theorem rootsV_vals {h : List Ce} {r : List Vl} (hb : heapB h r = true) (hv : ∀ x ∈ r, VlOk x) : ∀ k, k ≤ r.length → ∀ x ∈ rootsV [] (r.take k), VlOk x
  | 0, _ => by intro x hx; simp [rootsV] at hx
  | k + 1, hk => by
    have ih := rootsV_vals hb hv k (by omega)
    have io := rootsO_ok hb (k + 1) hk
    have e := List.take_succ_eq_append_getElem (show k < r.length by omega)
    rw [e, rootsV_snoc]
    rw [e, rootsO_snoc] at io
    intro y hy
    rcases List.mem_append.1 hy with hy | hy
    · exact ih y hy
    · rw [List.mem_singleton] at hy
      subst hy
      exact mvV_ok io (heap_len hb) (hv _ (List.getElem_mem _))
theorem resCopy_ok {h : List Ce} {r : List Vl} (hc : ∀ x ∈ h, CeOk x) (hv : ∀ x ∈ r, VlOk x) : (∀ x ∈ (resCopy h r).1, CeOk x) ∧ (∀ x ∈ (resCopy h r).2, VlOk x) := by
  unfold resCopy
  split
  · rename_i hb
    have h1 := rootsV_vals hb hv r.length (Nat.le_refl _)
    have h2 := rootsO_ok hb r.length (Nat.le_refl _)
    rw [List.take_length] at h1 h2
    exact ⟨cpAt_cells hb h2 hc _, h1⟩
  · exact ⟨by simp, by simp⟩
theorem ce_ok_of {w : World} {v : Value} {l : List Ce} (h : RowRd 9 CeEl w v l) : ∀ x ∈ l, CeOk x := by
  obtain ⟨a, c, -, -, hc⟩ := h.form
  intro x hx
  obtain ⟨i, hi, rfl⟩ := List.getElem_of_mem hx
  obtain ⟨b, o, -, -, hc⟩ := hc (by omega)
  obtain ⟨-, i0, i1, i2, i3, i4, i5, i6, i7, i8⟩ := ce_at (hc i hi)
  exact ⟨i0, i1, i2, ⟨i3, i4, i5⟩, ⟨i6, i7, i8⟩⟩
theorem vl_ok_of {w : World} {v : Value} {l : List Vl} (h : RowRd 3 VlEl w v l) : ∀ x ∈ l, VlOk x := by
  obtain ⟨a, c, -, -, hc⟩ := h.form
  intro x hx
  obtain ⟨i, hi, rfl⟩ := List.getElem_of_mem hx
  obtain ⟨b, o, -, -, hc⟩ := hc (by omega)
  obtain ⟨⟨-, i0⟩, ⟨-, i1⟩, ⟨-, i2⟩⟩ := hc i hi
  exact ⟨i0, i1, i2⟩
/-- What Copy hands back. -/
def CopyPost (h : List Ce) (r : List Vl) (w : World) (e : Ending) (w' : World) : Prop :=
  ∃ u v F G, e = .returned (.tuple #[u, v]) ∧ RowOwn 9 CeOwn w' u (resCopy h r).1 F ∧ RowOwn 3 VlOwn w' v (resCopy h r).2 G ∧ (∀ g ∈ F ++ G, w.heap.size ≤ g) ∧ (F ++ G).Nodup ∧ Below w.heap.size w w'
theorem own_flat1 {α : Type} {n : Nat} {R : ElRd α} {w : World} {v : Value} {l : List α} {F : List Nat} (h : RowOwn n (Flat R) w v l F) : F = [] ∨ ∃ g, F = [g] ∧ v.ownBlock = some g := by
  rcases h with ⟨_, rfl, _⟩ | ⟨g, cap, Fs, h1, h2, h3, h4, h5, h6, rfl, h8⟩
  · exact .inl rfl
  · right
    refine ⟨g, ?_, by rw [h1]; rfl⟩
    have : Fs.flatten = [] := by
      rw [List.flatten_eq_nil_iff]
      intro F hF
      obtain ⟨i, hi, rfl⟩ := List.getElem_of_mem hF
      exact (h8 i (by omega) hi).1
    rw [this]
theorem copy_post {h : List Ce} {r : List Vl} {w w1 w' : World} {e : Ending} (hc : ∀ x ∈ h, CeOk x) (hv : ∀ x ∈ r, VlOk x) (H : CopyRes h r w1 e w') (hb : Below w.heap.size w w1) : CopyPost h r w e w' := by
  obtain ⟨u, v, rfl, ho, hn, hbel⟩ := H
  obtain ⟨F, hF, hF0, hFn⟩ := own_cells ho (resCopy_ok hc hv).1
  obtain ⟨G, hG, hG0, hGn⟩ := own_vals hn (resCopy_ok hc hv).2
  refine ⟨u, v, F, G, rfl, hF, hG, fun g hg => ?_, List.nodup_append.2 ⟨hFn, hGn, fun a ha b hb' => ?_⟩, below_tr hb hbel⟩
  · have := hb.size
    rcases List.mem_append.1 hg with hg | hg
    · have := hF0 g hg; omega
    · have := hG0 g hg; omega
  · intro e
    subst e
    rcases own_flat1 hF with rfl | ⟨g, rfl, e1⟩
    · simp at ha
    · rcases own_flat1 hG with rfl | ⟨g2, rfl, e2⟩
      · simp at hb'
      · rw [List.mem_singleton] at ha hb'
        subst ha hb'
        exact hp_two ho hn (by decide) e2 e1
set_option maxHeartbeats 1000000 in
theorem sCopyC (h : List Ce) (r : List Vl) (v0 v1 : Value) (w : World) (h0 : RowRd 9 CeEl w v0 h) (h1 : RowRd 3 VlEl w v1 r) (hz0 : bulkL bCe h ≤ 1048576) (hz1 : bulkL bVl r ≤ 1048576) :
    Calls Try.prog 26 #[v0, v1] w (CopyPost h r w) := by
  have hrl := Nat.le_trans (bulkL_len bVl r) hz1
  have HCO := Lib.hid (ce_ok_of h0)
  have HVO := Lib.hid (vl_ok_of h1)
  have HOK := Lib.hid (sHeapOk h r v0 v1 w h0 h1)
  have HCP := fun (hb : heapB h r = true) W (hW : Below w.heap.size w W) => Lib.hid (sCopyL h r v0 v1 W (h0.kept CeEl.st (Kept.of_below hW)) (h1.kept VlEl.st (Kept.of_below hW)) hb hrl)
  obtain ⟨a0, c0, rfl, hm0, -⟩ := h0.form
  obtain ⟨a1, c1, rfl, hm1, -⟩ := h1.form
  clear h0 h1
  cases hb : heapB h r
  · rw [hb] at HOK
    have HR := Lib.hid (show resCopy h r = ([], []) from by simp [resCopy, hb])
    clear HCP
    go_enter Try.func26, Try.ntmps26
    go_wp2_with fail
    refine HOK.out.mono ?_
    rintro e w1 ⟨rfl, hb1⟩
    go_wp2
    refine bodyPost_ret (v := .tuple #[.slice none 0 0, .slice none 0 0]) (by simp [results, Try.results26, go_sem]) rfl ?_
    refine ⟨_, _, [], [], rfl, ?_, ?_, by simp, by simp, hb1⟩
    · rw [HR.out]; exact .inl ⟨rfl, rfl, _, _, rfl⟩
    · rw [HR.out]; exact .inl ⟨rfl, rfl, _, _, rfl⟩
  · rw [hb] at HOK
    have HCP2 := fun W hW => HCP hb W hW
    clear HCP hb
    go_enter Try.func26, Try.ntmps26
    go_wp2_with fail
    refine HOK.out.mono ?_
    rintro e w1 ⟨rfl, hb1⟩
    go_wp2_with fail
    refine (HCP2 _ hb1).out.mono ?_
    rintro e w2 hres
    have HP := Lib.hid (copy_post HCO.out HVO.out hres hb1)
    obtain ⟨u, v, rfl, -⟩ := hres
    go_wp2
    exact bodyPost_ret (v := .tuple #[u, v]) (by simp [results, Try.results26, go_sem]) rfl HP.out
end Go.Proofs.Ytdhpmblhejcehaa
