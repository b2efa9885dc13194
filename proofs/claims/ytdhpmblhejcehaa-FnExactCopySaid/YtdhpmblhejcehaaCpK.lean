/- The program's copying of the roots. -/
import Derived.Test.YtdhpmblhejcehaaCpJ
import Derived.Test.YtdhpmblhejcehaaHqI
namespace Go.Proofs.Ytdhpmblhejcehaa
set_option linter.unusedVariables false
set_option maxRecDepth 100000
open Go.ChangeShapes Go.WideShapes Go.ChangeAt Go.RowKit Go.Maps Go.WideMaps

/-- Rows that came in read as they read while only newer blocks turn. -/
theorem rd_bel {α : Type} {n : Nat} {E : ElRd α} (hE : Loc n (Flat E)) {w w' : World} {B : Nat} {v : Value} {l : List α} (h : RowRd n E w v l) (hv : 0 < l.length → ∀ b, v.ownBlock = some b → b < B) (hb : Below B w w') (hs : w.heap.size ≤ w'.heap.size) : RowRd n E w' v l := by
  rcases h with h | ⟨b, o, cap, h1, h2, h3, h4, h5⟩
  · exact .inl h
  · exact .inr ⟨b, o, cap, h1, h2, Nat.lt_of_lt_of_le h3 hs, h4, fun i hi => (hE w w' b _ _ [] hs (fun j hj => hb.cell (p := ⟨b, o + i * n + j, none⟩) (hv h4 b (by rw [h1]; rfl))) (by simp) ⟨rfl, h5 i hi⟩).2⟩
/-- The cells of these places, as the old heap has them. -/
def oldC (h : List Ce) (o : List Nat) : List Ce := o.filterMap (h[·]?)
theorem oldC_app (h : List Ce) (o p : List Nat) : oldC h (o ++ p) = oldC h o ++ oldC h p := List.filterMap_append ..
theorem oldC_mv (h : List Ce) (o : List Nat) (v : Vl) : oldC h (mvO o v) = oldC h o ++ mvL h o v := by
  unfold mvO mvL
  split
  · rw [oldC_app]
    congr 1
  · simp
theorem mvO_app (o : List Nat) (v : Vl) : ∃ p, mvO o v = o ++ p := by
  unfold mvO
  split
  · exact ⟨_, rfl⟩
  · exact ⟨[], by simp⟩
theorem iCopied (B t mp : Nat) (h : List Ce) (hv : Value) (o : List Nat) (L : List Ce) (cv : Value) (D : DataW Unit) (v : Vl) (w : World) (hC : CpIs B t mp hv o L cv D w) (hB : B ≤ w.heap.size) (hr : RowRd 9 CeEl w hv h) (hrB : 0 < h.length → ∀ b, hv.ownBlock = some b → b < B) (hv6 : v.kind = 6 → 0 ≤ v.n ∧ v.n < h.length) (hl4 : h.length ≤ 4000) (hO : OrdOk h.length o) :
    Calls Try.prog 53 #[.pointer (some ⟨t, 0, none⟩), .agg #[.int .i64 v.kind, .int .i64 v.n, .string v.s]] w (CpdPost B t mp h hv o L cv v w) := by
  by_cases hc : v.kind = 6 ∧ v.n.toNat ∉ o
  · obtain ⟨k, n, s⟩ := v
    obtain ⟨hk, hx⟩ := hc
    simp only at hk hx hv6
    subst hk
    obtain ⟨n0, n1⟩ := hv6 rfl
    obtain ⟨x, rfl⟩ : ∃ x : Nat, n = (x : Int) := ⟨n.toNat, by omega⟩
    exact iCopiedNew B t mp h hv o L cv D x s w hC hB hr (hrB (by omega)) (by omega) hl4 (by simpa using hx) hO
  · exact iCopiedOld B t mp h hv o L cv D v w hC hB hv6 hl4 (fun hk => Classical.byContradiction fun hn => hc ⟨hk, hn⟩) hO
theorem e_copied : ∀ args w, (callFunc 53 args).run Try.prog w = .ok (.enter 53 args) w := enters_of Try.func53 (by kernel_rfl) rfl
set_option maxHeartbeats 1000000 in
theorem iMapCp (B t mp : Nat) (h : List Ce) (r : List Vl) (hv v1 cv0 : Value) (D0 : DataW Unit) (w : World) (hC : CpIs B t mp hv [] [] cv0 D0 w) (hB : B ≤ w.heap.size) (hr : RowRd 9 CeEl w hv h) (hrB : 0 < h.length → ∀ b, hv.ownBlock = some b → b < B) (h1 : RowRd 3 VlEl w v1 r) (h1B : 0 < r.length → ∀ b, v1.ownBlock = some b → b < B) (hb : heapB h r = true) (hrl : r.length ≤ 1048576) :
    Calls Try.prog 52 #[v1, .func (.func 53) #[.pointer (some ⟨t, 0, none⟩)] #[]] w fun e w' => ∃ u cv D, e = .returned u ∧ w'.ownsRow B 53 3 u r.length (vc (rootsV [] r)) ∧ CpIs B t mp hv (rootsO [] r) (oldC h (rootsO [] r)) cv D w' ∧ Below B w w' ∧ w.heap.size ≤ w'.heap.size := by
  obtain ⟨jj, hi, hz0, hz1, hz2⟩ := info_parts info_vl
  have h1r := h1
  obtain ⟨a1, c1, rfl, hm1, hR1⟩ := h1.form
  have HHB := Lib.hid hb
  have hl4 := heap_len hb
  unfold maxLen at hm1
  obtain ⟨w0, hmk, hown0, hgr0⟩ := run_make_own (P := Try.prog) w w.heap.size 24 53 jj (.agg #[.int .i64 0, .int .i64 0, .string ⟨#[]⟩]) 3 Try.underlying24 hi hz0 hz1 .i64 .i64 r.length (by rw [hz2]; omega) (by unfold maxLen; omega) (Nat.le_refl _)
  have hb0 : Below w.heap.size w w0 := (Below.refl _ _).grown hgr0 (Nat.le_refl _) (fun k hk => by simp at hk)
  have HC0 := Lib.hid (hC.below hb0)
  have HN0 := Lib.hid (own_mon hown0 hB)
  have HB0 := Lib.hid (hb0.mono hB)
  have hs0 := hb0.size
  have HRH := fun (W : World) (hW : Below B w W) (hs : w.heap.size ≤ W.heap.size) => Lib.hid (rd_bel CeOwn.loc hr hrB hW hs)
  have HR1 := fun (W : World) (hW : Below B w W) (hs : w.heap.size ≤ W.heap.size) => Lib.hid (rd_bel VlOwn.loc h1r h1B hW hs)
  clear hC hr h1 h1r hown0 hgr0 hb0 hb hR1
  go_enter Try.func52, Try.ntmps52
  go_wp2
  clear hmk
  go_loopw [5, 13] (fun u i wr => ∃ (k : Nat) (cv : Value) (D : DataW Unit), i = .int .i64 k ∧ k ≤ r.length ∧ CpIs B t mp hv (rootsO [] (r.take k)) (oldC h (rootsO [] (r.take k))) cv D wr ∧ wr.ownsRow B 53 3 u k (vc (rootsV [] (r.take k))) ∧ Below B w wr ∧ w.heap.size ≤ wr.heap.size) (fun _ i _ => r.length - (intOf i).toNat)
  case atStart => exact ⟨0, _, _, rfl, Nat.zero_le _, HC0.out, HN0.out, HB0.out, hs0⟩
  case round =>
    clear HC0 HN0 HB0 hs0
    obtain ⟨k, cv, D, rfl, hk, hC, hown, hbel, hsz⟩ := hrel
    by_cases hlt : k < r.length
    · obtain ⟨a', c', hform, -, hcs⟩ := (HR1 wr hbel hsz).out.form
      obtain ⟨b, o, ha', hbw, hc⟩ := hcs (by omega)
      cases hform
      subst ha'
      obtain ⟨⟨e0, i0⟩, ⟨e1, i1⟩, ⟨e2, i2⟩⟩ := hc k hlt
      have HO := Lib.hid (rootsO_ok HHB.out k hk)
      have HO2 := Lib.hid (show rootsO [] (r.take (k + 1)) = mvO (rootsO [] (r.take k)) r[k] from by rw [List.take_succ_eq_append_getElem hlt, rootsO_snoc])
      have HV2 := Lib.hid (show rootsV [] (r.take (k + 1)) = rootsV [] (r.take k) ++ [mvV (rootsO [] (r.take k)) r[k]] from by rw [List.take_succ_eq_append_getElem hlt, rootsV_snoc])
      have HRK := Lib.hid (show r[k].kind = 6 → 0 ≤ r[k].n ∧ r[k].n < h.length from fun h6 => heap_root HHB.out (List.getElem_mem hlt) h6)
      have HOC := Lib.hid (oldC_mv h (rootsO [] (r.take k)) r[k])
      clear hc hcs
      generalize r[k] = x at *
      generalize rootsO [] (r.take k) = O at *
      generalize rootsV [] (r.take k) = V at *
      generalize oldC h O = L at *
      have HMV := fun (W : World) (hW : CpIs B t mp hv O L cv D W) (hBW : B ≤ W.heap.size) (hbW : Below B w W) (hs : w.heap.size ≤ W.heap.size) => Lib.hid (iCopied B t mp h hv O L cv D x W hW hBW (HRH W hbW hs).out hrB HRK.out hl4 HO.out)
      go_wp2_with fail
      obtain ⟨Ob, hOb⟩ : ∃ O, O = Obj.cells #[.int .i64 x.kind, .int .i64 x.n, .string x.s] 53 := ⟨_, rfl⟩
      rw [← hOb]
      have hCa := hC.below (Joins.below_alloc1 wr Ob)
      have hownA := own_belN hown (Joins.below_alloc1 wr Ob)
      have hbelA := hbel.trans ((Joins.below_alloc1 wr Ob).mono (by omega))
      have hszA : w.heap.size ≤ (wr.alloc Ob).heap.size := by simp; omega
      clear hOb hC hown
      refine (HMV _ hCa (by omega) hbelA hszA).out.mono ?_
      rintro e w1 ⟨cv2, D2, rfl, hC2, hK2, -, hb2⟩
      have hown1 := own_blkN hownA (fun g' e => hK2 g' (hownA.lt g' e).2 (fun he => hp_ne hownA hCa.box (by decide) (he ▸ e)) (fun he => own_nomap hownA hCa.map (he ▸ e)) (hp_two hCa.own hownA (by decide) e))
      have hbel1 := hbelA.trans hb2
      have hsz1 : w.heap.size ≤ w1.heap.size := Nat.le_trans hszA hb2.size
      generalize mvV O x = y at *
      have h63 : k + 1 ≤ maxLen := by unfold maxLen; omega
      have hby : (k + 1) * 32 ≤ 140737488355328 := by omega
      have hBs1 : B ≤ w1.heap.size := by omega
      clear hCa hownA hbelA hK2 hb2 HMV e0 e1 e2 hbel HRH HR1 hszA
      go_wp2_with (at_builtin; refine wpList_append_own_at _ rfl (.tmp 17) (.tmp 21) 24 rfl B 53 jj (.agg #[.int .i64 0, .int .i64 0, .string ⟨#[]⟩]) 3 32 Try.underlying24 hi hz0 hz1 hz2 rfl (by decide) _ k (vc V) rfl (hown1.alloc _) ⟨w1.heap.size, 0, none⟩ 1 1 (vc [y]) rfl rfl (new_cells _ _ _ _ rfl) (vc_cell _) h63 hby (by simp; omega) ?_; intro v2 w7 hown7 hgrow7 _ hat7)
      have R := own_grow hown1 hbel1 (Nat.le_refl _) hBs1 hgrow7
      have hC3 := hC2.below (Joins.below_alloc1 w1 (.cells #[.int .i64 y.kind, .int .i64 y.n, .string y.s] 53))
      have hC7 := hC3.blk (hgrow7.block _ (hp_lt hC3.box) (fun e => hp_ne hown1 hC2.box (by decide) e.symm)) (hgrow7.block _ hC3.map.lt (fun e => own_nomap hown1 hC2.map e.symm)) (fun b' e => hgrow7.block _ (hC3.own.lt b' e).2 (fun e' => hp_two hown1 hC2.own (by decide) e e'.symm))
      have hsz7 : w.heap.size ≤ w7.heap.size := by have := hgrow7.size; simp at this; omega
      rw [← vc_app] at hown7
      clear hgrow7 hat7 hC3 hC2 hown1 hbel1
      go_roundw
      case rel => exact ⟨k + 1, cv2, D2, by go_num, by omega, by rw [HO2.out, HOC.out]; exact hC7, by rw [HV2.out]; exact hown7, R.1, hsz7⟩
      case measure => simp [intOf]; omega
    · obtain rfl : k = r.length := by omega
      rw [List.take_length] at hC hown
      obtain ⟨ua, uc, rfl⟩ := own_slN hown
      have HCL := Lib.hid hC
      have HNL := Lib.hid hown
      clear hC hown HRH HR1
      go_wp2
      go_ret
      exact ⟨_, cv, D, rfl, HNL.out, HCL.out, hbel, hsz⟩
end Go.Proofs.Ytdhpmblhejcehaa
