/- Texts of this proof, merged: CpK, CpL, CpM. -/
import Derived.Test.YtdhpmblhejcehaaDoorCpJ
import Derived.Test.YtdhpmblhejcehaaDoorHqI
namespace Go.Proofs.YtdhpmblhejcehaaDoor
set_option linter.unusedVariables false
set_option maxRecDepth 100000
open Go.ChangeShapes Go.WideShapes Go.ChangeAt Go.RowKit Go.Maps Go.WideMaps

/-- Rows that came in read as they read while only newer blocks turn. -/
theorem rd_bel {α : Type} {n : Nat} {E : ElRd α} (hE : Loc n (Flat E)) {w w' : World} {B : Nat} {v : Value} {l : List α} (h : RowRd n E w v l) (hv : 0 < l.length → ∀ b, v.ownBlock = some b → b < B) (hb : Below B w w') (hs : w.heap.size ≤ w'.heap.size) : RowRd n E w' v l := by
  rcases h with h | ⟨b, o, cap, h1, h2, h3, h4, h5⟩
  · exact .inl h
  · exact .inr ⟨b, o, cap, h1, h2, Nat.lt_of_lt_of_le h3 hs, h4, fun i hi => (hE w w' b _ _ [] hs (fun j hj => hb.cell (p := ⟨b, o + i * n + j, none⟩) (hv h4 b (by rw [h1]; rfl))) (by simp) ⟨rfl, h5 i hi⟩).2⟩
/-- The cells of these places, as the old heap has them. -/
def oldC (h : List Ce) (o : List Nat) : List Ce := o.filterMap (h[·]?)
theorem oldC_app (h : List Ce) (o p : List Nat) : oldC h (o ++ p) = oldC h o ++ oldC h p := List.filterMap_append ..
theorem oldC_mv (h : List Ce) (o : List Nat) (v : Vl) : oldC h (mvO o v) = oldC h o ++ mvL h o v := by
  unfold mvO mvL
  split
  · rw [oldC_app]
    congr 1
  · simp
theorem mvO_app (o : List Nat) (v : Vl) : ∃ p, mvO o v = o ++ p := by
  unfold mvO
  split
  · exact ⟨_, rfl⟩
  · exact ⟨[], by simp⟩
theorem iCopied (B t mp : Nat) (h : List Ce) (hv : Value) (o : List Nat) (L : List Ce) (cv : Value) (D : DataW Unit) (v : Vl) (w : World) (hC : CpIs B t mp hv o L cv D w) (hB : B ≤ w.heap.size) (hr : RowRd 9 CeEl w hv h) (hrB : 0 < h.length → ∀ b, hv.ownBlock = some b → b < B) (hv6 : v.kind = 6 → 0 ≤ v.n ∧ v.n < h.length) (hl4 : h.length ≤ 4000) (hO : OrdOk h.length o) :
    Calls Tryd.prog 21 #[.pointer (some ⟨t, 0, none⟩), .agg #[.int .i64 v.kind, .int .i64 v.n, .string v.s]] w (CpdPost B t mp h hv o L cv v w) := by
  by_cases hc : v.kind = 6 ∧ v.n.toNat ∉ o
  · obtain ⟨k, n, s⟩ := v
    obtain ⟨hk, hx⟩ := hc
    simp only at hk hx hv6
    subst hk
    obtain ⟨n0, n1⟩ := hv6 rfl
    obtain ⟨x, rfl⟩ : ∃ x : Nat, n = (x : Int) := ⟨n.toNat, by omega⟩
    exact iCopiedNew B t mp h hv o L cv D x s w hC hB hr (hrB (by omega)) (by omega) hl4 (by simpa using hx) hO
  · exact iCopiedOld B t mp h hv o L cv D v w hC hB hv6 hl4 (fun hk => Classical.byContradiction fun hn => hc ⟨hk, hn⟩) hO
theorem e_copied : ∀ args w, (callFunc 21 args).run Tryd.prog w = .ok (.enter 21 args) w := enters_of Tryd.func21 (by kernel_rfl) rfl
set_option maxHeartbeats 1000000 in
theorem iMapCp (B t mp : Nat) (h : List Ce) (r : List Vl) (hv v1 cv0 : Value) (D0 : DataW Unit) (w : World) (hC : CpIs B t mp hv [] [] cv0 D0 w) (hB : B ≤ w.heap.size) (hr : RowRd 9 CeEl w hv h) (hrB : 0 < h.length → ∀ b, hv.ownBlock = some b → b < B) (h1 : RowRd 3 VlEl w v1 r) (h1B : 0 < r.length → ∀ b, v1.ownBlock = some b → b < B) (hb : heapB h r = true) (hrl : r.length ≤ 1048576) :
    Calls Tryd.prog 20 #[v1, .func (.func 21) #[.pointer (some ⟨t, 0, none⟩)] #[]] w fun e w' => ∃ u cv D, e = .returned u ∧ w'.ownsRow B 33 3 u r.length (vc (rootsV [] r)) ∧ CpIs B t mp hv (rootsO [] r) (oldC h (rootsO [] r)) cv D w' ∧ Below B w w' ∧ w.heap.size ≤ w'.heap.size := by
  obtain ⟨jj, hi, hz0, hz1, hz2⟩ := info_parts info_vl
  have h1r := h1
  obtain ⟨a1, c1, rfl, hm1, hR1⟩ := h1.form
  have HHB := Lib.hid hb
  have hl4 := heap_len hb
  unfold maxLen at hm1
  obtain ⟨w0, hmk, hown0, hgr0⟩ := run_make_own (P := Tryd.prog) w w.heap.size 24 33 jj (.agg #[.int .i64 0, .int .i64 0, .string ⟨#[]⟩]) 3 Tryd.underlying24 hi hz0 hz1 .i64 .i64 r.length (by rw [hz2]; omega) (by unfold maxLen; omega) (Nat.le_refl _)
  have hb0 : Below w.heap.size w w0 := (Below.refl _ _).grown hgr0 (Nat.le_refl _) (fun k hk => by simp at hk)
  have HC0 := Lib.hid (hC.below hb0)
  have HN0 := Lib.hid (own_mon hown0 hB)
  have HB0 := Lib.hid (hb0.mono hB)
  have hs0 := hb0.size
  have HRH := fun (W : World) (hW : Below B w W) (hs : w.heap.size ≤ W.heap.size) => Lib.hid (rd_bel CeOwn.loc hr hrB hW hs)
  have HR1 := fun (W : World) (hW : Below B w W) (hs : w.heap.size ≤ W.heap.size) => Lib.hid (rd_bel VlOwn.loc h1r h1B hW hs)
  clear hC hr h1 h1r hown0 hgr0 hb0 hb hR1
  go_enter Tryd.func20, Tryd.ntmps20
  go_wp2
  clear hmk
  go_loopw [5, 13] (fun u i wr => ∃ (k : Nat) (cv : Value) (D : DataW Unit), i = .int .i64 k ∧ k ≤ r.length ∧ CpIs B t mp hv (rootsO [] (r.take k)) (oldC h (rootsO [] (r.take k))) cv D wr ∧ wr.ownsRow B 33 3 u k (vc (rootsV [] (r.take k))) ∧ Below B w wr ∧ w.heap.size ≤ wr.heap.size) (fun _ i _ => r.length - (intOf i).toNat)
  case atStart => exact ⟨0, _, _, rfl, Nat.zero_le _, HC0.out, HN0.out, HB0.out, hs0⟩
  case round =>
    clear HC0 HN0 HB0 hs0
    obtain ⟨k, cv, D, rfl, hk, hC, hown, hbel, hsz⟩ := hrel
    by_cases hlt : k < r.length
    · obtain ⟨a', c', hform, -, hcs⟩ := (HR1 wr hbel hsz).out.form
      obtain ⟨b, o, ha', hbw, hc⟩ := hcs (by omega)
      cases hform
      subst ha'
      obtain ⟨⟨e0, i0⟩, ⟨e1, i1⟩, ⟨e2, i2⟩⟩ := hc k hlt
      have HO := Lib.hid (rootsO_ok HHB.out k hk)
      have HO2 := Lib.hid (show rootsO [] (r.take (k + 1)) = mvO (rootsO [] (r.take k)) r[k] from by rw [List.take_succ_eq_append_getElem hlt, rootsO_snoc])
      have HV2 := Lib.hid (show rootsV [] (r.take (k + 1)) = rootsV [] (r.take k) ++ [mvV (rootsO [] (r.take k)) r[k]] from by rw [List.take_succ_eq_append_getElem hlt, rootsV_snoc])
      have HRK := Lib.hid (show r[k].kind = 6 → 0 ≤ r[k].n ∧ r[k].n < h.length from fun h6 => heap_root HHB.out (List.getElem_mem hlt) h6)
      have HOC := Lib.hid (oldC_mv h (rootsO [] (r.take k)) r[k])
      clear hc hcs
      generalize r[k] = x at *
      generalize rootsO [] (r.take k) = O at *
      generalize rootsV [] (r.take k) = V at *
      generalize oldC h O = L at *
      have HMV := fun (W : World) (hW : CpIs B t mp hv O L cv D W) (hBW : B ≤ W.heap.size) (hbW : Below B w W) (hs : w.heap.size ≤ W.heap.size) => Lib.hid (iCopied B t mp h hv O L cv D x W hW hBW (HRH W hbW hs).out hrB HRK.out hl4 HO.out)
      go_wp2_with fail
      obtain ⟨Ob, hOb⟩ : ∃ O, O = Obj.cells #[.int .i64 x.kind, .int .i64 x.n, .string x.s] 33 := ⟨_, rfl⟩
      rw [← hOb]
      have hCa := hC.below (Joins.below_alloc1 wr Ob)
      have hownA := own_belN hown (Joins.below_alloc1 wr Ob)
      have hbelA := hbel.trans ((Joins.below_alloc1 wr Ob).mono (by omega))
      have hszA : w.heap.size ≤ (wr.alloc Ob).heap.size := by simp; omega
      clear hOb hC hown
      refine (HMV _ hCa (by omega) hbelA hszA).out.mono ?_
      rintro e w1 ⟨cv2, D2, rfl, hC2, hK2, -, hb2⟩
      have hown1 := own_blkN hownA (fun g' e => hK2 g' (hownA.lt g' e).2 (fun he => hp_ne hownA hCa.box (by decide) (he ▸ e)) (fun he => own_nomap hownA hCa.map (he ▸ e)) (hp_two hCa.own hownA (by decide) e))
      have hbel1 := hbelA.trans hb2
      have hsz1 : w.heap.size ≤ w1.heap.size := Nat.le_trans hszA hb2.size
      generalize mvV O x = y at *
      have h63 : k + 1 ≤ maxLen := by unfold maxLen; omega
      have hby : (k + 1) * 32 ≤ 140737488355328 := by omega
      have hBs1 : B ≤ w1.heap.size := by omega
      clear hCa hownA hbelA hK2 hb2 HMV e0 e1 e2 hbel HRH HR1 hszA
      go_wp2_with (at_builtin; refine wpList_append_own_at _ rfl (.tmp 17) (.tmp 21) 24 rfl B 33 jj (.agg #[.int .i64 0, .int .i64 0, .string ⟨#[]⟩]) 3 32 Tryd.underlying24 hi hz0 hz1 hz2 rfl (by decide) _ k (vc V) rfl (hown1.alloc _) ⟨w1.heap.size, 0, none⟩ 1 1 (vc [y]) rfl rfl (new_cells _ _ _ _ rfl) (vc_cell _) h63 hby (by simp; omega) ?_; intro v2 w7 hown7 hgrow7 _ hat7)
      have R := own_grow hown1 hbel1 (Nat.le_refl _) hBs1 hgrow7
      have hC3 := hC2.below (Joins.below_alloc1 w1 (.cells #[.int .i64 y.kind, .int .i64 y.n, .string y.s] 33))
      have hC7 := hC3.blk (hgrow7.block _ (hp_lt hC3.box) (fun e => hp_ne hown1 hC2.box (by decide) e.symm)) (hgrow7.block _ hC3.map.lt (fun e => own_nomap hown1 hC2.map e.symm)) (fun b' e => hgrow7.block _ (hC3.own.lt b' e).2 (fun e' => hp_two hown1 hC2.own (by decide) e e'.symm))
      have hsz7 : w.heap.size ≤ w7.heap.size := by have := hgrow7.size; simp at this; omega
      rw [← vc_app] at hown7
      clear hgrow7 hat7 hC3 hC2 hown1 hbel1
      go_roundw
      case rel => exact ⟨k + 1, cv2, D2, by go_num, by omega, by rw [HO2.out, HOC.out]; exact hC7, by rw [HV2.out]; exact hown7, R.1, hsz7⟩
      case measure => simp [intOf]; omega
    · obtain rfl : k = r.length := by omega
      rw [List.take_length] at hC hown
      obtain ⟨ua, uc, rfl⟩ := own_slN hown
      have HCL := Lib.hid hC
      have HNL := Lib.hid hown
      clear hC hown HRH HR1
      go_wp2
      go_ret
      exact ⟨_, cv, D, rfl, HNL.out, HCL.out, hbel, hsz⟩
end Go.Proofs.YtdhpmblhejcehaaDoor
namespace Go.Proofs.YtdhpmblhejcehaaDoor
set_option linter.unusedVariables false
set_option maxRecDepth 100000
open Go.ChangeShapes Go.WideShapes Go.ChangeAt Go.RowKit Go.Maps Go.WideMaps

theorem own_set1 {B e n m : Nat} {w : World} {g cap : Nat} {xs : List Value} (h : w.ownsRow B e m (.slice (some ⟨g, 0, none⟩) n cap) n xs) (i : Nat) (u : Value) (hi : i < n * m) : (w.setCell ⟨g, i, none⟩ u).ownsRow B e m (.slice (some ⟨g, 0, none⟩) n cap) n (xs.set i u) := by
  obtain ⟨h0, ⟨h1, _⟩ | ⟨g', cap', cur, e1, h1, h2, h3, h4, h5, h6⟩⟩ := h
  · cases h1
  · cases e1
    refine ⟨by rw [List.length_set]; exact h0, .inr ⟨g, cap, cur.setIfInBounds i u, rfl, h1, hp_put h2, h3, h4, by simp [h5], ?_⟩⟩
    rw [← h6, Array.toList_setIfInBounds, List.take_set]
theorem cc_set (L : List Ce) (k : Nat) (y : Ce) (hk : k < L.length) : (((((((((cc L).set (k * 9) (.int .i64 y.kind)).set (k * 9 + 1) (.int .i64 y.n)).set (k * 9 + 2) (.string y.s)).set (k * 9 + 3) (.int .i64 y.a.kind)).set (k * 9 + 4) (.int .i64 y.a.n)).set (k * 9 + 5) (.string y.a.s)).set (k * 9 + 6) (.int .i64 y.b.kind)).set (k * 9 + 7) (.int .i64 y.b.n)).set (k * 9 + 8) (.string y.b.s) = cc (L.set k y) := by
  have hl := cc_len L
  refine List.ext_getElem? fun j => ?_
  by_cases hj : j < L.length * 9
  · obtain ⟨i, d, hd, rfl⟩ : ∃ i d, d < 9 ∧ j = i * 9 + d := ⟨j / 9, j % 9, by omega, by omega⟩
    have hi : i < L.length := by omega
    rw [cc_get (L.set k y) i d (by rw [List.length_set]; exact hi) hd]
    by_cases he : i = k
    · subst he
      rw [List.getElem_set_self]
      have h9 : d = 0 ∨ d = 1 ∨ d = 2 ∨ d = 3 ∨ d = 4 ∨ d = 5 ∨ d = 6 ∨ d = 7 ∨ d = 8 := by omega
      rcases h9 with rfl | rfl | rfl | rfl | rfl | rfl | rfl | rfl | rfl <;> simp [List.getElem?_set, hl, ce9] <;> omega
    · rw [List.getElem_set_ne (by omega)]
      have hne : ∀ c, c < 9 → k * 9 + c ≠ i * 9 + d := fun c hc => by omega
      have h0 : k * 9 ≠ i * 9 + d := hne 0 (by omega)
      rw [List.getElem?_set_ne (hne 8 (by omega)), List.getElem?_set_ne (hne 7 (by omega)), List.getElem?_set_ne (hne 6 (by omega)), List.getElem?_set_ne (hne 5 (by omega)), List.getElem?_set_ne (hne 4 (by omega)), List.getElem?_set_ne (hne 3 (by omega)), List.getElem?_set_ne (hne 2 (by omega)), List.getElem?_set_ne (hne 1 (by omega)), List.getElem?_set_ne h0]
      exact cc_get L i d hi hd
  · rw [List.getElem?_eq_none (by simp [hl]; omega), List.getElem?_eq_none (by rw [cc_len, List.length_set]; omega)]
theorem drew_heap (w : World) : w.drew.heap = w.heap := rfl
/-- Nine places stored, one behind the other. -/
theorem set9_other {w : World} {g i b : Nat} (h : b ≠ g) (u0 u1 u2 u3 u4 u5 u6 u7 u8 : Value) : (((((((((w.setCell ⟨g, i, none⟩ u0).setCell ⟨g, i + 1, none⟩ u1).setCell ⟨g, i + 2, none⟩ u2).setCell ⟨g, i + 3, none⟩ u3).setCell ⟨g, i + 4, none⟩ u4).setCell ⟨g, i + 5, none⟩ u5).setCell ⟨g, i + 6, none⟩ u6).setCell ⟨g, i + 7, none⟩ u7).setCell ⟨g, i + 8, none⟩ u8).drew.heap[b]? = w.heap[b]? := by
  rw [drew_heap]
  rw [Below.heap_setCell _ _ _ _ (show b ≠ g from h), Below.heap_setCell _ _ _ _ (show b ≠ g from h), Below.heap_setCell _ _ _ _ (show b ≠ g from h), Below.heap_setCell _ _ _ _ (show b ≠ g from h), Below.heap_setCell _ _ _ _ (show b ≠ g from h), Below.heap_setCell _ _ _ _ (show b ≠ g from h), Below.heap_setCell _ _ _ _ (show b ≠ g from h), Below.heap_setCell _ _ _ _ (show b ≠ g from h), Below.heap_setCell _ _ _ _ (show b ≠ g from h)]
theorem set9_below {w W : World} {B g i : Nat} (h : Below B W w) (hg : B ≤ g) (u0 u1 u2 u3 u4 u5 u6 u7 u8 : Value) : Below B W (((((((((w.setCell ⟨g, i, none⟩ u0).setCell ⟨g, i + 1, none⟩ u1).setCell ⟨g, i + 2, none⟩ u2).setCell ⟨g, i + 3, none⟩ u3).setCell ⟨g, i + 4, none⟩ u4).setCell ⟨g, i + 5, none⟩ u5).setCell ⟨g, i + 6, none⟩ u6).setCell ⟨g, i + 7, none⟩ u7).setCell ⟨g, i + 8, none⟩ u8).drew :=
  (((((((((h.setCell (by exact hg) _).setCell (by exact hg) _).setCell (by exact hg) _).setCell (by exact hg) _).setCell (by exact hg) _).setCell (by exact hg) _).setCell (by exact hg) _).setCell (by exact hg) _).setCell (by exact hg) _).drew
theorem set9_own {w : World} {B e g cap k : Nat} {L : List Ce} (y : Ce) (h : w.ownsRow B e 9 (.slice (some ⟨g, 0, none⟩) L.length cap) L.length (cc L)) (hk : k < L.length) :
    (((((((((w.setCell ⟨g, k * 9, none⟩ (.int .i64 y.kind)).setCell ⟨g, k * 9 + 1, none⟩ (.int .i64 y.n)).setCell ⟨g, k * 9 + 2, none⟩ (.string y.s)).setCell ⟨g, k * 9 + 3, none⟩ (.int .i64 y.a.kind)).setCell ⟨g, k * 9 + 4, none⟩ (.int .i64 y.a.n)).setCell ⟨g, k * 9 + 5, none⟩ (.string y.a.s)).setCell ⟨g, k * 9 + 6, none⟩ (.int .i64 y.b.kind)).setCell ⟨g, k * 9 + 7, none⟩ (.int .i64 y.b.n)).setCell ⟨g, k * 9 + 8, none⟩ (.string y.b.s)).drew.ownsRow B e 9 (.slice (some ⟨g, 0, none⟩) L.length cap) L.length (cc (L.set k y)) := by
  rw [← cc_set L k y hk]
  have h0 := own_set1 h (k * 9) (.int .i64 y.kind) (by omega)
  have h1 := own_set1 h0 (k * 9 + 1) (.int .i64 y.n) (by omega)
  have h2 := own_set1 h1 (k * 9 + 2) (.string y.s) (by omega)
  have h3 := own_set1 h2 (k * 9 + 3) (.int .i64 y.a.kind) (by omega)
  have h4 := own_set1 h3 (k * 9 + 4) (.int .i64 y.a.n) (by omega)
  have h5 := own_set1 h4 (k * 9 + 5) (.string y.a.s) (by omega)
  have h6 := own_set1 h5 (k * 9 + 6) (.int .i64 y.b.kind) (by omega)
  have h7 := own_set1 h6 (k * 9 + 7) (.int .i64 y.b.n) (by omega)
  have h8 := own_set1 h7 (k * 9 + 8) (.string y.b.s) (by omega)
  exact h8.drew
/-- After k cells: the new heap as the program has it. -/
def nowL (h : List Ce) (o0 : List Nat) (k : Nat) : List Ce := (cpAt h o0 k).2 ++ oldC h ((cpAt h o0 k).1.drop k)
theorem oldC_len {h : List Ce} {o : List Nat} (ho : ∀ x ∈ o, x < h.length) : (oldC h o).length = o.length := by
  induction o with
  | nil => rfl
  | cons x o ih =>
    have := ih fun y hy => ho y (List.mem_cons_of_mem _ hy)
    simp only [oldC] at this ⊢
    rw [List.filterMap_cons, List.getElem?_eq_getElem (ho x (by simp))]
    simp [this]
theorem drop_mv (o : List Nat) (v : Vl) (k : Nat) (hk : k ≤ o.length) : ∃ p, mvO o v = o ++ p ∧ (mvO o v).drop k = o.drop k ++ p := by
  obtain ⟨p, hp⟩ := mvO_app o v
  exact ⟨p, hp, by rw [hp, List.drop_append_of_le_length hk]⟩
theorem nowL_next {h : List Ce} {o0 : List Nat} {k x : Nat} (hC : (cpAt h o0 k).2.length = k) (hk : k < (cpAt h o0 k).1.length) (hx : (cpAt h o0 k).1[k]? = some x) (hl : x < h.length) :
    nowL h o0 (k + 1) = ((nowL h o0 k ++ mvL h (cpAt h o0 k).1 h[x].a) ++ mvL h (mvO (cpAt h o0 k).1 h[x].a) h[x].b).set k ⟨h[x].kind, h[x].n, h[x].s, mvV (cpAt h o0 k).1 h[x].a, mvV (mvO (cpAt h o0 k).1 h[x].a) h[x].b⟩ := by
  have e := cpAt_next (h := h) (o0 := o0) hx hl
  unfold nowL
  rw [e]
  simp only
  generalize cpAt h o0 k = pc at *
  obtain ⟨O, C⟩ := pc
  simp only at *
  have hOd : O.drop k = x :: O.drop (k + 1) := by
    rw [List.drop_eq_getElem_cons hk]
    rw [List.getElem?_eq_getElem hk] at hx
    injection hx with hx
    rw [hx]
  have h1 : oldC h (O.drop k) = h[x] :: oldC h (O.drop (k + 1)) := by
    rw [hOd]
    simp [oldC, List.getElem?_eq_getElem hl]
  have a1 : mvO O h[x].a = O ++ (mvO O h[x].a).drop O.length := by
    obtain ⟨p, hp⟩ := mvO_app O h[x].a
    rw [hp]; simp
  have hq : ∀ (o : List Nat) (v : Vl), k + 1 ≤ o.length → oldC h ((mvO o v).drop (k + 1)) = oldC h (o.drop (k + 1)) ++ mvL h o v := by
    intro o v ho
    obtain ⟨p, hp, hd⟩ := drop_mv o v (k + 1) ho
    rw [hd, oldC_app]
    congr 1
    have := oldC_mv h o v
    rw [hp, oldC_app] at this
    exact List.append_cancel_left this
  rw [hq _ _ (Nat.le_trans hk (mvO_le _ _)), hq _ _ hk, h1]
  rw [show C ++ h[x] :: oldC h (O.drop (k + 1)) = C ++ ([h[x]] ++ oldC h (O.drop (k + 1))) from rfl]
  simp only [List.append_assoc]
  rw [List.set_append_right _ _ (by omega), hC, Nat.sub_self]
  rfl
end Go.Proofs.YtdhpmblhejcehaaDoor
namespace Go.Proofs.YtdhpmblhejcehaaDoor
set_option linter.unusedVariables false
set_option maxRecDepth 100000
open Go.ChangeShapes Go.WideShapes Go.ChangeAt Go.RowKit Go.Maps Go.WideMaps

theorem nowL_at {h : List Ce} {o0 : List Nat} {k x : Nat} (hC : (cpAt h o0 k).2.length = k) (hx : (cpAt h o0 k).1[k]? = some x) (hl : x < h.length) : (nowL h o0 k)[k]? = some h[x] := by
  unfold nowL
  generalize cpAt h o0 k = pc at *
  obtain ⟨O, C⟩ := pc
  simp only at *
  obtain ⟨hk, he⟩ := List.getElem?_eq_some_iff.1 hx
  rw [List.getElem?_append_right (by omega), hC, Nat.sub_self, List.drop_eq_getElem_cons hk, he]
  simp [oldC, List.getElem?_eq_getElem hl]
theorem nowL_end {h : List Ce} {o0 : List Nat} {k : Nat} (hk : (cpAt h o0 k).1.length ≤ k) : nowL h o0 k = (cpAt h o0 k).2 := by
  unfold nowL
  rw [List.drop_eq_nil_of_le hk]
  simp [oldC]
theorem nowL_zero (h : List Ce) (o0 : List Nat) : nowL h o0 0 = oldC h o0 := rfl
theorem rd_own {α : Type} {n : Nat} {E : ElRd α} {w : World} {v : Value} {l : List α} (h : RowRd n E w v l) : 0 < l.length → ∀ b, v.ownBlock = some b → b < w.heap.size := by
  intro h0 b hb
  rcases h with ⟨rfl, _⟩ | ⟨b', o, cap, h1, h2, h3, h4, h5⟩
  · simp at h0
  · rw [h1] at hb
    cases hb
    exact h3
set_option maxHeartbeats 2000000 in
theorem iCopyL (h : List Ce) (r : List Vl) (v0 v1 : Value) (w : World) (h0 : RowRd 9 CeEl w v0 h) (h1 : RowRd 3 VlEl w v1 r) (hb : heapB h r = true) (hrl : r.length ≤ 1048576) :
    Calls Tryd.prog 6 #[v0, v1] w (CopyRes h r w) := by
  obtain ⟨kk, ci, cz0, cz1, cz2⟩ := info_parts info_ce
  have HOK := Lib.hid (show Calls Tryd.prog 8 #[v0, v1] w fun e w' => e = .returned (.bool true) ∧ Below w.heap.size w w' from by rw [← hb]; exact iHeapOk h r v0 v1 w h0 h1)
  have HHB := Lib.hid hb
  have hl4 := heap_len hb
  have h0B := rd_own h0
  have h1B := rd_own h1
  have HR0 := fun (W : World) (hW : Below w.heap.size w W) => Lib.hid (rd_bel CeOwn.loc h0 h0B hW hW.size)
  have HR1 := fun (W : World) (hW : Below w.heap.size w W) => Lib.hid (rd_bel VlOwn.loc h1 h1B hW hW.size)
  have hmm := @run_makeMap Tryd.prog
  obtain ⟨a0, c0, rfl, hm0, -⟩ := h0.form
  obtain ⟨a1, c1, rfl, hm1, -⟩ := h1.form
  have H0B := Lib.hid h0B
  have H1B := Lib.hid h1B
  clear h0 h1 hb h0B h1B
  go_enter Tryd.func6, Tryd.ntmps6
  go_wp2_with fail
  refine HOK.out.mono ?_
  rintro e w1 ⟨rfl, hb1⟩
  go_wp2_with fail
  refine hp_gen (P := fun W => Calls _ _ _ W _) _ ?_
  intro W2 hW2
  have hs1 := hb1.size
  have hC2 : CpIs w.heap.size (w1.heap.size + 1) w1.heap.size (.slice a0 h.length c0) [] [] (.slice none 0 0) (.map []) W2 := by
    rw [hW2]
    exact ⟨hp_al _ _ (by simp), World.ownsRow_nil _ _ _ _, ((World.ownsMap_made (H := Unit) w1 Tryd.prog 3 (plainElem Tryd.prog 3)).alloc _), PlD.nil, rfl, by omega, by omega⟩
  have hB2 : Below w.heap.size w W2 := by rw [hW2]; exact (hb1.alloc (by omega) _).alloc (by simp; omega) _
  have HMC := Lib.hid (iMapCp w.heap.size (w1.heap.size + 1) w1.heap.size h r (.slice a0 h.length c0) (.slice a1 r.length c1) _ _ W2 hC2 hB2.size (HR0 W2 hB2).out H0B.out (HR1 W2 hB2).out H1B.out HHB.out hrl)
  clear hW2 hC2 hmm
  refine HMC.out.mono ?_
  rintro e w3 ⟨u, cv, D, rfl, hu, hC3, hb3, hs3⟩
  have hB3 := hB2.trans hb3
  have HO0 := Lib.hid (show OrdOk h.length (rootsO [] r) from by have := rootsO_ok HHB.out r.length (Nat.le_refl _); rwa [List.take_length] at this)
  have HRr := Lib.hid (show resCopy h r = ((cpAt h (rootsO [] r) h.length).2, rootsV [] r) from by unfold resCopy; rw [if_pos HHB.out])
  have HVl := Lib.hid (rootsV_len r [])
  have HCK := Lib.hid (cpAt_ok HHB.out HO0.out)
  generalize rootsO [] r = o0 at *
  generalize rootsV [] r = V at *
  have HC3 := Lib.hid hC3
  have HU3 := Lib.hid hu
  have HB3 := Lib.hid hB3
  obtain ⟨t, ht⟩ : ∃ t, t = w1.heap.size + 1 := ⟨_, rfl⟩
  obtain ⟨mp, hmp⟩ : ∃ mp, mp = w1.heap.size := ⟨_, rfl⟩
  rw [← ht, ← hmp] at HC3
  clear hC3 hu hB3 HMC hb3 hs3 hB2 HOK
  go_wp2
  rw [← ht]
  clear ht hmp hb1 hs1
  go_loopw [8] (fun i wr => ∃ (k : Nat) (cv : Value) (D : DataW Unit), i = .int .i64 k ∧ k ≤ h.length ∧ CpIs w.heap.size t mp (.slice a0 h.length c0) (cpAt h o0 k).1 (nowL h o0 k) cv D wr ∧ Hid ((cpAt h o0 k).2.length = k) ∧ wr.ownsRow w.heap.size 33 3 u r.length (vc V) ∧ Below w.heap.size w wr) (fun i _ => h.length - (intOf i).toNat)
  case atStart => exact ⟨0, _, _, rfl, Nat.zero_le _, HC3.out, rfl, HU3.out, HB3.out⟩
  case round =>
    clear HC3 HU3 HB3
    obtain ⟨k, cv, D, rfl, hk, hC, HCl, hnow, hbel⟩ := hrel
    have hsz := hbel.size
    have ho := HCK.out k
    have hol := nodup_le _ _ ho
    have HO := Lib.hid ho
    have hln := hC.ln
    have HNX := Lib.hid (fun x hx hl => cpAt_next (h := h) (o0 := o0) (i := k) (x := x) hx hl)
    have HEN := Lib.hid (fun he => cpAt_end (h := h) (o0 := o0) (i := k) he)
    have HNE := Lib.hid (nowL_end (h := h) (o0 := o0) (k := k))
    have HNA := Lib.hid (fun x hx hl => nowL_at (h := h) (o0 := o0) (k := k) (x := x) HCl.out hx hl)
    have HNN := Lib.hid (fun x hk hx hl => nowL_next (h := h) (o0 := o0) (k := k) (x := x) HCl.out hk hx hl)
    have bt1 := hp_cell hC.box 1
    simp at bt1
    have htl := hp_lt hC.box
    by_cases hlt : k < (cpAt h o0 k).1.length
    · obtain ⟨cg, cap, rfl, hcB, hcl, hcc, hcell, -⟩ := own_dims hC.own (by omega)
      have hxk : (cpAt h o0 k).1[k]? = some (cpAt h o0 k).1[k] := List.getElem?_eq_getElem hlt
      have hxl := ho.2 _ (List.getElem_mem hlt)
      have HNX2 := Lib.hid (HNX.out _ hxk hxl)
      have HNN2 := Lib.hid (HNN.out _ hlt hxk hxl)
      have hna := HNA.out _ hxk hxl
      generalize (cpAt h o0 k).1[k] = x at *
      have hkn : k < (nowL h o0 k).length := (List.getElem?_eq_some_iff.1 hna).1
      have hnk : (nowL h o0 k)[k] = h[x] := (List.getElem?_eq_some_iff.1 hna).2
      have f : ∀ d, d < 9 → wr.cell? ⟨cg, k * 9 + d, none⟩ = (ce9 h[x])[d]? := fun d hd => by rw [hcell (k * 9 + d) (by omega), cc_get _ _ _ hkn hd, hnk]
      have f0 := f 0 (by omega)
      have f1 := f 1 (by omega)
      have f2 := f 2 (by omega)
      have f3 := f 3 (by omega)
      have f4 := f 4 (by omega)
      have f5 := f 5 (by omega)
      have f6 := f 6 (by omega)
      have f7 := f 7 (by omega)
      have f8 := f 8 (by omega)
      simp [ce9] at f0 f1 f2 f3 f4 f5 f6 f7 f8
      have HKA := Lib.hid (show h[x].a.kind = 6 → 0 ≤ h[x].a.n ∧ h[x].a.n < h.length from fun h6 => heap_a HHB.out hxl h6)
      have HKB := Lib.hid (show h[x].b.kind = 6 → 0 ≤ h[x].b.n ∧ h[x].b.n < h.length from fun h6 => heap_b HHB.out hxl h6)
      clear f hna hnk hcell HNX HEN HNE HNA HNN hxk
      generalize h[x] = y at *
      generalize hN : nowL h o0 k = L at *
      generalize hcp : cpAt h o0 k = pc at *
      obtain ⟨O, C⟩ := pc
      simp only at *
      clear hcp hN
      have HO2 := Lib.hid (show OrdOk h.length (mvO O y.a) from mvO_ok HO.out (fun h6 => by have := HKA.out h6; omega))
      have hkh : k + 1 ≤ h.length := by omega
      have hkL : (k : Int) < (L.length : Int) := by omega
      have hkLn : k < L.length := hkn
      have hk0 : (0 : Int) ≤ (k : Int) := by omega
      have HNW := Lib.hid hnow
      have HC := Lib.hid hC
      have HMA := fun (W : World) (hW : CpIs w.heap.size t mp (.slice a0 h.length c0) O L (.slice (some ⟨cg, 0, none⟩) L.length cap) D W) (hbW : Below w.heap.size w W) => Lib.hid (iCopied w.heap.size t mp h _ O L _ D y.a W hW hbW.size (HR0 W hbW).out H0B.out HKA.out hl4 HO.out)
      have HMB := fun (cv : Value) (D : DataW Unit) (W : World) (hW : CpIs w.heap.size t mp (.slice a0 h.length c0) (mvO O y.a) (L ++ mvL h O y.a) cv D W) (hbW : Below w.heap.size w W) => Lib.hid (iCopied w.heap.size t mp h _ (mvO O y.a) (L ++ mvL h O y.a) cv D y.b W hW hbW.size (HR0 W hbW).out H0B.out HKB.out hl4 HO2.out)
      clear hC hnow hol HR0 HR1
      go_wp2_with fail
      refine hp_gen (P := fun W => Calls _ _ _ W _) _ ?_
      intro WA hWA
      have kA : Below wr.heap.size wr WA := by rw [hWA]; exact Joins.below_alloc1 _ _
      have bxA : WA.heap[wr.heap.size]? = some (.cells #[.int .i64 y.kind, .int .i64 y.n, .string y.s, .int .i64 y.a.kind, .int .i64 y.a.n, .string y.a.s, .int .i64 y.b.kind, .int .i64 y.b.n, .string y.b.s] 53 (0, 0)) := by rw [hWA]; exact hp_al _ _ rfl
      have HZA := Lib.hid (show WA.heap.size = wr.heap.size + 1 from by rw [hWA]; simp)
      clear hWA f0 f1 f2 f3 f4 f5 f6 f7 f8 bt1
      have hCA := HC.out.below kA
      have hBA := below_tr hbel kA
      have hNA := own_belN HNW.out kA
      have hbm : mp ≠ wr.heap.size := fun e => by have := HC.out.map.lt; omega
      have hbt : t ≠ wr.heap.size := by omega
      have hbg : (Value.slice (some ⟨cg, 0, none⟩) L.length cap).ownBlock ≠ some wr.heap.size := fun e => by simp [Value.ownBlock] at e; omega
      have hnB : u.ownBlock ≠ some wr.heap.size := fun e => by have := (HNW.out.lt _ e).2; omega
      refine (HMA _ hCA hBA).out.mono ?_
      rintro e w4 ⟨cv1, D1, rfl, hC1, hK1, hat1, hb1⟩
      have bx1 := (hK1 _ (hp_lt bxA) hbt.symm hbm.symm hbg).trans bxA
      have hN1 := own_blkN hNA (fun g' e => hK1 g' (hNA.lt g' e).2 (fun he => hp_ne hNA hCA.box (by decide) (he ▸ e)) (fun he => own_nomap hNA hCA.map (he ▸ e)) (hp_two hCA.own hNA (by decide) e))
      have hB1 := hBA.trans hb1
      have hzA : WA.heap.size = wr.heap.size + 1 := HZA.out
      have hc1b : cv1.ownBlock ≠ some wr.heap.size := by
        rcases hat1 with e | ⟨k', hk', e⟩
        · rw [e]; exact hbg
        · rw [e]; intro e'; cases e'; omega
      generalize hya : mvV O y.a = ya at *
      clear hCA hBA hNA hK1 hat1 hb1 kA bxA hya hzA
      have p10 := hp_cell bx1 0
      have p13 := hp_cell bx1 3
      have p14 := hp_cell bx1 4
      have p15 := hp_cell bx1 5
      have p16 := hp_cell bx1 6
      have p17 := hp_cell bx1 7
      have p18 := hp_cell bx1 8
      have q13 := hp_fr bx1 3
      have q14 := hp_fr bx1 4
      have q15 := hp_fr bx1 5
      simp at p10 p13 p14 p15 p16 p17 p18
      go_wp2_with fail
      refine hp_gen (P := fun W => Calls _ _ _ W _) _ ?_
      intro W5 hW5
      have h5 : ∀ k, k ≠ wr.heap.size → W5.heap[k]? = w4.heap[k]? := fun k hk => by rw [hW5]; exact (Below.heap_setCell _ _ _ _ hk).trans ((Below.heap_setCell _ _ _ _ hk).trans (Below.heap_setCell _ _ _ _ hk))
      have s5 : W5.heap.size = w4.heap.size := by rw [hW5]; simp only [setCell_size]
      have hB5 : Below w.heap.size w W5 := by rw [hW5]; exact ((hB1.setCell (by exact hsz) _).setCell (by exact hsz) _).setCell (by exact hsz) _
      have bx5 : W5.heap[wr.heap.size]? = some (.cells #[.int .i64 y.kind, .int .i64 y.n, .string y.s, .int .i64 ya.kind, .int .i64 ya.n, .string ya.s, .int .i64 y.b.kind, .int .i64 y.b.n, .string y.b.s] 53 (0, 0)) := by
        rw [hW5]
        have := hp_put (i := 5) (u := .string ya.s) (hp_put (i := 4) (u := .int .i64 ya.n) (hp_put (i := 3) (u := .int .i64 ya.kind) bx1))
        simpa using this
      have hC5 := hC1.blk (h5 _ hbt) (h5 _ hbm) (fun b' e => h5 b' (fun he => hc1b (he ▸ e)))
      have hN5 := own_blkN hN1 (fun g' e => h5 g' (fun he => hnB (he ▸ e)))
      clear hW5 h5 hC1 hN1 hB1 p10 p13 p14 p15 p16 p17 p18 q13 q14 q15
      refine (HMB _ _ _ hC5 hB5).out.mono ?_
      rintro e w6 ⟨cv2, D2, rfl, hC6, hK6, hat6, hb6⟩
      have bx6 := (hK6 _ (hp_lt bx5) hbt.symm hbm.symm hc1b).trans bx5
      have hN6 := own_blkN hN5 (fun g' e => hK6 g' (hN5.lt g' e).2 (fun he => hp_ne hN5 hC5.box (by decide) (he ▸ e)) (fun he => own_nomap hN5 hC5.map (he ▸ e)) (hp_two hC5.own hN5 (by decide) e))
      have hB6 := hB5.trans hb6
      have hc2b : cv2.ownBlock ≠ some wr.heap.size := by
        rcases hat6 with e | ⟨k', hk', e⟩
        · rw [e]; exact hc1b
        · rw [e]; intro e'; cases e'; have := hp_lt bx1; omega
      generalize hyb : mvV (mvO O y.a) y.b = yb at *
      clear hC5 hN5 hK6 hat6 hb6 bx5 bx1 hyb hB5 HMA HMB s5 hc1b
      have p13 := hp_cell bx6 3
      have p16 := hp_cell bx6 6
      have p17 := hp_cell bx6 7
      have p18 := hp_cell bx6 8
      have q16 := hp_fr bx6 6
      have q17 := hp_fr bx6 7
      have q18 := hp_fr bx6 8
      simp at p13 p16 p17 p18
      go_upto_region 11 with fail
      refine hp_gen (P := fun W => Code.wp _ _ _ _ W) _ ?_
      intro W7 hW7
      have h7 : ∀ k, k ≠ wr.heap.size → W7.heap[k]? = w6.heap[k]? := fun k hk => by rw [hW7]; exact (Below.heap_setCell _ _ _ _ hk).trans ((Below.heap_setCell _ _ _ _ hk).trans (Below.heap_setCell _ _ _ _ hk))
      have s7 : W7.heap.size = w6.heap.size := by rw [hW7]; simp only [setCell_size]
      have hB7 : Below w.heap.size w W7 := by rw [hW7]; exact ((hB6.setCell (by exact hsz) _).setCell (by exact hsz) _).setCell (by exact hsz) _
      have bx7 : W7.heap[wr.heap.size]? = some (.cells #[.int .i64 y.kind, .int .i64 y.n, .string y.s, .int .i64 ya.kind, .int .i64 ya.n, .string ya.s, .int .i64 yb.kind, .int .i64 yb.n, .string yb.s] 53 (0, 0)) := by
        rw [hW7]
        have := hp_put (i := 8) (u := .string yb.s) (hp_put (i := 7) (u := .int .i64 yb.n) (hp_put (i := 6) (u := .int .i64 yb.kind) bx6))
        simpa using this
      have hC7 := hC6.blk (h7 _ hbt) (h7 _ hbm) (fun b' e => h7 b' (fun he => hc2b (he ▸ e)))
      have hN7 := own_blkN hN6 (fun g' e => h7 g' (fun he => hnB (he ▸ e)))
      clear hW7 h7 hC6 hN6 hB6 bx6 p13 p16 p17 p18 q16 q17 q18 s7
      generalize hL2 : L ++ mvL h O y.a ++ mvL h (mvO O y.a) y.b = L2 at *
      have hkL2 : k < L2.length := by rw [← hL2]; simp; omega
      clear hL2
      obtain ⟨g2, cp2, rfl, hg2B, hg2l, hg2c, hg2v, hg2f⟩ := own_dims hC7.own (by omega)
      have t1 := hp_cell hC7.box 1
      have p0 := hp_cell bx7 0
      have p1 := hp_cell bx7 1
      have p2 := hp_cell bx7 2
      have p3 := hp_cell bx7 3
      have p4 := hp_cell bx7 4
      have p5 := hp_cell bx7 5
      have p6 := hp_cell bx7 6
      have p7 := hp_cell bx7 7
      have p8 := hp_cell bx7 8
      simp at t1 p0 p1 p2 p3 p4 p5 p6 p7 p8
      have hg2t : t ≠ g2 := fun e => hp_ne hC7.own hC7.box (by decide) (by rw [e]; rfl)
      have hg2x : wr.heap.size ≠ g2 := fun e => hc2b (by rw [e]; rfl)
      have KS : ∀ W : World, (∀ k, k ≠ g2 → W.heap[k]? = W7.heap[k]?) → (W.cell? ⟨t, 1, none⟩ = some (.slice (some ⟨g2, 0, none⟩) L2.length cp2) ∧ W.cell? ⟨wr.heap.size, 0, none⟩ = some (.int .i64 y.kind) ∧ W.cell? ⟨wr.heap.size, 1, none⟩ = some (.int .i64 y.n) ∧ W.cell? ⟨wr.heap.size, 2, none⟩ = some (.string y.s)) ∧ (W.cell? ⟨wr.heap.size, 3, none⟩ = some (.int .i64 ya.kind) ∧ W.cell? ⟨wr.heap.size, 4, none⟩ = some (.int .i64 ya.n) ∧ W.cell? ⟨wr.heap.size, 5, none⟩ = some (.string ya.s)) ∧ (W.cell? ⟨wr.heap.size, 6, none⟩ = some (.int .i64 yb.kind) ∧ W.cell? ⟨wr.heap.size, 7, none⟩ = some (.int .i64 yb.n) ∧ W.cell? ⟨wr.heap.size, 8, none⟩ = some (.string yb.s)) := fun W hW =>
        have qt : ∀ i, W.cell? ⟨t, i, none⟩ = W7.cell? ⟨t, i, none⟩ := fun i => World.cell?_of_block (a := ⟨t, i, none⟩) (hW t hg2t)
        have qx : ∀ i, W.cell? ⟨wr.heap.size, i, none⟩ = W7.cell? ⟨wr.heap.size, i, none⟩ := fun i => World.cell?_of_block (a := ⟨wr.heap.size, i, none⟩) (hW _ hg2x)
        ⟨⟨(qt _).trans t1, (qx _).trans p0, (qx _).trans p1, (qx _).trans p2⟩, ⟨(qx _).trans p3, (qx _).trans p4, (qx _).trans p5⟩, (qx _).trans p6, (qx _).trans p7, (qx _).trans p8⟩
      have KW := KS W7 (fun _ _ => rfl)
      have KD := KS W7.drew (fun _ _ => rfl)
      have hkI : (k : Int) < (L2.length : Int) := by omega
      have o : ∀ d, d < 9 → W7.cell? ⟨g2, k * 9 + d, none⟩ = (ce9 L2[k])[d]? := fun d hd => by rw [hg2v (k * 9 + d) (by omega), cc_get _ _ _ hkL2 hd]
      generalize L2[k] = yo at *
      have o0 := o 0 (by omega)
      have o1 := o 1 (by omega)
      have o2 := o 2 (by omega)
      have o3 := o 3 (by omega)
      have o4 := o 4 (by omega)
      have o5 := o 5 (by omega)
      have o6 := o 6 (by omega)
      have o7 := o 7 (by omega)
      have o8 := o 8 (by omega)
      simp [ce9] at o0 o1 o2 o3 o4 o5 o6 o7 o8
      clear o hg2v
      have s0 := hg2f (k * 9)
      have s1 := hg2f (k * 9 + 1)
      have s2 := hg2f (k * 9 + 2)
      have s3 := hg2f (k * 9 + 3)
      have s4 := hg2f (k * 9 + 4)
      have s5 := hg2f (k * 9 + 5)
      have s6 := hg2f (k * 9 + 6)
      have s7 := hg2f (k * 9 + 7)
      have s8 := hg2f (k * 9 + 8)
      go_region_held3 (fun W => (W.cell? ⟨t, 1, none⟩ = some (.slice (some ⟨g2, 0, none⟩) L2.length cp2) ∧ W.cell? ⟨wr.heap.size, 0, none⟩ = some (.int .i64 y.kind) ∧ W.cell? ⟨wr.heap.size, 1, none⟩ = some (.int .i64 y.n) ∧ W.cell? ⟨wr.heap.size, 2, none⟩ = some (.string y.s)) ∧ (W.cell? ⟨wr.heap.size, 3, none⟩ = some (.int .i64 ya.kind) ∧ W.cell? ⟨wr.heap.size, 4, none⟩ = some (.int .i64 ya.n) ∧ W.cell? ⟨wr.heap.size, 5, none⟩ = some (.string ya.s)) ∧ (W.cell? ⟨wr.heap.size, 6, none⟩ = some (.int .i64 yb.kind) ∧ W.cell? ⟨wr.heap.size, 7, none⟩ = some (.int .i64 yb.n) ∧ W.cell? ⟨wr.heap.size, 8, none⟩ = some (.string yb.s)))
        (first | with_reducible exact KW | with_reducible exact KD | with_reducible exact KS _ (fun _ hk' => set9_other hk' _ _ _ _ _ _ _ _ _))
        (fail)
      refine hp_gen (P := fun W => Exit.inBlock _ _ Exit.normal _ W) _ ?_
      intro W8 hW8
      have h8 : ∀ k', k' ≠ g2 → W8.heap[k']? = W7.heap[k']? := fun k' hk' => by rw [hW8]; exact set9_other hk' _ _ _ _ _ _ _ _ _
      have own8 : W8.ownsRow w.heap.size 53 9 (.slice (some ⟨g2, 0, none⟩) L2.length cp2) L2.length (cc (L2.set k ⟨y.kind, y.n, y.s, ya, yb⟩)) := by
        rw [hW8]; exact set9_own ⟨y.kind, y.n, y.s, ya, yb⟩ hC7.own hkL2
      have hB8 : Below w.heap.size w W8 := by
        rw [hW8]; exact set9_below hB7 hg2B _ _ _ _ _ _ _ _ _
      have hng : u.ownBlock ≠ some g2 := hp_two hN7 hC7.own (by decide) rfl
      have hmg : mp ≠ g2 := fun e => own_nomap hC7.own hC7.map (by rw [e]; rfl)
      have hN8 := own_blkN hN7 (fun g' e => h8 g' (fun he => hng (he ▸ e)))
      have hC8 : CpIs w.heap.size t mp (.slice a0 h.length c0) (mvO (mvO O y.a) y.b) (L2.set k ⟨y.kind, y.n, y.s, ya, yb⟩) (.slice (some ⟨g2, 0, none⟩) L2.length cp2) D2 W8 :=
        ⟨(h8 t hg2t).trans hC7.box, by rw [List.length_set]; exact own8, map_blk hC7.map (h8 mp hmg), hC7.pl, by rw [List.length_set]; exact hC7.ln, hC7.lot, hC7.lom⟩
      have HCl2 := Lib.hid (show (C ++ [(⟨y.kind, y.n, y.s, ya, yb⟩ : Ce)]).length = k + 1 from by rw [List.length_append, HCl.out]; rfl)
      clear hW8 h8 own8 hB7 hN7 hC7 KS KW KD o0 o1 o2 o3 o4 o5 o6 o7 o8 s0 s1 s2 s3 s4 s5 s6 s7 s8 p0 p1 p2 p3 p4 p5 p6 p7 p8 t1 bx7 hg2f
      go_wp2
      go_roundw
      case rel => exact ⟨k + 1, _, D2, by go_num, by omega, by rw [HNX2.out, HNN2.out]; exact hC8, by rw [HNX2.out]; exact HCl2, hN8, hB8⟩
      case measure => simp [intOf]; omega
    · have hke : (cpAt h o0 k).1.length ≤ k := by omega
      have HE := Lib.hid (show resCopy h r = (nowL h o0 k, V) from by
        have := HEN.out hke (h.length - k)
        rw [show k + (h.length - k) = h.length by omega] at this
        rw [HRr.out, this, HNE.out hke])
      have HR1 := Lib.hid (show (resCopy h r).1 = nowL h o0 k from by rw [HE.out])
      have HR2 := Lib.hid (show (resCopy h r).2 = V from by rw [HE.out])
      obtain ⟨oa, occ, rfl⟩ := own_slN hC.own
      have HOU := Lib.hid hC.own
      have HNW := Lib.hid hnow
      clear hnow ho hol HNX HEN HNE HNA HNN HCK HRr hC HE
      generalize nowL h o0 k = L at *
      have hkO : decide ((k : Int) < (L.length : Int)) = false := by simp; omega
      have hkN : decide (k < L.length) = false := by simp; omega
      have hkM : ¬ k < L.length := by omega
      clear hln hke hlt
      obtain ⟨ua, uc, rfl⟩ := own_slN HNW.out
      go_wp2
      refine bodyPost_ret (v := .tuple #[.slice oa L.length occ, .slice ua r.length uc]) (by simp [results, Tryd.results6, go_sem]) rfl ?_
      exact ⟨_, _, rfl, by rw [HR1.out]; exact HOU.out, by rw [HR2.out, HVl.out]; exact HNW.out, hbel⟩
theorem cntL_at {α : Type} {c : α → Nat} {n : Nat} (h : ∀ x, c x = n) (l : List α) : cntL c l = n * l.length := by
  induction l with
  | nil => rfl
  | cons x l ih => simp only [cntL, ih, h, List.length_cons]; rw [Nat.mul_succ]; omega
theorem cpAt_len (h : List Ce) (o0 : List Nat) : ∀ k, (cpAt h o0 k).2.length ≤ k
  | 0 => Nat.le_refl _
  | k + 1 => by
    have ih := cpAt_len h o0 k
    rw [cpAt]
    split
    · omega
    · split
      · omega
      · simp; omega
set_option maxHeartbeats 1000000 in
theorem iCopyC (h : List Ce) (r : List Vl) (v0 v1 : Value) (w : World) (h0 : RowRd 9 CeEl w v0 h) (h1 : RowRd 3 VlEl w v1 r) (hz0 : bulkL bCe h ≤ 1048576) (hz1 : bulkL bVl r ≤ 1048576) :
    Calls Tryd.prog 6 #[v0, v1] w (CopyPost h r w) := by
  have hrl := Nat.le_trans (bulkL_len bVl r) hz1
  cases hb : heapB h r
  · have HOK := Lib.hid (iHeapOk h r v0 v1 w h0 h1)
    rw [hb] at HOK
    have HR := Lib.hid (show resCopy h r = ([], []) from by simp [resCopy, hb])
    obtain ⟨a0, c0, rfl, hm0, -⟩ := h0.form
    obtain ⟨a1, c1, rfl, hm1, -⟩ := h1.form
    clear h0 h1
    go_enter Tryd.func6, Tryd.ntmps6
    go_wp2_with fail
    refine HOK.out.mono ?_
    rintro e w1 ⟨rfl, hb1⟩
    go_wp2
    refine bodyPost_ret (v := .tuple #[.slice none 0 0, .slice none 0 0]) (by simp [results, Tryd.results6, go_sem]) rfl ?_
    refine ⟨_, _, [], [], rfl, ?_, ?_, by simp, by simp, hb1⟩
    · rw [HR.out]; exact .inl ⟨rfl, rfl, _, _, rfl⟩
    · rw [HR.out]; exact .inl ⟨rfl, rfl, _, _, rfl⟩
  · exact (iCopyL h r v0 v1 w h0 h1 hb hrl).mono fun e w' hres => copy_post (ce_ok_of h0) (vl_ok_of h1) hres (Below.refl _ _)
end Go.Proofs.YtdhpmblhejcehaaDoor
