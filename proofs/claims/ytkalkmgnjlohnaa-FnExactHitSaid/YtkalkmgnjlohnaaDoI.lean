/- The program's check of values. -/
import Derived.Test.YtkalkmgnjlohnaaDoMath
import Derived.Test.YtkalkmgnjlohnaaOkY4
import Derived.Test.YtkalkmgnjlohnaaWrap
import Derived.Test.YtkalkmgnjlohnaaOwnRow
namespace Go.Proofs.Ytkalkmgnjlohnaa
set_option linter.unusedVariables false
set_option maxRecDepth 100000
open Go.ChangeShapes Go.WideShapes Go.ChangeAt Go.RowKit

theorem iIsNum (n : Int) (w : World) : Calls Try.prog 53 #[.int .i64 n] w fun e w' => e = .returned (.bool (decide (W n = n))) ∧ w = w' := by
  go_enter Try.func53, Try.ntmps53
  go_wp2_with (go_at_call 77; refine (iWrap _ _).mono ?_; rintro e w' ⟨rfl, rfl⟩)
  go_ret
  refine ⟨ret_bool ?_, rfl⟩
  rw [Bool.eq_iff_iff]; simp
theorem pd_eq (k n : Int) (s : ByteArray) (m : Int) (h : k = 4 ∨ k = 5 ∨ k = 6) : pnodeB true k n s m = dnodeB true k n s m := by
  rcases h with rfl | rfl | rfl <;> simp [pnodeB, dnodeB]
set_option maxHeartbeats 4000000 in
theorem iDNode (k n : Int) (s : ByteArray) (kids : List Int) (u : Value) (w : World) (hk : RowRd 1 IntEl w u kids) (hs : s.size ≤ maxLen) :
    Calls Try.prog 31 #[.agg #[.int .i64 k, .int .i64 n, .string s, u]] w fun e w' => e = .returned (.bool (dnodeB true k n s kids.length)) ∧ Below w.heap.size w w' := by
  have hP := fun W (hK : Kept w W) => iPNode k n s kids u W (hk.kept IntEl.st hK) hs
  obtain ⟨b, cap', rfl, hm', hkf⟩ := hk.form
  clear hk hkf
  unfold maxLen at hm'
  generalize kids.length = m at *
  have hkc : k = 2 ∨ k = 3 ∨ (k = 4 ∨ k = 5 ∨ k = 6) ∨ (¬ k = 6 ∧ ¬ k = 2 ∧ ¬ k = 3 ∧ ¬ k = 4 ∧ ¬ k = 5) := by omega
  rcases hkc with rfl | rfl | hk | ⟨g6, g2, g3, g4, g5⟩
  · by_cases hn : n = 0
    · subst hn
      go_enter Try.func31, Try.ntmps31
      go_wp2
      all_goals
        go_ret
        refine ⟨ret_bool ?_, Joins.below_alloc1 w _⟩
        first | (simp [dnodeB]; done) | (rw [Bool.eq_iff_iff]; simp [dnodeB]; done) | (rw [Bool.eq_iff_iff]; simp [dnodeB]; omega)
    · have hn1 : (n == 0) = false := by simpa using hn
      have HN := Lib.hid hn
      clear hn
      go_enter Try.func31, Try.ntmps31
      go_wp2
      all_goals
        go_ret
        refine ⟨ret_bool ?_, Joins.below_alloc1 w _⟩
        simp [dnodeB, HN.out]
  · by_cases hw : W n = n
    · have HD := Lib.hid (show dnodeB true 3 n s (m : Int) = (decide (s.toList = []) && decide ((m : Int) = 0)) from by simp [dnodeB, hw])
      have HI := fun w => Lib.hid (show Calls Try.prog 53 #[.int .i64 n] w fun e w' => e = .returned (.bool true) ∧ w = w' from (iIsNum n w).mono fun e w' h => ⟨by rw [h.1, decide_eq_true hw], h.2⟩)
      clear hw
      by_cases he : s.toList = []
      · have he1 : s.toList.isEmpty = true := by simp [he]
        go_enter Try.func31, Try.ntmps31
        go_wp2_with (go_at_call 53; refine (HI _).out.mono ?_; rintro e w' ⟨rfl, rfl⟩)
        all_goals
          go_ret
          refine ⟨ret_bool ?_, Joins.below_alloc1 w _⟩
          rw [HD.out]
          first | (simp [he]; done) | (rw [Bool.eq_iff_iff]; simp [he]; done) | (rw [Bool.eq_iff_iff]; simp [he]; omega)
      · have he1 : s.toList.isEmpty = false := by simpa using he
        have HE := Lib.hid he
        clear he
        go_enter Try.func31, Try.ntmps31
        go_wp2_with (go_at_call 53; refine (HI _).out.mono ?_; rintro e w' ⟨rfl, rfl⟩)
        all_goals
          go_ret
          refine ⟨ret_bool ?_, Joins.below_alloc1 w _⟩
          rw [HD.out]
          simp [HE.out]
    · have HD := Lib.hid (show dnodeB true 3 n s (m : Int) = false from by simp [dnodeB, hw])
      have HI := fun w => Lib.hid (show Calls Try.prog 53 #[.int .i64 n] w fun e w' => e = .returned (.bool false) ∧ w = w' from (iIsNum n w).mono fun e w' h => ⟨by rw [h.1, decide_eq_false hw], h.2⟩)
      clear hw
      go_enter Try.func31, Try.ntmps31
      go_wp2_with (go_at_call 53; refine (HI _).out.mono ?_; rintro e w' ⟨rfl, rfl⟩)
      go_ret
      exact ⟨ret_bool HD.out.symm, Joins.below_alloc1 w _⟩
  · have HP := fun W (hK : Kept w W) => Lib.hid (show Calls Try.prog 48 #[.agg #[.int .i64 k, .int .i64 n, .string s, .slice b m cap']] W fun e w' => e = .returned (.bool (dnodeB true k n s m)) ∧ Below W.heap.size W w' from by rw [← pd_eq k n s m hk]; exact hP W hK)
    clear hP
    generalize dnodeB true k n s (m : Int) = r at *
    rcases hk with rfl | rfl | rfl
    all_goals
      go_enter Try.func31, Try.ntmps31
      go_wp2_with fail
      refine (HP _ (Kept.alloc _ _)).out.mono ?_
      rintro e w1 ⟨rfl, hb1⟩
      go_wp2
      go_ret
      exact ⟨rfl, below_tr (Joins.below_alloc1 w _) hb1⟩
  · have b2 : (k == 2) = false := by simpa using g2
    have b3 : (k == 3) = false := by simpa using g3
    have b4 : (k == 4) = false := by simpa using g4
    have b5 : (k == 5) = false := by simpa using g5
    have b6 : (k == 6) = false := by simpa using g6
    have HF := Lib.hid (show dnodeB true k n s (m : Int) = false from by simp [dnodeB, g2, g3, g4, g5, g6])
    clear g2 g3 g4 g5 g6
    go_enter Try.func31, Try.ntmps31
    go_wp2
    go_ret
    exact ⟨ret_bool HF.out.symm, Joins.below_alloc1 w _⟩
set_option maxHeartbeats 4000000 in
theorem iRightDN (q : List PN) (vq : Value) (bq : Nat) (x : PN) (u : Value) (w : World) (hcq : w.cell? ⟨bq, 0, none⟩ = some vq) (hbq : bq < w.heap.size) (hR : RowRd 4 PNEl w vq q) (hu : PNVal w u x) (hk : ∀ k ∈ x.kids, 0 ≤ k ∧ k < (q.length : Int)) :
    Calls Try.prog 30 #[u, .pointer (some ⟨bq, 0, none⟩)] w fun e w' => e = .returned (.bool (rightDB q x)) ∧ Below w.heap.size w w' := by
  obtain ⟨v3, rfl, i0, i1, i2, r3⟩ := hu
  have hP := fun W (hK : Kept w W) => iDNode x.kind x.n x.s x.kids v3 W (r3.kept IntEl.st hK) i2
  have HR := Lib.hid (show rightDB q x = (isDNB x && (!isConsB x || decide (firstPK q x.kids = 5))) from rfl)
  have hcons := isDN_cons x
  have e1 : dnodeB true x.kind x.n x.s (x.kids.length : Int) = isDNB x := rfl
  rw [e1] at hP
  have hC := fun W (hK : Kept w W) (h1 : isDNB x = true) => iRightPair q vq x v3 W (hR.kept PNEl.st hK) (r3.kept IntEl.st hK) i2 (hcons h1) hk
  obtain ⟨p3, c3, rfl, hm3, _⟩ := r3.form
  unfold maxLen at hm3
  obtain ⟨O, hO⟩ : ∃ O, O = Obj.cells #[.int .i64 x.kind, .int .i64 x.n, .string x.s, .slice p3 x.kids.length c3] 60 := ⟨_, rfl⟩
  have kO : Kept w (w.alloc O) := Kept.alloc _ _
  have z0 : w.heap.size < (w.alloc O).heap.size := by simp
  have d0 : (w.alloc O).cell? ⟨w.heap.size, 0, none⟩ = some (.int .i64 x.kind) := by rw [hO]; simp
  have d1 : (w.alloc O).cell? ⟨w.heap.size, 1, none⟩ = some (.int .i64 x.n) := by rw [hO]; simp
  have d2 : (w.alloc O).cell? ⟨w.heap.size, 2, none⟩ = some (.string x.s) := by rw [hO]; simp
  have d3 : (w.alloc O).cell? ⟨w.heap.size, 3, none⟩ = some (.slice p3 x.kids.length c3) := by rw [hO]; simp
  have dq := (kO.cell bq 0 hbq).trans hcq
  have bO : Below w.heap.size w (w.alloc O) := Joins.below_alloc1 w O
  have HP := fun W (hB : Below (w.alloc O).heap.size (w.alloc O) W) => hP W (kO.trans (Kept.of_below hB))
  have HC := fun (h1 : isDNB x = true) W (hB : Below (w.alloc O).heap.size (w.alloc O) W) => hC W (kO.trans (Kept.of_below hB)) h1
  have bq0 : bq < (w.alloc O).heap.size := Nat.lt_trans hbq z0
  clear hP hC hR r3 hcq hcons hk
  cases hb : isDNB x
  · rw [hb] at HP HR
    have HF := Lib.hid (show rightDB q x = false from by rw [HR.out]; rfl)
    clear HR HC
    go_enter Try.func30, Try.ntmps30
    go_wp2_with fail
    rw [← hO]
    clear hO
    generalize w.alloc O = wb at *
    have hI := fun W (hB : Below wb.heap.size wb W) => (⟨(hB.cell (p := ⟨_, 0, none⟩) z0).trans d0, (hB.cell (p := ⟨_, 1, none⟩) z0).trans d1, (hB.cell (p := ⟨_, 2, none⟩) z0).trans d2, (hB.cell (p := ⟨_, 3, none⟩) z0).trans d3⟩ : W.cell? ⟨w.heap.size, 0, none⟩ = some (.int .i64 x.kind) ∧ W.cell? ⟨w.heap.size, 1, none⟩ = some (.int .i64 x.n) ∧ W.cell? ⟨w.heap.size, 2, none⟩ = some (.string x.s) ∧ W.cell? ⟨w.heap.size, 3, none⟩ = some (.slice p3 x.kids.length c3))
    clear e1
    refine (HP _ (Below.refl _ _)).mono ?_
    rintro e w1 ⟨rfl, hb1⟩
    have hB1 := hb1
    have hcs1 := hI _ hB1
    go_split_ands
    have hHeld := hB1
    go_wp2
    go_ret
    exact ⟨ret_bool HF.out.symm, below_tr bO hHeld⟩
  · have HC := HC hb
    rw [hb] at HP HR
    have HF := Lib.hid (show (!isConsB x || decide (firstPK q x.kids = 5)) = rightDB q x from by rw [HR.out, Bool.true_and])
    rw [HF.out] at HC
    clear HR HF
    generalize rightDB q x = rr at *
    go_enter Try.func30, Try.ntmps30
    go_wp2_with fail
    rw [← hO]
    clear hO
    generalize w.alloc O = wb at *
    have hI := fun W (hB : Below wb.heap.size wb W) => (⟨(hB.cell (p := ⟨_, 0, none⟩) z0).trans d0, (hB.cell (p := ⟨_, 1, none⟩) z0).trans d1, (hB.cell (p := ⟨_, 2, none⟩) z0).trans d2, (hB.cell (p := ⟨_, 3, none⟩) z0).trans d3, (hB.cell (p := ⟨_, 0, none⟩) bq0).trans dq⟩ : W.cell? ⟨w.heap.size, 0, none⟩ = some (.int .i64 x.kind) ∧ W.cell? ⟨w.heap.size, 1, none⟩ = some (.int .i64 x.n) ∧ W.cell? ⟨w.heap.size, 2, none⟩ = some (.string x.s) ∧ W.cell? ⟨w.heap.size, 3, none⟩ = some (.slice p3 x.kids.length c3) ∧ W.cell? ⟨bq, 0, none⟩ = some vq)
    clear e1
    refine (HP _ (Below.refl _ _)).mono ?_
    rintro e w1 ⟨rfl, hb1⟩
    have hB1 := hb1
    have hcs1 := hI _ hB1
    go_split_ands
    go_wp2_with fail
    refine (HC _ hB1).mono ?_
    rintro e w2 ⟨rfl, hb2⟩
    have hB2 := below_tr hB1 hb2
    have hcs2 := hI _ hB2
    go_split_ands
    have hHeld := hB2
    go_wp2
    go_ret
    exact ⟨rfl, below_tr bO hHeld⟩
theorem e_iRightDN : ∀ args w, (callFunc 30 args).run Try.prog w = .ok (.enter 30 args) w := enters_of Try.func30 (by kernel_rfl) rfl
/-! ### The value's nodes as a pattern's -/
theorem iToPN (k n : Int) (s : ByteArray) (p3 : Option Addr) (m c3 : Nat) (w : World) : Calls Try.prog 29 #[.agg #[.int .i64 k, .int .i64 n, .string s, .slice p3 m c3]] w fun e w' => e = .returned (.agg #[.int .i64 k, .int .i64 n, .string s, .slice p3 m c3]) ∧ Below w.heap.size w w' := by
  go_enter Try.func29, Try.ntmps29
  go_wp2
  exact bodyPost_ret (v := .agg #[.int .i64 k, .int .i64 n, .string s, .slice p3 m c3]) (by simp [results, Try.results29, go_sem]) rfl ⟨rfl, Joins.below_alloc2 w _ _⟩
theorem e_iToPN : ∀ args w, (callFunc 29 args).run Try.prog w = .ok (.enter 29 args) w := enters_of Try.func29 (by kernel_rfl) rfl
theorem info_pnode : (Try.prog.info? 60).map (fun i => (i.zero, i.size, i.bytes)) = some (some (.agg #[.int .i64 0, .int .i64 0, .string ⟨#[]⟩, .slice none 0 0]), 4, 56) := by kernel_rfl
/-- Cells of a pattern's nodes, whose kids' slices are told. -/
def pnC (l : List (PN × Value)) : List Value := l.flatMap fun z => [.int .i64 z.1.kind, .int .i64 z.1.n, .string z.1.s, z.2]
theorem pnC_app (l m : List (PN × Value)) : pnC (l ++ m) = pnC l ++ pnC m := by simp [pnC]
theorem pnC_one (l : List (PN × Value)) (h : ∀ z ∈ l, z.2.oneCell' = true) : ∀ u ∈ pnC l, u.oneCell' = true := by
  intro u hu
  simp only [pnC, List.mem_flatMap] at hu
  obtain ⟨x, hx, hu⟩ := hu
  simp at hu
  rcases hu with rfl | rfl | rfl | rfl
  · rfl
  · rfl
  · rfl
  · exact h x hx
theorem own_appN {B B0 e n m : Nat} {w wr w1 : World} {v : Value} {xs : List Value} {C : Array Value} {T : TypeId} (hown : wr.ownsRow B e m v n xs) (hbel : Below B0 w wr) (h0 : B0 ≤ B) (hBs : B ≤ wr.heap.size)
    (hgrow : (wr.alloc (.cells C T)).grownBy w1 v.ownBlock) : Below B0 w w1 ∧ B ≤ w1.heap.size := by
  have hb2 : Below B0 w (wr.alloc (.cells C T)) := hbel.alloc (by omega) _
  refine ⟨hb2.grown hgrow (by simp; omega) (fun k hk => by have := (hown.lt k hk).1; omega), ?_⟩
  have := hgrow.size; simp at this; omega
theorem own_belN {B e n m : Nat} {wr w1 : World} {v : Value} {xs : List Value} (h : wr.ownsRow B e m v n xs) (hb : Below wr.heap.size wr w1) : w1.ownsRow B e m v n xs := by
  obtain ⟨h0, h1 | ⟨g, cap, cur, rfl, h1, h2, h3, h4, h5, h6⟩⟩ := h
  · exact ⟨h0, .inl h1⟩
  · refine ⟨h0, .inr ⟨g, cap, cur, rfl, h1, ?_, h3, h4, h5, h6⟩⟩
    rw [hb.block g (by have := (Array.getElem?_eq_some_iff.1 h2).1; exact this)]; exact h2
/-- The nodes told by their cells, read. -/
theorem own_pns {B e : Nat} {w : World} {v : Value} {zs : List (PN × Value)} {q : List PN} (h : w.ownsRow B e 4 v q.length (pnC zs)) (hq : zs.map Prod.fst = q)
    (hE : ∀ z ∈ zs, I64 z.1.kind ∧ I64 z.1.n ∧ z.1.s.size ≤ maxLen ∧ RowRd 1 IntEl w z.2 z.1.kids) : RowRd 4 PNEl w v q := by
  obtain ⟨F, hF, _, _⟩ := own_flat (R := PNEl) (by omega) h fun g i hi hc => by
    have hz : i < zs.length := by rw [← hq, List.length_map] at hi; exact hi
    have hg := fun j hj => (hc j hj).trans (flat_get (fun z : PN × Value => [Value.int .i64 z.1.kind, .int .i64 z.1.n, .string z.1.s, z.2]) 4 (fun _ => rfl) zs i j hz hj)
    obtain ⟨i0, i1, i2, i3⟩ := hE _ (List.getElem_mem hz)
    have hqi : q[i] = zs[i].1 := by subst hq; simp
    rw [hqi]
    exact ⟨⟨hg 0 (by omega), i0⟩, ⟨hg 1 (by omega), i1⟩, ⟨hg 2 (by omega), i2⟩, ⟨_, hg 3 (by omega), i3⟩⟩
  exact hF.reads (Flat.reads PNEl)
set_option maxHeartbeats 4000000 in
theorem iMapDP (l : List DN) (v : Value) (w : World) (hR : RowRd 4 DNEl w v l) (hl : l.length ≤ 1048576) :
    Calls Try.prog 28 #[v, .func (.func 29) #[] #[]] w fun e w' => ∃ v', e = .returned v' ∧ RowRd 4 PNEl w' v' (l.map toPN) ∧ Below w.heap.size w w' := by
  obtain ⟨p, cap, rfl, hm, hR⟩ := hR.form
  unfold maxLen at hm
  obtain ⟨ii, hi, hz0, hz1, hz2⟩ := info_parts info_pnode
  obtain ⟨w0, hmk, hown0, hgr0⟩ := run_make_own (P := Try.prog) w w.heap.size 40 60 ii (.agg #[.int .i64 0, .int .i64 0, .string ⟨#[]⟩, .slice none 0 0]) 4 Try.underlying40 hi hz0 hz1 .i64 .i64 l.length (by rw [hz2]; omega) (by unfold maxLen; omega) (Nat.le_refl _)
  have hb0 : Below w.heap.size w w0 := (Below.refl _ _).grown hgr0 (Nat.le_refl _) (fun k hk => by simp at hk)
  have e_g := e_iToPN
  go_enter Try.func28, Try.ntmps28
  go_wp2
  go_loopw [5, 13] (fun nx i wr => ∃ (k : Nat) (zs : List (PN × Value)), i = .int .i64 k ∧ k ≤ l.length ∧ Hid (zs.map Prod.fst = (l.take k).map toPN) ∧ zs.length = k ∧ wr.ownsRow w.heap.size 60 4 nx zs.length (pnC zs) ∧ Hid (∀ z ∈ zs, z.2.oneCell' = true ∧ I64 z.1.kind ∧ I64 z.1.n ∧ z.1.s.size ≤ maxLen ∧ RowRd 1 IntEl w z.2 z.1.kids) ∧ Below w.heap.size w wr ∧ w.heap.size ≤ wr.heap.size) (fun _ i _ => l.length - (intOf i).toNat)
  case atStart => exact ⟨0, [], rfl, Nat.zero_le _, Lib.hid rfl, rfl, hown0, Lib.hid (by simp), hb0, hb0.size⟩
  case round =>
    obtain ⟨k, zs, rfl, hk, hz, hlen, hown, hone, hbel, hsz⟩ := hrel
    by_cases hlt : k < l.length
    · obtain ⟨b, o, rfl, hbw, hc⟩ := hR (by omega)
      have ex0 := hc k hlt
      have ex := DNEl.st w wr b _ _ (Kept.of_below hbel) hbw ex0
      have HT := Lib.hid (show (l.take (k + 1)).map toPN = (l.take k).map toPN ++ [toPN l[k]] from take_map_succ toPN l k hlt)
      clear hc hR hmk hown0 hgr0 hb0
      generalize l[k] = x at *
      obtain ⟨_, _, _, ⟨v3w, e3w, r3⟩⟩ := ex0
      obtain ⟨⟨e0, i0⟩, ⟨e1, i1⟩, ⟨e2, i2⟩, ⟨v3, e3, -⟩⟩ := ex
      obtain rfl : v3 = v3w := by have := (hbel.cell (p := ⟨b, o + k * 4 + 3, none⟩) hbw).symm.trans e3; rw [e3w] at this; exact (Option.some.inj this).symm
      clear e3w
      have r3' := r3
      obtain ⟨p3, c3, rfl, m3, -⟩ := r3.form
      have hag := Lib.hid (iToPN x.kind x.n x.s p3 x.kids.length c3 (wr.alloc (.cells #[.int .i64 x.kind, .int .i64 x.n, .string x.s, .slice p3 x.kids.length c3] 55)))
      have hu1 : Hid (∀ z ∈ [((toPN x, .slice p3 x.kids.length c3) : PN × Value)], z.2.oneCell' = true) := Lib.hid (by intro y hy; rw [List.mem_singleton.1 hy]; rfl)
      go_wp2_with (first
        | (go_at_call 29; refine hag.out.mono ?_; rintro e w1 ⟨rfl, hb⟩; have hb1 := below_tr (Joins.below_alloc1 wr _) hb; have hown1 := own_belN hown hb1; have hbel1 := below_tr hbel hb1; have hsz1 := Nat.le_trans hsz hb1.size)
        | (at_builtin; go_loud (refine wpList_append_own _ rfl (.tmp 17) (.tmp 21) 40 rfl w.heap.size 60 ii (.agg #[.int .i64 0, .int .i64 0, .string ⟨#[]⟩, .slice none 0 0]) 4 56 Try.underlying40 hi hz0 hz1 hz2 rfl (by decide) _ zs.length (pnC zs) rfl (hown1.alloc _) ⟨w1.heap.size, 0, none⟩ 1 1 [.int .i64 x.kind, .int .i64 x.n, .string x.s, .slice p3 x.kids.length c3] rfl rfl (new_cells _ _ _ _ rfl) (pnC_one _ hu1.out) (by unfold maxLen; omega) (by omega) (by simp; omega) ?_); intro v' w2 hown' hgrow _))
      have R := own_appN hown1 hbel1 (Nat.le_refl _) hsz1 hgrow
      have hone2 : Hid (∀ z ∈ zs ++ [((toPN x, .slice p3 x.kids.length c3) : PN × Value)], z.2.oneCell' = true ∧ I64 z.1.kind ∧ I64 z.1.n ∧ z.1.s.size ≤ maxLen ∧ RowRd 1 IntEl w z.2 z.1.kids) := Lib.hid fun z hz' => (List.mem_append.1 hz').elim (hone.out z) fun h => by
        rw [List.mem_singleton.1 h]; exact ⟨rfl, i0, i1, i2, r3'⟩
      have hz2' : Hid ((zs ++ [((toPN x, .slice p3 x.kids.length c3) : PN × Value)]).map Prod.fst = (l.take (k + 1)).map toPN) := Lib.hid (by rw [List.map_append, hz.out, HT.out]; rfl)
      have hO : w2.ownsRow w.heap.size 60 4 v' (zs ++ [((toPN x, .slice p3 x.kids.length c3) : PN × Value)]).length (pnC (zs ++ [((toPN x, .slice p3 x.kids.length c3) : PN × Value)])) := by
        rw [pnC_app, List.length_append]; exact hown'
      clear hown hown1 hown' hgrow hbel hbel1 hone hu1 hag r3 r3' hz HT
      go_roundw
      case rel => exact ⟨k + 1, _, by go_num, by omega, hz2', by simp; omega, hO, hone2, R.1, R.2⟩
      case measure => simp [intOf]; omega
    · obtain rfl : k = l.length := by omega
      have hz' := hz.out
      rw [List.take_length] at hz'
      have hlm : zs.length = (l.map toPN).length := by rw [List.length_map]; exact hlen
      rw [hlm] at hown
      have hrd := Lib.hid (own_pns hown hz' fun z h => ⟨(hone.out z h).2.1, (hone.out z h).2.2.1, (hone.out z h).2.2.2.1, (hone.out z h).2.2.2.2.kept IntEl.st (Kept.of_below hbel)⟩)
      clear hR hmk hown0 hgr0 hb0 hz hz' hlm hown hone
      go_wp2
      go_ret
      exact ⟨_, rfl, hrd.out, hbel⟩
end Go.Proofs.Ytkalkmgnjlohnaa
