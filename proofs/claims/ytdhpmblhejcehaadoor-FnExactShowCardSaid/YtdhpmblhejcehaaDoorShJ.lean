/- The program's showing of a value: the whole. -/
import Derived.Test.YtdhpmblhejcehaaDoorShI
namespace Go.Proofs.YtdhpmblhejcehaaDoor
set_option linter.unusedVariables false
set_option maxRecDepth 100000
open Go.ChangeShapes Go.WideShapes Go.ChangeAt Go.RowKit

set_option maxHeartbeats 2000000 in
theorem iShPl (h : List Ce) (d : Nat) (m : Int) (v : Vl) (deep : Int) (pa : Option Addr) (mm ca : Nat) (w : World) (E : TabS w) (hv : valB m v = true) (hk6 : v.kind ≠ 6) (hn : I64 v.n) (hs : v.s.size ≤ 1048576) :
    Calls Tryd.prog 32 #[.slice pa mm ca, .agg #[.int .i64 v.kind, .int .i64 v.n, .string v.s], .int .i64 deep] w fun e w' => e = .returned (.string ⟨(shT h d v).toArray⟩) ∧ Below w.heap.size w w' := by
  have HK := shKinds hv
  obtain ⟨k, n, s⟩ := v
  simp only at HK hn hs hk6
  rcases HK with HK | HK | HK | HK | HK | HK | HK
  · subst HK
    have HN := fun (W : World) (hW : Below w.heap.size w W) => Lib.hid (iNumText n W (by have := hn.1; have := hn.2; omega) (E.below hW).tab)
    have HT := Lib.hid (show shT h d ⟨1, n, s⟩ = numL n from shT_pl h _ _ (by simp))
    go_enter Tryd.func32, Tryd.ntmps32
    go_wp2_with (go_at_call 50; refine (HN _ (Joins.below_alloc1 w _)).out.mono ?_; rintro e w1 ⟨rfl, hb1⟩)
    go_ret
    exact ⟨by rw [HT.out]; rfl, below_tr (Joins.below_alloc1 w _) hb1⟩
  · subst HK
    have HQ := fun W => Lib.hid (iQuote s W hs)
    have HT := Lib.hid (show shT h d ⟨2, n, s⟩ = quoteL s.data.toList from (shT_pl h _ _ (by simp)).trans (by simp [plT, pr_toList]))
    go_enter Tryd.func32, Tryd.ntmps32
    go_wp2_with (go_at_call 51; refine (HQ _).out.mono ?_; rintro e w1 ⟨rfl, hb1⟩)
    go_ret
    exact ⟨by rw [HT.out]; rfl, below_tr (Joins.below_alloc1 w _) hb1⟩
  · subst HK
    have HT := Lib.hid (show shT h d ⟨3, n, s⟩ = [40, 41] from shT_pl h _ _ (by simp))
    go_enter Tryd.func32, Tryd.ntmps32
    go_wp2
    go_ret
    exact ⟨by rw [HT.out]; rfl, Joins.below_alloc1 w _⟩
  · subst HK
    have HT := Lib.hid (show (⟨(shT h d ⟨4, n, s⟩).toArray⟩ : ByteArray) = s from by rw [shT_pl h _ _ (by simp)]; simp [plT, pr_toList])
    go_enter Tryd.func32, Tryd.ntmps32
    go_wp2
    go_ret
    exact ⟨by rw [HT.out]; rfl, Joins.below_alloc1 w _⟩
  · subst HK
    have HT := Lib.hid (show shT h d ⟨5, n, s⟩ = cat [⟨#[60]⟩, s, ⟨#[62]⟩] from (shT_pl h _ _ (by simp)).trans (by simp [plT, cat, pr_toList]))
    have hl : (cat [⟨#[60]⟩, s, ⟨#[62]⟩]).length ≤ 140737488355328 := by simp [cat]; omega
    obtain ⟨O, hO⟩ : ∃ O, O = Obj.cells #[.int .i64 5, .int .i64 n, .string s] 33 := ⟨_, rfl⟩
    have bO : Below w.heap.size w (w.alloc O) := Joins.below_alloc1 w O
    have HJ := fun (W : World) => Lib.hid (joined_new [⟨#[60]⟩, s, ⟨#[62]⟩] #[.string ⟨#[60]⟩, .string s, .string ⟨#[62]⟩] _ W rfl rfl (by simp) hl)
    go_enter Tryd.func32, Tryd.ntmps32
    go_wp2_with (go_at_call 52; rw [← hO]; refine (joined_new [⟨#[60]⟩, s, ⟨#[62]⟩] _ (w.heap.size + 1) (w.alloc O) rfl (by simp) (by simp) hl).mono ?_; rintro e w2 ⟨rfl, hb2⟩)
    go_ret
    exact ⟨by rw [HT.out]; rfl, below_tr bO hb2⟩
  · subst HK
    have HT := Lib.hid (show shT h d ⟨7, n, s⟩ = [45] from shT_pl h _ _ (by simp))
    go_enter Tryd.func32, Tryd.ntmps32
    go_wp2
    go_ret
    exact ⟨by rw [HT.out]; rfl, Joins.below_alloc1 w _⟩
  · exact absurd HK hk6
set_option maxHeartbeats 2000000 in
theorem iShowD (h : List Ce) (r : List Vl) (hb : heapB h r = true) (hz : bulkL bCe h ≤ 1048576) : ∀ (d : Nat), d ≤ 12 → ∀ (v : Vl) (deep : Int) (va : Value) (w : World), RowRd 9 CeEl w va h → TabS w → deep.toNat = d → I64 deep → valB h.length v = true → I64 v.n → v.s.size ≤ 1048576 →
    Calls Tryd.prog 32 #[va, .agg #[.int .i64 v.kind, .int .i64 v.n, .string v.s], .int .i64 deep] w fun e w' => e = .returned (.string ⟨(shT h d v).toArray⟩) ∧ Below w.heap.size w w' := by
  intro d
  induction d with
  | zero =>
    intro _ v deep va w hR E hdp hdI hv hn hs
    obtain ⟨pa, ca, rfl, -, -⟩ := hR.form
    by_cases hk6 : v.kind = 6
    · have hd0 : deep ≤ 0 := by omega
      obtain ⟨k, n, s⟩ := v
      simp only at hk6
      subst hk6
      have hdd : decide (deep ≤ 0) = true := by simpa using hd0
      clear hR E hv
      go_enter Tryd.func32, Tryd.ntmps32
      go_wp2
      go_ret
      exact ⟨rfl, Joins.below_alloc1 w _⟩
    · exact iShPl h 0 _ v deep pa h.length ca w E hv hk6 hn hs
  | succ d ih =>
    intro hd12 v deep va w hR E hdp hdI hv hn hs
    have hR0 := hR
    obtain ⟨pa, ca, rfl, hm, hRf⟩ := hR.form
    unfold maxLen at hm
    clear hR
    by_cases hk6 : v.kind = 6
    · obtain ⟨hde, dm1⟩ := sh_nat hdp
      clear hdp
      have hdd : decide (deep ≤ 0) = false := by simp; omega
      have dm2 : I64 (deep - 1) := by unfold I64 at *; omega
      have wd : wrap64 (deep - 1) = deep - 1 := by have := hdI.1; have := hdI.2; unfold wrap64; omega
      have hd12' : d ≤ 12 := by omega
      clear hde
      obtain ⟨k, n, s⟩ := v
      simp only at hk6 hn hs
      subst hk6
      obtain ⟨n0, n1, -⟩ := val_cell hv rfl
      simp only at n0 n1
      obtain ⟨p, rfl⟩ : ∃ p : Nat, n = (p : Int) := ⟨n.toNat, by clear wd; omega⟩
      have hp : p < h.length := by clear wd; omega
      have HT := Lib.hid (show shT h (d + 1) ⟨6, (p : Int), s⟩ = ceT h[p] (shT h d h[p].a) (shT h d h[p].b) from shT_at h d _ p rfl (by simp) hp)
      obtain ⟨b, o, rfl, hbw, hc⟩ := hRf (by clear wd; omega)
      obtain ⟨⟨e0, e1, e2, e3, e4, e5, e6, e7, e8⟩, i0, i1, i2, i3, i4, i5, i6, i7, i8⟩ := ce_at (hc p hp)
      have hzb := sh_bulk hz h[p] (List.getElem_mem hp)
      obtain ⟨va1, k1, k2⟩ := heap_one hb hp
      have hlA := sh_size (h := h) (v := h[p].a) hz hzb.2.1 d hd12'
      have hlB := sh_size (h := h) (v := h[p].b) hz hzb.2.2 d hd12'
      have HC := Lib.hid (fun W (hW : Below w.heap.size w W) => iShCell (some ⟨b, o, none⟩) h.length ca (deep - 1) h[p] (shT h d h[p].a) (shT h d h[p].b) W (E.below hW) ⟨k1, k2⟩ i1 hzb.1 hlA hlB
        (fun W' hW' => ih hd12' h[p].a (deep - 1) _ W' (hR0.kept CeEl.st (Kept.of_below (below_tr hW hW'))) (E.below (below_tr hW hW')) dm1 dm2 va1 i4 hzb.2.1)
        (fun hk W' hW' => ih hd12' h[p].b (deep - 1) _ W' (hR0.kept CeEl.st (Kept.of_below (below_tr hW hW'))) (E.below (below_tr hW hW')) dm1 dm2 (heap_two hb hp hk) i7 hzb.2.2))
      clear hc hRf ih hR0 hv hzb va1 k1 k2 hlA hlB E i0 i1 i2 i3 i4 i5 i6 i7 i8
      generalize h[p] = y at *
      generalize shT h d y.a = TA at *
      generalize shT h d y.b = TB at *
      have n1' : (p : Int) < (h.length : Int) := n1
      have l0 : b < w.heap.size + 1 := by clear wd; omega
      go_enter Tryd.func32, Tryd.ntmps32
      go_wp2_with (go_at_call 53; refine (HC.out _ (Joins.below_alloc1 w _)).mono ?_; rintro e w1 ⟨rfl, hb1⟩)
      go_ret
      exact ⟨by rw [HT.out]; rfl, below_tr (Joins.below_alloc1 w _) hb1⟩
    · exact iShPl h (d + 1) _ v deep pa h.length ca w E hv hk6 hn hs
set_option maxHeartbeats 1000000 in
theorem iShowC (h : List Ce) (v : Vl) (deep : Int) (va : Value) (w : World) (hR : RowRd 9 CeEl w va h) (hz : bulkL bCe h ≤ 1048576) (hzv : v.s.size ≤ 1048576) (hk : I64 v.kind) (hn : I64 v.n) (hd : I64 deep) (E : TabS w) :
    Calls Tryd.prog 10 #[va, .agg #[.int .i64 v.kind, .int .i64 v.n, .string v.s], .int .i64 deep] w fun e w' => e = .returned (.string (shRes h v deep)) ∧ Below w.heap.size w w' := by
  have hvs : v.s.size ≤ maxLen := by unfold maxLen; omega
  have HOK := fun W (hW : Below w.heap.size w W) (T : TypeId) => Lib.hid (iHeapOk h [v] va (.slice (some ⟨W.heap.size, 0, none⟩) 1 1) (W.alloc (.cells #[.int .i64 v.kind, .int .i64 v.n, .string v.s] T)) (hR.kept CeEl.st ((Kept.of_below hW).trans (Kept.alloc _ _)))
    (RowRd.mk (l := [v]) (by simp [maxLen]) (by simp) fun _ => ⟨W.heap.size, 0, rfl, by simp, fun i hi => by
      obtain rfl : i = 0 := by simpa using hi
      exact ⟨⟨by simp, hk⟩, ⟨by simp, hn⟩, ⟨by simp, hvs⟩⟩⟩))
  have HSH := fun (hb : heapB h [v] = true) (h12 : deep ≤ 12) W (hW : Below w.heap.size w W) => Lib.hid (iShowD h [v] hb hz deep.toNat (by omega) v deep va W (hR.kept CeEl.st (Kept.of_below hW)) (E.below hW) rfl hd (by
    simp only [heapB, Bool.and_eq_true] at hb
    exact List.all_eq_true.1 hb.2.2 v (by simp)) hn hzv)
  obtain ⟨pa, ca, rfl, -, -⟩ := hR.form
  obtain ⟨k, n, s⟩ := v
  simp only at HOK HSH
  obtain ⟨O, hO⟩ : ∃ O, O = Obj.cells #[.int .i64 k, .int .i64 n, .string s] 33 := ⟨_, rfl⟩
  have bO : Below w.heap.size w (w.alloc O) := Joins.below_alloc1 w O
  have y0 : (w.alloc O).cell? ⟨w.heap.size, 0, none⟩ = some (.int .i64 k) := by rw [hO]; simp
  have y1 : (w.alloc O).cell? ⟨w.heap.size, 1, none⟩ = some (.int .i64 n) := by rw [hO]; simp
  have y2 : (w.alloc O).cell? ⟨w.heap.size, 2, none⟩ = some (.string s) := by rw [hO]; simp
  have z : w.heap.size < (w.alloc O).heap.size := by simp
  have HOK1 := HOK _ bO 33
  have hs1 : (w.alloc O).heap.size = w.heap.size + 1 := by simp
  rw [hs1, ← hO] at HOK1
  clear hs1
  clear HOK E
  by_cases h12 : deep ≤ 12
  · have hd2 : decide (12 < deep) = false := by simp; omega
    cases hb : heapB h [⟨k, n, s⟩]
    · rw [hb] at HOK1
      have HB := Lib.hid (show shRes h ⟨k, n, s⟩ deep = ⟨#[]⟩ from by simp [shRes, hb])
      clear HSH
      go_enter Tryd.func10, Tryd.ntmps10
      go_wp2_with fail
      rw [← hO]
      clear hO
      generalize w.alloc O = W at *
      refine HOK1.out.mono ?_
      rintro e w1 ⟨rfl, hb1⟩
      go_wp2
      go_ret
      exact ⟨by rw [HB.out]; rfl, below_tr (below_tr bO (Joins.below_alloc1 W _)) hb1⟩
    · rw [hb] at HOK1
      have HB := Lib.hid (show shRes h ⟨k, n, s⟩ deep = ⟨(shT h deep.toNat ⟨k, n, s⟩).toArray⟩ from by simp [shRes, hb, h12])
      have HSH3 := HSH hb h12
      clear HSH
      generalize shT h deep.toNat ⟨k, n, s⟩ = TT at *
      go_enter Tryd.func10, Tryd.ntmps10
      go_wp2_with fail
      rw [← hO]
      clear hO
      generalize w.alloc O = W at *
      refine HOK1.out.mono ?_
      rintro e w1 ⟨rfl, hb1⟩
      have B1 := below_tr (Joins.below_alloc1 W _) hb1
      have BB := below_tr bO B1
      have f0 := (B1.cell (p := ⟨w.heap.size, 0, none⟩) z).trans y0
      have f1 := (B1.cell (p := ⟨w.heap.size, 1, none⟩) z).trans y1
      have f2 := (B1.cell (p := ⟨w.heap.size, 2, none⟩) z).trans y2
      go_wp2_with fail
      refine (HSH3 _ BB).out.mono ?_
      rintro e w2 ⟨rfl, hb2⟩
      go_wp2
      go_ret
      exact ⟨by rw [HB.out]; rfl, below_tr BB hb2⟩
  · have HB := Lib.hid (show shRes h ⟨k, n, s⟩ deep = ⟨#[]⟩ from by simp [shRes, h12])
    have hd2 : decide (12 < deep) = true := by simp; omega
    clear HSH HOK1
    go_enter Tryd.func10, Tryd.ntmps10
    go_wp2
    go_ret
    exact ⟨by rw [HB.out]; rfl, by first | exact bO | (rw [hO] at bO; exact bO)⟩
end Go.Proofs.YtdhpmblhejcehaaDoor
