/- The model's draws of values and heaps: a heap. -/
import Derived.Test.YtdhpmblhejcehaaDoorHpD
namespace Go.Proofs.YtdhpmblhejcehaaDoor
set_option linter.unusedVariables false
set_option maxRecDepth 100000
open Go.ChangeShapes Go.WideShapes Go.ChangeAt Go.RowKit

/-- A cell, its texts short. -/
def Ce5 (x : Ce) : Prop := I64 x.kind ∧ I64 x.n ∧ x.s.size ≤ 5 ∧ Vl5 x.a ∧ Vl5 x.b
theorem Vl5.zero : Vl5 ⟨0, 0, ⟨#[]⟩⟩ := ⟨by show -9223372036854775808 ≤ (0 : Int) ∧ (0 : Int) ≤ 9223372036854775807; omega, by show -9223372036854775808 ≤ (0 : Int) ∧ (0 : Int) ≤ 9223372036854775807; omega, by show (0 : Nat) ≤ 5; omega⟩
theorem i64_of {x : Int} (h0 : -9223372036854775808 ≤ x) (h1 : x ≤ 9223372036854775807) : I64 x := ⟨h0, h1⟩
/-- A row made since W stays while the cursor moves. -/
theorem own_moved {W w1 w2 : World} {e n m P : Nat} {v : Value} {xs : List Value} (h : w1.ownsRow W.heap.size e m v n xs) (hP : P < W.heap.size) (ho : Only P w1 w2) : w2.ownsRow W.heap.size e m v n xs :=
  own_blkN h fun g hg => ho.block g (h.lt g hg).2 (by have := (h.lt g hg).1; omega)
def DrawnH (B P : Nat) (a : Option Addr) (len cap : Nat) (zs : List Int) (w : World) (e : Ending) (w' : World) : Prop :=
  ∃ (u v : Value) (h : List Ce) (r : List Vl), e = .returned (.tuple #[u, v]) ∧ w'.ownsRow w.heap.size 53 9 u h.length (cc h) ∧ w'.ownsRow w.heap.size 33 3 v r.length (vc r) ∧ h.length ≤ 11 ∧ r.length ≤ 4 ∧ (∀ x ∈ h, Ce5 x) ∧ (∀ x ∈ r, Vl5 x) ∧ Moved B P a len cap zs w w'
set_option maxHeartbeats 4000000 in
theorem sDrawH (B P : Nat) (a : Option Addr) (len cap : Nat) (zs : List Int) (w : World) (hC : Cur B P a len cap zs w) :
    Calls Tryd.prog 37 #[.pointer (some ⟨P, 0, none⟩)] w (DrawnH B P a len cap zs w) := by
  obtain ⟨kk, ci, cz0, cz1, cz2⟩ := info_parts info_ce
  obtain ⟨jj, hi, hz0, hz1, hz2⟩ := info_parts info_vl
  have hP := hC.sz
  have hown0 : (w.alloc (.cells #[] 53)).ownsRow w.heap.size 53 9 (.slice (some ⟨w.heap.size, 0, none⟩) 0 0) 0 (cc []) := World.ownsRow_lit w #[] 0 (Nat.le_refl _) (by decide) rfl
  have hM0 : Moved B P a len cap zs w (w.alloc (.cells #[] 53)) := (Moved.refl hC).alloc _
  go_enter Tryd.func37, Tryd.ntmps37
  go_wp2_with fail
  refine (l01Below 12 _ _ _ _ _ _ _ hM0.1 (by omega) (by omega)).mono ?_
  rintro e w0 ⟨n, hn0, hn1, rfl, hMn⟩
  have hown1 := own_moved hown0 hP hMn.2
  have hM1 := hM0.trans hMn
  clear hown0 hM0 hMn hC
  go_wp2
  go_loopw [4, 6] (fun hv i wr => ∃ L : List Ce, i = .int .i64 (L.length : Int) ∧ (L.length : Int) ≤ n ∧ (∀ x ∈ L, Ce5 x) ∧ wr.ownsRow w.heap.size 53 9 hv L.length (cc L) ∧ Moved B P a len cap zs w wr) (fun _ i _ => n.toNat - (intOf i).toNat)
  case atStart => exact ⟨[], rfl, by simp; omega, by simp, hown1, hM1⟩
  case round =>
    clear hown1 hM1
    obtain ⟨L, rfl, hL, hL5, hown, hM⟩ := hrel
    have hsz := hM.2.size
    by_cases hlt : (L.length : Int) < n
    · have HL5 := Lib.hid hL5
      generalize hm : L.length = m at *
      have HM := Lib.hid hm
      clear hL5 hm hi hz0 hz1 hz2
      go_wp2_with fail
      refine (l01Below 6 _ _ _ _ _ _ _ hM.1 (by omega) (by omega)).mono ?_
      rintro e w1 ⟨kd, hk0, hk1, rfl, hM1⟩
      have ow1 := own_moved hown hP hM1.2
      have hMa := hM.trans hM1
      go_wp2_with fail
      refine (sDrawVal n _ _ _ _ _ _ _ hMa.1 (by omega) (by omega)).mono ?_
      rintro e w2 ⟨va, hva, rfl, hM2⟩
      have ow2 := own_moved ow1 hP hM2.2
      have hMb := hMa.trans hM2
      have hs2 := hMb.2.size
      have hPb : w2.heap.size ≠ P := by omega
      have HOB := Lib.hid (fun g hg => (ow2.lt g hg).2)
      clear hown hM hM1 ow1 hMa hM2
      have hkd : kd = 0 ∨ kd = 1 ∨ kd = 2 ∨ kd = 3 ∨ kd = 4 ∨ kd = 5 := by omega
      rcases hkd with rfl | rfl | rfl | rfl | rfl | rfl
      · go_wp2_with fail
        refine hp_gen (P := fun W => Calls _ _ _ W _) _ ?_
        intro W3 hW3
        have b3 : Below w2.heap.size w2 W3 := by rw [hW3]; exact Joins.below_alloc2 _ _ _
        have bx3 : W3.heap[w2.heap.size]? = some (.cells #[.int .i64 1, .int .i64 0, .string ⟨#[]⟩, .int .i64 va.kind, .int .i64 va.n, .string va.s, .int .i64 0, .int .i64 0, .string ⟨#[]⟩] 53 (0, 0)) := by rw [hW3]; exact hp_was (hp_al w2 _ rfl) _
        have lt3 : W3.heap[w2.heap.size + 1]? = some (.cells #[.string ⟨#[78, 111, 100, 101]⟩, .string ⟨#[58, 58]⟩] 9 (0, 0)) := by rw [hW3]; exact hp_al _ _ (by simp)
        clear hW3
        have hM3 := hMb.new (b3.mono hs2) hP
        have ow3 := own_belN ow2 b3
        clear ow2 hMb b3
        refine (l01Below 2 _ _ _ _ _ _ _ hM3.1 (by omega) (by omega)).mono ?_
        rintro e w4 ⟨z, hz0, hz1, rfl, hM4⟩
        have bx4 := (hM4.2.block _ (hp_lt bx3) hPb).trans bx3
        have lt4 := (hM4.2.block _ (hp_lt lt3) (by omega)).trans lt3
        have ow4 := own_moved ow3 hP hM4.2
        have hM5 := hM3.trans hM4
        have hob : ∀ g, (show Value from u4).ownBlock = some g → g ≠ w2.heap.size := fun g hg => by have := HOB.out g hg; omega
        clear bx3 ow3 hM3 hM4 lt3
        have d0 := hp_cell bx4 0
        have d2 := hp_cell bx4 2
        have g2 := hp_fr bx4 2
        have l0 := hp_cell lt4 0
        have l1 := hp_cell lt4 1
        simp at d0 d2 l0 l1
        have hzz : z = 0 ∨ z = 1 := by omega
        obtain ⟨s, hs5, hz⟩ : ∃ s : ByteArray, s.size ≤ 5 ∧ w4.cell? ⟨w2.heap.size + 1, z.toNat, none⟩ = some (.string s) := by
          rcases hzz with rfl | rfl
          · exact ⟨_, by show (4 : Nat) ≤ 5; omega, l0⟩
          · exact ⟨_, by show (2 : Nat) ≤ 5; omega, l1⟩
        obtain ⟨zn, rfl⟩ : ∃ zn : Nat, z = (zn : Int) := ⟨z.toNat, by omega⟩
        simp only [Int.toNat_natCast] at hz
        have z2 : (zn : Int) < 2 := by omega
        have z2n : zn < 2 := by omega
        have z3 : (0 : Int) ≤ (zn : Int) := by omega
        clear l0 l1 lt4 hzz
        go_upto_region 13 with fail
        refine hp_gen (P := fun W => Code.wp _ _ _ _ W) _ ?_
        intro W9 hW9
        have bx9 : W9.heap[w2.heap.size]? = some (.cells #[.int .i64 1, .int .i64 0, .string s, .int .i64 va.kind, .int .i64 va.n, .string va.s, .int .i64 0, .int .i64 0, .string ⟨#[]⟩] 53 (0, 0)) := by
          rw [hW9]
          have := hp_put (i := 2) (u := .string s) bx4
          simpa using this
        have hM9 : Moved B P a len cap zs w W9 := by rw [hW9]; exact hM5.new ((Below.refl _ _).setCell (by exact hs2) _) hP
        have ow9 : W9.ownsRow w.heap.size 53 9 u4 m (cc L) := by
          rw [hW9]; exact own_blkN ow4 (fun g hg => Below.heap_setCell _ _ _ _ (hob g hg))
        have hx9 : Ce5 ⟨1, 0, s, va, ⟨0, 0, ⟨#[]⟩⟩⟩ := ⟨i64_of (x := 1) (by omega) (by omega), i64_of (x := 0) (by omega) (by omega), hs5, hva, Vl5.zero⟩
        clear hW9 bx4 ow4 hM5 d0 d2 g2
        have p40 := hp_cell bx9 0
        have p41 := hp_cell bx9 1
        have p42 := hp_cell bx9 2
        have p43 := hp_cell bx9 3
        have p44 := hp_cell bx9 4
        have p45 := hp_cell bx9 5
        have p46 := hp_cell bx9 6
        have p47 := hp_cell bx9 7
        have p48 := hp_cell bx9 8
        simp at p40 p41 p42 p43 p44 p45 p46 p47 p48
        have hs9 := hM9.2.size
        have h63 : m + 1 ≤ maxLen := by unfold maxLen; omega
        have hby : (m + 1) * 96 ≤ 140737488355328 := by omega
        go_wp2_with (at_builtin; refine wpList_append_own _ rfl (.tmp 57) (.tmp 59) 23 rfl w.heap.size 53 kk (.agg #[.int .i64 0, .int .i64 0, .string ⟨#[]⟩, .int .i64 0, .int .i64 0, .string ⟨#[]⟩, .int .i64 0, .int .i64 0, .string ⟨#[]⟩]) 9 96 Tryd.underlying23 ci cz0 cz1 cz2 rfl (by decide) _ m (cc L) rfl (ow9.alloc _) ⟨W9.heap.size, 0, none⟩ 1 1 (cc [(⟨1, 0, s, va, ⟨0, 0, ⟨#[]⟩⟩⟩ : Ce)]) rfl rfl (new_cells _ _ _ _ rfl) (cc_cell _) h63 hby (by simp; omega) ?_; intro v2 w7 hown7 hgrow7 _)
        have R := own_grow ow9 (Below.refl w.heap.size W9) (Nat.le_refl _) hs9 hgrow7
        have hM7 := hM9.new R.1 hP
        have hln : (L ++ [(⟨1, 0, s, va, ⟨0, 0, ⟨#[]⟩⟩⟩ : Ce)]).length = m + 1 := by rw [List.length_append, HM.out]; rfl
        have hown8 : w7.ownsRow w.heap.size 53 9 v2 (L ++ [(⟨1, 0, s, va, ⟨0, 0, ⟨#[]⟩⟩⟩ : Ce)]).length (cc (L ++ [(⟨1, 0, s, va, ⟨0, 0, ⟨#[]⟩⟩⟩ : Ce)])) := by rw [hln, cc_app]; exact hown7
        have H5 := Lib.hid (show ∀ x ∈ L ++ [(⟨1, 0, s, va, ⟨0, 0, ⟨#[]⟩⟩⟩ : Ce)], Ce5 x from fun x hx => by
          rcases List.mem_append.1 hx with hx | hx
          · exact HL5.out x hx
          · rw [List.mem_singleton] at hx; subst hx; exact hx9)
        have HLN := Lib.hid hln
        clear hown7 hgrow7 ow9 hln p40 p41 p42 p43 p44 p45 p46 p47 p48 bx9
        go_wp2
        go_roundw
        case rel => exact ⟨_, by rw [HLN.out]; go_num, by rw [HLN.out]; omega, H5.out, hown8, hM7⟩
        case measure => simp [intOf]; omega
      · go_wp2_with fail
        refine hp_gen (P := fun W => Calls _ _ _ W _) _ ?_
        intro W3 hW3
        have b3 : Below w2.heap.size w2 W3 := by rw [hW3]; exact Joins.below_alloc1 _ _
        have bx3 : W3.heap[w2.heap.size]? = some (.cells #[.int .i64 2, .int .i64 0, .string ⟨#[]⟩, .int .i64 va.kind, .int .i64 va.n, .string va.s, .int .i64 0, .int .i64 0, .string ⟨#[]⟩] 53 (0, 0)) := by rw [hW3]; exact hp_al _ _ rfl
        clear hW3
        have hM3 := hMb.new (b3.mono hs2) hP
        have ow3 := own_belN ow2 b3
        clear ow2 hMb b3
        refine (sDrawVal n _ _ _ _ _ _ _ hM3.1 (by omega) (by omega)).mono ?_
        rintro e w4 ⟨vb, hvb, rfl, hM4⟩
        have bx4 := (hM4.2.block _ (hp_lt bx3) hPb).trans bx3
        have ow4 := own_moved ow3 hP hM4.2
        have hM5 := hM3.trans hM4
        have hob : ∀ g, (show Value from u4).ownBlock = some g → g ≠ w2.heap.size := fun g hg => by have := HOB.out g hg; omega
        clear bx3 ow3 hM3 hM4
        have d0 := hp_cell bx4 0
        have d6 := hp_cell bx4 6
        have d7 := hp_cell bx4 7
        have d8 := hp_cell bx4 8
        have g6 := hp_fr bx4 6
        have g7 := hp_fr bx4 7
        have g8 := hp_fr bx4 8
        simp at d0 d6 d7 d8
        go_upto_region 13 with fail
        refine hp_gen (P := fun W => Code.wp _ _ _ _ W) _ ?_
        intro W9 hW9
        have bx9 : W9.heap[w2.heap.size]? = some (.cells #[.int .i64 2, .int .i64 0, .string ⟨#[]⟩, .int .i64 va.kind, .int .i64 va.n, .string va.s, .int .i64 vb.kind, .int .i64 vb.n, .string vb.s] 53 (0, 0)) := by
          rw [hW9]
          have := hp_put (i := 8) (u := .string vb.s) (hp_put (i := 7) (u := .int .i64 vb.n) (hp_put (i := 6) (u := .int .i64 vb.kind) bx4))
          simpa using this
        have hM9 : Moved B P a len cap zs w W9 := by rw [hW9]; exact hM5.new ((((Below.refl _ _).setCell (by exact hs2) _).setCell (by exact hs2) _).setCell (by exact hs2) _) hP
        have ow9 : W9.ownsRow w.heap.size 53 9 u4 m (cc L) := by
          rw [hW9]; exact own_blkN ow4 (fun g hg => (Below.heap_setCell _ _ _ _ (hob g hg)).trans ((Below.heap_setCell _ _ _ _ (hob g hg)).trans (Below.heap_setCell _ _ _ _ (hob g hg))))
        have hx9 : Ce5 ⟨2, 0, ⟨#[]⟩, va, vb⟩ := ⟨i64_of (x := 2) (by omega) (by omega), i64_of (x := 0) (by omega) (by omega), by show (0 : Nat) ≤ 5; omega, hva, hvb⟩
        clear hW9 bx4 ow4 hM5 d0 d6 d7 d8 g6 g7 g8
        have p40 := hp_cell bx9 0
        have p41 := hp_cell bx9 1
        have p42 := hp_cell bx9 2
        have p43 := hp_cell bx9 3
        have p44 := hp_cell bx9 4
        have p45 := hp_cell bx9 5
        have p46 := hp_cell bx9 6
        have p47 := hp_cell bx9 7
        have p48 := hp_cell bx9 8
        simp at p40 p41 p42 p43 p44 p45 p46 p47 p48
        have hs9 := hM9.2.size
        have h63 : m + 1 ≤ maxLen := by unfold maxLen; omega
        have hby : (m + 1) * 96 ≤ 140737488355328 := by omega
        go_wp2_with (at_builtin; refine wpList_append_own _ rfl (.tmp 57) (.tmp 59) 23 rfl w.heap.size 53 kk (.agg #[.int .i64 0, .int .i64 0, .string ⟨#[]⟩, .int .i64 0, .int .i64 0, .string ⟨#[]⟩, .int .i64 0, .int .i64 0, .string ⟨#[]⟩]) 9 96 Tryd.underlying23 ci cz0 cz1 cz2 rfl (by decide) _ m (cc L) rfl (ow9.alloc _) ⟨W9.heap.size, 0, none⟩ 1 1 (cc [(⟨2, 0, ⟨#[]⟩, va, vb⟩ : Ce)]) rfl rfl (new_cells _ _ _ _ rfl) (cc_cell _) h63 hby (by simp; omega) ?_; intro v2 w7 hown7 hgrow7 _)
        have R := own_grow ow9 (Below.refl w.heap.size W9) (Nat.le_refl _) hs9 hgrow7
        have hM7 := hM9.new R.1 hP
        have hln : (L ++ [(⟨2, 0, ⟨#[]⟩, va, vb⟩ : Ce)]).length = m + 1 := by rw [List.length_append, HM.out]; rfl
        have hown8 : w7.ownsRow w.heap.size 53 9 v2 (L ++ [(⟨2, 0, ⟨#[]⟩, va, vb⟩ : Ce)]).length (cc (L ++ [(⟨2, 0, ⟨#[]⟩, va, vb⟩ : Ce)])) := by rw [hln, cc_app]; exact hown7
        have H5 := Lib.hid (show ∀ x ∈ L ++ [(⟨2, 0, ⟨#[]⟩, va, vb⟩ : Ce)], Ce5 x from fun x hx => by
          rcases List.mem_append.1 hx with hx | hx
          · exact HL5.out x hx
          · rw [List.mem_singleton] at hx; subst hx; exact hx9)
        have HLN := Lib.hid hln
        clear hown7 hgrow7 ow9 hln p40 p41 p42 p43 p44 p45 p46 p47 p48 bx9
        go_wp2
        go_roundw
        case rel => exact ⟨_, by rw [HLN.out]; go_num, by rw [HLN.out]; omega, H5.out, hown8, hM7⟩
        case measure => simp [intOf]; omega
      · go_wp2_with fail
        refine hp_gen (P := fun W => Calls _ _ _ W _) _ ?_
        intro W3 hW3
        have b3 : Below w2.heap.size w2 W3 := by rw [hW3]; exact Joins.below_alloc1 _ _
        have bx3 : W3.heap[w2.heap.size]? = some (.cells #[.int .i64 3, .int .i64 0, .string ⟨#[]⟩, .int .i64 va.kind, .int .i64 va.n, .string va.s, .int .i64 0, .int .i64 0, .string ⟨#[]⟩] 53 (0, 0)) := by rw [hW3]; exact hp_al _ _ rfl
        clear hW3
        have hM3 := hMb.new (b3.mono hs2) hP
        have ow3 := own_belN ow2 b3
        clear ow2 hMb b3
        refine (l01Below 50 _ _ _ _ _ _ _ hM3.1 (by omega) (by omega)).mono ?_
        rintro e w4 ⟨z, hz0, hz1, rfl, hM4⟩
        have bx4 := (hM4.2.block _ (hp_lt bx3) hPb).trans bx3
        have ow4 := own_moved ow3 hP hM4.2
        have hM5 := hM3.trans hM4
        have hob : ∀ g, (show Value from u4).ownBlock = some g → g ≠ w2.heap.size := fun g hg => by have := HOB.out g hg; omega
        clear bx3 ow3 hM3 hM4
        have d0 := hp_cell bx4 0
        have d1 := hp_cell bx4 1
        have g1 := hp_fr bx4 1
        simp at d0 d1
        go_upto_region 13 with fail
        refine hp_gen (P := fun W => Code.wp _ _ _ _ W) _ ?_
        intro W9 hW9
        have bx9 : W9.heap[w2.heap.size]? = some (.cells #[.int .i64 3, .int .i64 z, .string ⟨#[]⟩, .int .i64 va.kind, .int .i64 va.n, .string va.s, .int .i64 0, .int .i64 0, .string ⟨#[]⟩] 53 (0, 0)) := by
          rw [hW9]
          have := hp_put (i := 1) (u := .int .i64 z) bx4
          simpa using this
        have hM9 : Moved B P a len cap zs w W9 := by rw [hW9]; exact hM5.new ((Below.refl _ _).setCell (by exact hs2) _) hP
        have ow9 : W9.ownsRow w.heap.size 53 9 u4 m (cc L) := by
          rw [hW9]; exact own_blkN ow4 (fun g hg => Below.heap_setCell _ _ _ _ (hob g hg))
        have hx9 : Ce5 ⟨3, z, ⟨#[]⟩, va, ⟨0, 0, ⟨#[]⟩⟩⟩ := ⟨i64_of (x := 3) (by omega) (by omega), i64_of (x := z) (by omega) (by omega), by show (0 : Nat) ≤ 5; omega, hva, Vl5.zero⟩
        clear hW9 bx4 ow4 hM5 d0 d1 g1
        have p40 := hp_cell bx9 0
        have p41 := hp_cell bx9 1
        have p42 := hp_cell bx9 2
        have p43 := hp_cell bx9 3
        have p44 := hp_cell bx9 4
        have p45 := hp_cell bx9 5
        have p46 := hp_cell bx9 6
        have p47 := hp_cell bx9 7
        have p48 := hp_cell bx9 8
        simp at p40 p41 p42 p43 p44 p45 p46 p47 p48
        have hs9 := hM9.2.size
        have h63 : m + 1 ≤ maxLen := by unfold maxLen; omega
        have hby : (m + 1) * 96 ≤ 140737488355328 := by omega
        go_wp2_with (at_builtin; refine wpList_append_own _ rfl (.tmp 57) (.tmp 59) 23 rfl w.heap.size 53 kk (.agg #[.int .i64 0, .int .i64 0, .string ⟨#[]⟩, .int .i64 0, .int .i64 0, .string ⟨#[]⟩, .int .i64 0, .int .i64 0, .string ⟨#[]⟩]) 9 96 Tryd.underlying23 ci cz0 cz1 cz2 rfl (by decide) _ m (cc L) rfl (ow9.alloc _) ⟨W9.heap.size, 0, none⟩ 1 1 (cc [(⟨3, z, ⟨#[]⟩, va, ⟨0, 0, ⟨#[]⟩⟩⟩ : Ce)]) rfl rfl (new_cells _ _ _ _ rfl) (cc_cell _) h63 hby (by simp; omega) ?_; intro v2 w7 hown7 hgrow7 _)
        have R := own_grow ow9 (Below.refl w.heap.size W9) (Nat.le_refl _) hs9 hgrow7
        have hM7 := hM9.new R.1 hP
        have hln : (L ++ [(⟨3, z, ⟨#[]⟩, va, ⟨0, 0, ⟨#[]⟩⟩⟩ : Ce)]).length = m + 1 := by rw [List.length_append, HM.out]; rfl
        have hown8 : w7.ownsRow w.heap.size 53 9 v2 (L ++ [(⟨3, z, ⟨#[]⟩, va, ⟨0, 0, ⟨#[]⟩⟩⟩ : Ce)]).length (cc (L ++ [(⟨3, z, ⟨#[]⟩, va, ⟨0, 0, ⟨#[]⟩⟩⟩ : Ce)])) := by rw [hln, cc_app]; exact hown7
        have H5 := Lib.hid (show ∀ x ∈ L ++ [(⟨3, z, ⟨#[]⟩, va, ⟨0, 0, ⟨#[]⟩⟩⟩ : Ce)], Ce5 x from fun x hx => by
          rcases List.mem_append.1 hx with hx | hx
          · exact HL5.out x hx
          · rw [List.mem_singleton] at hx; subst hx; exact hx9)
        have HLN := Lib.hid hln
        clear hown7 hgrow7 ow9 hln p40 p41 p42 p43 p44 p45 p46 p47 p48 bx9
        go_wp2
        go_roundw
        case rel => exact ⟨_, by rw [HLN.out]; go_num, by rw [HLN.out]; omega, H5.out, hown8, hM7⟩
        case measure => simp [intOf]; omega
      · go_wp2_with fail
        refine hp_gen (P := fun W => Calls _ _ _ W _) _ ?_
        intro W3 hW3
        have b3 : Below w2.heap.size w2 W3 := by rw [hW3]; exact Joins.below_alloc1 _ _
        have bx3 : W3.heap[w2.heap.size]? = some (.cells #[.int .i64 4, .int .i64 0, .string ⟨#[]⟩, .int .i64 va.kind, .int .i64 va.n, .string va.s, .int .i64 0, .int .i64 0, .string ⟨#[]⟩] 53 (0, 0)) := by rw [hW3]; exact hp_al _ _ rfl
        clear hW3
        have hM3 := hMb.new (b3.mono hs2) hP
        have ow3 := own_belN ow2 b3
        clear ow2 hMb b3
        refine (l01Below 50 _ _ _ _ _ _ _ hM3.1 (by omega) (by omega)).mono ?_
        rintro e w4 ⟨z, hz0, hz1, rfl, hM4⟩
        have bx4 := (hM4.2.block _ (hp_lt bx3) hPb).trans bx3
        have ow4 := own_moved ow3 hP hM4.2
        have hM5 := hM3.trans hM4
        have hob : ∀ g, (show Value from u4).ownBlock = some g → g ≠ w2.heap.size := fun g hg => by have := HOB.out g hg; omega
        clear bx3 ow3 hM3 hM4
        have d0 := hp_cell bx4 0
        have d1 := hp_cell bx4 1
        have g1 := hp_fr bx4 1
        simp at d0 d1
        go_upto_region 13 with fail
        refine hp_gen (P := fun W => Code.wp _ _ _ _ W) _ ?_
        intro W9 hW9
        have bx9 : W9.heap[w2.heap.size]? = some (.cells #[.int .i64 4, .int .i64 z, .string ⟨#[]⟩, .int .i64 va.kind, .int .i64 va.n, .string va.s, .int .i64 0, .int .i64 0, .string ⟨#[]⟩] 53 (0, 0)) := by
          rw [hW9]
          have := hp_put (i := 1) (u := .int .i64 z) bx4
          simpa using this
        have hM9 : Moved B P a len cap zs w W9 := by rw [hW9]; exact hM5.new ((Below.refl _ _).setCell (by exact hs2) _) hP
        have ow9 : W9.ownsRow w.heap.size 53 9 u4 m (cc L) := by
          rw [hW9]; exact own_blkN ow4 (fun g hg => Below.heap_setCell _ _ _ _ (hob g hg))
        have hx9 : Ce5 ⟨4, z, ⟨#[]⟩, va, ⟨0, 0, ⟨#[]⟩⟩⟩ := ⟨i64_of (x := 4) (by omega) (by omega), i64_of (x := z) (by omega) (by omega), by show (0 : Nat) ≤ 5; omega, hva, Vl5.zero⟩
        clear hW9 bx4 ow4 hM5 d0 d1 g1
        have p40 := hp_cell bx9 0
        have p41 := hp_cell bx9 1
        have p42 := hp_cell bx9 2
        have p43 := hp_cell bx9 3
        have p44 := hp_cell bx9 4
        have p45 := hp_cell bx9 5
        have p46 := hp_cell bx9 6
        have p47 := hp_cell bx9 7
        have p48 := hp_cell bx9 8
        simp at p40 p41 p42 p43 p44 p45 p46 p47 p48
        have hs9 := hM9.2.size
        have h63 : m + 1 ≤ maxLen := by unfold maxLen; omega
        have hby : (m + 1) * 96 ≤ 140737488355328 := by omega
        go_wp2_with (at_builtin; refine wpList_append_own _ rfl (.tmp 57) (.tmp 59) 23 rfl w.heap.size 53 kk (.agg #[.int .i64 0, .int .i64 0, .string ⟨#[]⟩, .int .i64 0, .int .i64 0, .string ⟨#[]⟩, .int .i64 0, .int .i64 0, .string ⟨#[]⟩]) 9 96 Tryd.underlying23 ci cz0 cz1 cz2 rfl (by decide) _ m (cc L) rfl (ow9.alloc _) ⟨W9.heap.size, 0, none⟩ 1 1 (cc [(⟨4, z, ⟨#[]⟩, va, ⟨0, 0, ⟨#[]⟩⟩⟩ : Ce)]) rfl rfl (new_cells _ _ _ _ rfl) (cc_cell _) h63 hby (by simp; omega) ?_; intro v2 w7 hown7 hgrow7 _)
        have R := own_grow ow9 (Below.refl w.heap.size W9) (Nat.le_refl _) hs9 hgrow7
        have hM7 := hM9.new R.1 hP
        have hln : (L ++ [(⟨4, z, ⟨#[]⟩, va, ⟨0, 0, ⟨#[]⟩⟩⟩ : Ce)]).length = m + 1 := by rw [List.length_append, HM.out]; rfl
        have hown8 : w7.ownsRow w.heap.size 53 9 v2 (L ++ [(⟨4, z, ⟨#[]⟩, va, ⟨0, 0, ⟨#[]⟩⟩⟩ : Ce)]).length (cc (L ++ [(⟨4, z, ⟨#[]⟩, va, ⟨0, 0, ⟨#[]⟩⟩⟩ : Ce)])) := by rw [hln, cc_app]; exact hown7
        have H5 := Lib.hid (show ∀ x ∈ L ++ [(⟨4, z, ⟨#[]⟩, va, ⟨0, 0, ⟨#[]⟩⟩⟩ : Ce)], Ce5 x from fun x hx => by
          rcases List.mem_append.1 hx with hx | hx
          · exact HL5.out x hx
          · rw [List.mem_singleton] at hx; subst hx; exact hx9)
        have HLN := Lib.hid hln
        clear hown7 hgrow7 ow9 hln p40 p41 p42 p43 p44 p45 p46 p47 p48 bx9
        go_wp2
        go_roundw
        case rel => exact ⟨_, by rw [HLN.out]; go_num, by rw [HLN.out]; omega, H5.out, hown8, hM7⟩
        case measure => simp [intOf]; omega
      · go_upto_region 13 with fail
        refine hp_gen (P := fun W => Code.wp _ _ _ _ W) _ ?_
        intro W9 hW9
        have b3 : Below w2.heap.size w2 W9 := by rw [hW9]; exact Joins.below_alloc1 _ _
        have bx9 : W9.heap[w2.heap.size]? = some (.cells #[.int .i64 5, .int .i64 0, .string ⟨#[]⟩, .int .i64 va.kind, .int .i64 va.n, .string va.s, .int .i64 0, .int .i64 0, .string ⟨#[]⟩] 53 (0, 0)) := by rw [hW9]; exact hp_al _ _ rfl
        have hM9 := hMb.new (b3.mono hs2) hP
        have ow9 := own_belN ow2 b3
        have hx9 : Ce5 ⟨5, 0, ⟨#[]⟩, va, ⟨0, 0, ⟨#[]⟩⟩⟩ := ⟨i64_of (x := 5) (by omega) (by omega), i64_of (x := 0) (by omega) (by omega), by show (0 : Nat) ≤ 5; omega, hva, Vl5.zero⟩
        clear hW9 b3 ow2 hMb
        have p40 := hp_cell bx9 0
        have p41 := hp_cell bx9 1
        have p42 := hp_cell bx9 2
        have p43 := hp_cell bx9 3
        have p44 := hp_cell bx9 4
        have p45 := hp_cell bx9 5
        have p46 := hp_cell bx9 6
        have p47 := hp_cell bx9 7
        have p48 := hp_cell bx9 8
        simp at p40 p41 p42 p43 p44 p45 p46 p47 p48
        have hs9 := hM9.2.size
        have h63 : m + 1 ≤ maxLen := by unfold maxLen; omega
        have hby : (m + 1) * 96 ≤ 140737488355328 := by omega
        go_wp2_with (at_builtin; refine wpList_append_own _ rfl (.tmp 57) (.tmp 59) 23 rfl w.heap.size 53 kk (.agg #[.int .i64 0, .int .i64 0, .string ⟨#[]⟩, .int .i64 0, .int .i64 0, .string ⟨#[]⟩, .int .i64 0, .int .i64 0, .string ⟨#[]⟩]) 9 96 Tryd.underlying23 ci cz0 cz1 cz2 rfl (by decide) _ m (cc L) rfl (ow9.alloc _) ⟨W9.heap.size, 0, none⟩ 1 1 (cc [(⟨5, 0, ⟨#[]⟩, va, ⟨0, 0, ⟨#[]⟩⟩⟩ : Ce)]) rfl rfl (new_cells _ _ _ _ rfl) (cc_cell _) h63 hby (by simp; omega) ?_; intro v2 w7 hown7 hgrow7 _)
        have R := own_grow ow9 (Below.refl w.heap.size W9) (Nat.le_refl _) hs9 hgrow7
        have hM7 := hM9.new R.1 hP
        have hln : (L ++ [(⟨5, 0, ⟨#[]⟩, va, ⟨0, 0, ⟨#[]⟩⟩⟩ : Ce)]).length = m + 1 := by rw [List.length_append, HM.out]; rfl
        have hown8 : w7.ownsRow w.heap.size 53 9 v2 (L ++ [(⟨5, 0, ⟨#[]⟩, va, ⟨0, 0, ⟨#[]⟩⟩⟩ : Ce)]).length (cc (L ++ [(⟨5, 0, ⟨#[]⟩, va, ⟨0, 0, ⟨#[]⟩⟩⟩ : Ce)])) := by rw [hln, cc_app]; exact hown7
        have H5 := Lib.hid (show ∀ x ∈ L ++ [(⟨5, 0, ⟨#[]⟩, va, ⟨0, 0, ⟨#[]⟩⟩⟩ : Ce)], Ce5 x from fun x hx => by
          rcases List.mem_append.1 hx with hx | hx
          · exact HL5.out x hx
          · rw [List.mem_singleton] at hx; subst hx; exact hx9)
        have HLN := Lib.hid hln
        clear hown7 hgrow7 ow9 hln p40 p41 p42 p43 p44 p45 p46 p47 p48 bx9
        go_wp2
        go_roundw
        case rel => exact ⟨_, by rw [HLN.out]; go_num, by rw [HLN.out]; omega, H5.out, hown8, hM7⟩
        case measure => simp [intOf]; omega
      · go_wp2_with fail
        refine hp_gen (P := fun W => Calls _ _ _ W _) _ ?_
        intro W3 hW3
        have b3 : Below w2.heap.size w2 W3 := by rw [hW3]; exact Joins.below_alloc1 _ _
        have bx3 : W3.heap[w2.heap.size]? = some (.cells #[.int .i64 6, .int .i64 0, .string ⟨#[]⟩, .int .i64 va.kind, .int .i64 va.n, .string va.s, .int .i64 0, .int .i64 0, .string ⟨#[]⟩] 53 (0, 0)) := by rw [hW3]; exact hp_al _ _ rfl
        clear hW3
        have hM3 := hMb.new (b3.mono hs2) hP
        have ow3 := own_belN ow2 b3
        clear ow2 hMb b3
        refine (sDrawVal n _ _ _ _ _ _ _ hM3.1 (by omega) (by omega)).mono ?_
        rintro e w4 ⟨vb, hvb, rfl, hM4⟩
        have bx4 := (hM4.2.block _ (hp_lt bx3) hPb).trans bx3
        have ow4 := own_moved ow3 hP hM4.2
        have hM5 := hM3.trans hM4
        have hob : ∀ g, (show Value from u4).ownBlock = some g → g ≠ w2.heap.size := fun g hg => by have := HOB.out g hg; omega
        clear bx3 ow3 hM3 hM4
        have d0 := hp_cell bx4 0
        have d6 := hp_cell bx4 6
        have d7 := hp_cell bx4 7
        have d8 := hp_cell bx4 8
        have g6 := hp_fr bx4 6
        have g7 := hp_fr bx4 7
        have g8 := hp_fr bx4 8
        simp at d0 d6 d7 d8
        go_upto_region 13 with fail
        refine hp_gen (P := fun W => Code.wp _ _ _ _ W) _ ?_
        intro W9 hW9
        have bx9 : W9.heap[w2.heap.size]? = some (.cells #[.int .i64 6, .int .i64 0, .string ⟨#[]⟩, .int .i64 va.kind, .int .i64 va.n, .string va.s, .int .i64 vb.kind, .int .i64 vb.n, .string vb.s] 53 (0, 0)) := by
          rw [hW9]
          have := hp_put (i := 8) (u := .string vb.s) (hp_put (i := 7) (u := .int .i64 vb.n) (hp_put (i := 6) (u := .int .i64 vb.kind) bx4))
          simpa using this
        have hM9 : Moved B P a len cap zs w W9 := by rw [hW9]; exact hM5.new ((((Below.refl _ _).setCell (by exact hs2) _).setCell (by exact hs2) _).setCell (by exact hs2) _) hP
        have ow9 : W9.ownsRow w.heap.size 53 9 u4 m (cc L) := by
          rw [hW9]; exact own_blkN ow4 (fun g hg => (Below.heap_setCell _ _ _ _ (hob g hg)).trans ((Below.heap_setCell _ _ _ _ (hob g hg)).trans (Below.heap_setCell _ _ _ _ (hob g hg))))
        have hx9 : Ce5 ⟨6, 0, ⟨#[]⟩, va, vb⟩ := ⟨i64_of (x := 6) (by omega) (by omega), i64_of (x := 0) (by omega) (by omega), by show (0 : Nat) ≤ 5; omega, hva, hvb⟩
        clear hW9 bx4 ow4 hM5 d0 d6 d7 d8 g6 g7 g8
        have p40 := hp_cell bx9 0
        have p41 := hp_cell bx9 1
        have p42 := hp_cell bx9 2
        have p43 := hp_cell bx9 3
        have p44 := hp_cell bx9 4
        have p45 := hp_cell bx9 5
        have p46 := hp_cell bx9 6
        have p47 := hp_cell bx9 7
        have p48 := hp_cell bx9 8
        simp at p40 p41 p42 p43 p44 p45 p46 p47 p48
        have hs9 := hM9.2.size
        have h63 : m + 1 ≤ maxLen := by unfold maxLen; omega
        have hby : (m + 1) * 96 ≤ 140737488355328 := by omega
        go_wp2_with (at_builtin; refine wpList_append_own _ rfl (.tmp 57) (.tmp 59) 23 rfl w.heap.size 53 kk (.agg #[.int .i64 0, .int .i64 0, .string ⟨#[]⟩, .int .i64 0, .int .i64 0, .string ⟨#[]⟩, .int .i64 0, .int .i64 0, .string ⟨#[]⟩]) 9 96 Tryd.underlying23 ci cz0 cz1 cz2 rfl (by decide) _ m (cc L) rfl (ow9.alloc _) ⟨W9.heap.size, 0, none⟩ 1 1 (cc [(⟨6, 0, ⟨#[]⟩, va, vb⟩ : Ce)]) rfl rfl (new_cells _ _ _ _ rfl) (cc_cell _) h63 hby (by simp; omega) ?_; intro v2 w7 hown7 hgrow7 _)
        have R := own_grow ow9 (Below.refl w.heap.size W9) (Nat.le_refl _) hs9 hgrow7
        have hM7 := hM9.new R.1 hP
        have hln : (L ++ [(⟨6, 0, ⟨#[]⟩, va, vb⟩ : Ce)]).length = m + 1 := by rw [List.length_append, HM.out]; rfl
        have hown8 : w7.ownsRow w.heap.size 53 9 v2 (L ++ [(⟨6, 0, ⟨#[]⟩, va, vb⟩ : Ce)]).length (cc (L ++ [(⟨6, 0, ⟨#[]⟩, va, vb⟩ : Ce)])) := by rw [hln, cc_app]; exact hown7
        have H5 := Lib.hid (show ∀ x ∈ L ++ [(⟨6, 0, ⟨#[]⟩, va, vb⟩ : Ce)], Ce5 x from fun x hx => by
          rcases List.mem_append.1 hx with hx | hx
          · exact HL5.out x hx
          · rw [List.mem_singleton] at hx; subst hx; exact hx9)
        have HLN := Lib.hid hln
        clear hown7 hgrow7 ow9 hln p40 p41 p42 p43 p44 p45 p46 p47 p48 bx9
        go_wp2
        go_roundw
        case rel => exact ⟨_, by rw [HLN.out]; go_num, by rw [HLN.out]; omega, H5.out, hown8, hM7⟩
        case measure => simp [intOf]; omega
    · have HL5 := Lib.hid hL5
      have HL11 := Lib.hid (show L.length ≤ 11 from by omega)
      have hs2 := hM.2.size
      obtain ⟨Ol, hOl⟩ : ∃ O, O = Obj.cells #[] 33 := ⟨_, rfl⟩
      have hMr := hM.alloc Ol
      have owA := own_belN hown (Joins.below_alloc1 wr Ol)
      have rw0 : (wr.alloc Ol).ownsRow w.heap.size 33 3 (.slice (some ⟨wr.heap.size, 0, none⟩) 0 0) 0 (vc []) := by rw [hOl]; exact World.ownsRow_lit wr #[] 0 hs2 (by decide) rfl
      clear hL5 hown ci cz0 cz1 cz2
      go_wp2_with fail
      rw [← hOl]
      clear hOl
      refine (l01Below 4 _ _ _ _ _ _ _ hMr.1 (by omega) (by omega)).mono ?_
      rintro e w1 ⟨k0, hk0, hk1, rfl, hM1⟩
      have owB := own_moved owA hP hM1.2
      have rwB := own_moved rw0 hP hM1.2
      have hMB := hMr.trans hM1
      obtain ⟨kn, rfl⟩ : ∃ kn : Nat, k0 = (kn : Int) := ⟨k0.toNat, by omega⟩
      clear owA rw0 hMr hM1 hM
      generalize hlm : L.length = m at *
      have HLM := Lib.hid hlm
      clear hlm
      go_wp2
      go_loopw [8, 9] (fun rv i wr => ∃ (R : List Vl) (k : Nat), i = .int .i64 (k : Int) ∧ R.length + k ≤ 3 ∧ (∀ x ∈ R, Vl5 x) ∧ wr.ownsRow w.heap.size 33 3 rv R.length (vc R) ∧ wr.ownsRow w.heap.size 53 9 u4 m (cc L) ∧ Moved B P a len cap zs w wr) (fun _ i _ => (intOf i).toNat)
      case atStart => exact ⟨[], kn, rfl, by simp; omega, by simp, rwB, owB, hMB⟩
      case round =>
        clear rwB owB hMB
        obtain ⟨R, k, rfl, hRk, hR5, hrow, howl, hMl⟩ := hrel
        have hsl := hMl.2.size
        cases k with
        | zero =>
          obtain ⟨ua, uc, rfl⟩ := own_slN hrow
          obtain ⟨va, vcc, rfl⟩ := own_slN howl
          have HR := Lib.hid hrow
          have HW := Lib.hid howl
          have HR5 := Lib.hid hR5
          clear hrow howl hR5
          generalize hm : R.length = rm at *
          have HRm := Lib.hid hm
          clear hm
          go_wp2
          refine bodyPost_ret (v := .tuple #[.slice va m vcc, .slice ua rm uc]) (by simp [results, Tryd.results37, go_sem]) rfl ?_
          exact ⟨_, _, L, R, rfl, by rw [HLM.out]; exact HW.out, by rw [HRm.out]; exact HR.out, by rw [HLM.out]; exact HL11.out, by rw [HRm.out]; omega, HL5.out, HR5.out, hMl⟩
        | succ k =>
          have HR5 := Lib.hid hR5
          clear hR5
          generalize hm : R.length = rm at *
          have HRm := Lib.hid hm
          clear hm
          have hkI : decide (0 < (((k + 1 : Nat)) : Int)) = true := decide_eq_true (by omega)
          have hkJ : decide (0 < (k : Int) + 1) = true := decide_eq_true (by omega)
          have h63 : rm + 1 ≤ maxLen := by unfold maxLen; omega
          have hby : (rm + 1) * 32 ≤ 140737488355328 := by omega
          go_wp2_with fail
          refine (sDrawVal n _ _ _ _ _ _ _ hMl.1 (by omega) (by omega)).mono ?_
          rintro e w3 ⟨y, hy, rfl, hM3⟩
          have ro3 := own_moved hrow hP hM3.2
          have ol3 := own_moved howl hP hM3.2
          have hM4 := hMl.trans hM3
          have hs4 := hM4.2.size
          clear hrow howl hMl hM3
          go_wp2_with (at_builtin; refine wpList_append_own _ rfl (.tmp 68) (.tmp 72) 24 rfl w.heap.size 33 jj (.agg #[.int .i64 0, .int .i64 0, .string ⟨#[]⟩]) 3 32 Tryd.underlying24 hi hz0 hz1 hz2 rfl (by decide) _ rm (vc R) rfl (ro3.alloc _) ⟨w3.heap.size, 0, none⟩ 1 1 (vc [y]) rfl rfl (new_cells _ _ _ _ rfl) (vc_cell _) h63 hby (by simp; omega) ?_; intro v2 w7 hown7 hgrow7 _)
          have RR := own_grow ro3 (Below.refl w.heap.size w3) (Nat.le_refl _) hs4 hgrow7
          have hM7 := hM4.new RR.1 hP
          have ol4 := own_belN ol3 (Joins.below_alloc1 w3 (.cells #[.int .i64 y.kind, .int .i64 y.n, .string y.s] 33))
          have ol7 := own_blkN ol4 (fun g hg => hgrow7.block g (ol4.lt g hg).2 (fun e => hp_two ro3 ol3 (by decide) hg e.symm))
          have hln : (R ++ [y]).length = rm + 1 := by rw [List.length_append, HRm.out]; rfl
          have hown8 : w7.ownsRow w.heap.size 33 3 v2 (R ++ [y]).length (vc (R ++ [y])) := by rw [hln, vc_app]; exact hown7
          have H5 := Lib.hid (show ∀ x ∈ R ++ [y], Vl5 x from fun x hx => by
            rcases List.mem_append.1 hx with hx | hx
            · exact HR5.out x hx
            · rw [List.mem_singleton] at hx; subst hx; exact hy)
          have HLN := Lib.hid hln
          clear hown7 hgrow7 ro3 ol3 ol4 hln hM4
          go_wp2
          go_roundw
          case rel => exact ⟨R ++ [y], k, by go_num, by rw [HLN.out]; omega, H5.out, hown8, ol7, hM7⟩
          case measure => simp [intOf]
end Go.Proofs.YtdhpmblhejcehaaDoor
