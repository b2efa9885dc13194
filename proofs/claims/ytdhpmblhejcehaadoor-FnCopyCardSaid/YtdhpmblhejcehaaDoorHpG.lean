/- The model's draws of values and heaps: heaps that may be wrong, drawn. -/
import Derived.Test.YtdhpmblhejcehaaDoorHpF
namespace Go.Proofs.YtdhpmblhejcehaaDoor
set_option linter.unusedVariables false
set_option maxRecDepth 100000
open Go.ChangeShapes Go.WideShapes Go.ChangeAt Go.RowKit

def DrawnA (B P : Nat) (a : Option Addr) (len cap : Nat) (zs : List Int) (w : World) (e : Ending) (w' : World) : Prop :=
  ∃ (u v : Value) (h : List Ce) (r : List Vl), e = .returned (.tuple #[u, v]) ∧ w'.ownsRow w.heap.size 53 9 u h.length (cc h) ∧ w'.ownsRow w.heap.size 33 3 v r.length (vc r) ∧ h.length ≤ 11 ∧ r.length ≤ 5 ∧ (∀ x ∈ h, Ce5 x) ∧ (∀ x ∈ r, Vl5 x) ∧ Moved B P a len cap zs w w'
set_option maxHeartbeats 4000000 in
theorem sAny (B P : Nat) (a : Option Addr) (len cap : Nat) (zs : List Int) (w : World) (hC : Cur B P a len cap zs w) :
    Calls Tryd.prog 19 #[.pointer (some ⟨P, 0, none⟩)] w (DrawnA B P a len cap zs w) := by
  obtain ⟨jj, hi, hz0, hz1, hz2⟩ := info_parts info_vl
  have hP := hC.sz
  go_enter Tryd.func19, Tryd.ntmps19
  go_wp2_with fail
  refine (sDrawH _ _ _ _ _ _ _ hC).mono ?_
  rintro e w1 ⟨u, v, h, r, rfl, hu1, hv1, hl, hrl, h5, r5, hM1⟩
  clear hC
  obtain ⟨ua, uc, rfl⟩ := own_slN hu1
  obtain ⟨va, vcc, rfl⟩ := own_slN hv1
  go_wp2_with fail
  refine (l01Below 14 _ _ _ _ _ _ _ hM1.1 (by omega) (by omega)).mono ?_
  rintro e w2 ⟨k, k0, k1, rfl, hM2⟩
  have hu2 := own_moved hu1 hP hM2.2
  have hv2 := own_moved hv1 hP hM2.2
  have hM := hM1.trans hM2
  have hs2 := hM.2.size
  have H5 := Lib.hid h5
  have R5 := Lib.hid r5
  clear hu1 hv1 hM1 hM2 h5 r5
  have hkk : k = 0 ∨ k = 1 ∨ k = 2 ∨ k = 3 ∨ 4 ≤ k := by omega
  by_cases he : h = []
  · subst he
    rcases hkk with rfl | rfl | rfl | rfl | hk4
    · have HU := Lib.hid hu2
      have HV := Lib.hid hv2
      clear hu2 hv2
      generalize hm : r.length = m at *
      have HRm := Lib.hid hm
      clear hm
      go_wp2
      refine bodyPost_ret (v := .tuple #[.slice ua 0 uc, .slice va m vcc]) (by simp [results, Tryd.results19, go_sem]) rfl ?_
      exact ⟨_, _, [], r, rfl, HU.out, by rw [HRm.out]; exact HV.out, by simp, by rw [HRm.out]; omega, H5.out, R5.out, hM⟩
    · have HU := Lib.hid hu2
      have HV := Lib.hid hv2
      clear hu2 hv2
      generalize hm : r.length = m at *
      have HRm := Lib.hid hm
      clear hm
      go_wp2
      refine bodyPost_ret (v := .tuple #[.slice ua 0 uc, .slice va m vcc]) (by simp [results, Tryd.results19, go_sem]) rfl ?_
      exact ⟨_, _, [], r, rfl, HU.out, by rw [HRm.out]; exact HV.out, by simp, by rw [HRm.out]; omega, H5.out, R5.out, hM⟩
    · have HU := Lib.hid hu2
      have HV := Lib.hid hv2
      clear hu2 hv2
      generalize hm : r.length = m at *
      have HRm := Lib.hid hm
      clear hm
      have h63 : m + 1 ≤ maxLen := by unfold maxLen; omega
      have hby : (m + 1) * 32 ≤ 140737488355328 := by omega
      go_wp2_with (at_builtin; refine wpList_append_own _ rfl (.tmp 44) (.tmp 48) 24 rfl w.heap.size 33 jj (.agg #[.int .i64 0, .int .i64 0, .string ⟨#[]⟩]) 3 32 Tryd.underlying24 hi hz0 hz1 hz2 rfl (by decide) _ m (vc r) rfl (HV.out.alloc _) ⟨w2.heap.size, 0, none⟩ 1 1 (vc [⟨6, 0, ⟨#[]⟩⟩]) rfl rfl (new_cells _ _ _ _ rfl) (vc_cell _) h63 hby (by simp; omega) ?_; intro v2 w7 hown7 hgrow7 _)
      have RR := own_grow HV.out (Below.refl w.heap.size w2) (Nat.le_refl _) hs2 hgrow7
      have hM7 := hM.new RR.1 hP
      have hu7 : w7.ownsRow w.heap.size 53 9 (.slice ua 0 uc) 0 (cc []) := own_blkN (own_belN HU.out (Joins.below_alloc1 w2 (.cells #[.int .i64 6, .int .i64 0, .string ⟨#[]⟩] 33))) (fun g hg => hgrow7.block g (by have := (HU.out.lt g hg).2; simp; omega) (fun e => hp_two HV.out HU.out (by decide) hg e.symm))
      have hln : (r ++ [(⟨6, 0, ⟨#[]⟩⟩ : Vl)]).length = m + 1 := by rw [List.length_append, HRm.out]; rfl
      have hown8 : w7.ownsRow w.heap.size 33 3 v2 (r ++ [(⟨6, 0, ⟨#[]⟩⟩ : Vl)]).length (vc (r ++ [⟨6, 0, ⟨#[]⟩⟩])) := by rw [hln, vc_app]; exact hown7
      have H6 := Lib.hid (show ∀ x ∈ r ++ [(⟨6, 0, ⟨#[]⟩⟩ : Vl)], Vl5 x from fun x hx => by
        rcases List.mem_append.1 hx with hx | hx
        · exact R5.out x hx
        · rw [List.mem_singleton] at hx; subst hx; exact ⟨i64_of (x := 6) (by omega) (by omega), i64_of (x := 0) (by omega) (by omega), by show (0 : Nat) ≤ 5; omega⟩)
      have HLN := Lib.hid hln
      have HO8 := Lib.hid hown8
      have HU7 := Lib.hid hu7
      obtain ⟨v2a, v2c, rfl⟩ := own_slN hown8
      clear hown7 hgrow7 hown8 hu7
      rw [hln] at HO8
      simp only [hln]
      clear hln
      go_wp2
      refine bodyPost_ret (v := .tuple #[.slice ua 0 uc, .slice v2a (m + 1) v2c]) (by simp [results, Tryd.results19, go_sem]) rfl ?_
      exact ⟨_, _, [], r ++ [⟨6, 0, ⟨#[]⟩⟩], rfl, HU7.out, by rw [HLN.out]; exact HO8.out, by simp, by rw [HLN.out]; omega, H5.out, H6.out, hM7⟩
    · have HU := Lib.hid hu2
      have HV := Lib.hid hv2
      clear hu2 hv2
      generalize hm : r.length = m at *
      have HRm := Lib.hid hm
      clear hm
      go_wp2
      refine bodyPost_ret (v := .tuple #[.slice ua 0 uc, .slice va m vcc]) (by simp [results, Tryd.results19, go_sem]) rfl ?_
      exact ⟨_, _, [], r, rfl, HU.out, by rw [HRm.out]; exact HV.out, by simp, by rw [HRm.out]; omega, H5.out, R5.out, hM⟩
    · have HU := Lib.hid hu2
      have HV := Lib.hid hv2
      clear hu2 hv2
      generalize hm : r.length = m at *
      have HRm := Lib.hid hm
      clear hm
      have b0 : (k == 0) = false := by simp; omega
      have b1 : (k == 1) = false := by simp; omega
      have b2 : (k == 2) = false := by simp; omega
      have b3 : (k == 3) = false := by simp; omega
      go_wp2
      refine bodyPost_ret (v := .tuple #[.slice ua 0 uc, .slice va m vcc]) (by simp [results, Tryd.results19, go_sem]) rfl ?_
      exact ⟨_, _, [], r, rfl, HU.out, by rw [HRm.out]; exact HV.out, by simp, by rw [HRm.out]; omega, H5.out, R5.out, hM⟩
  · have hpos : 0 < h.length := by
      rcases h with _ | ⟨x, h⟩
      · exact absurd rfl he
      · simp
    obtain ⟨g, gc, hge, hgB, hgl, hgc, hgv, hgf⟩ := own_dims hu2 hpos
    cases hge
    have HU := Lib.hid hu2
    have hgP : g ≠ P := by omega
    have HH := Lib.hid hgv
    clear hu2 he hgv
    generalize hn : h.length = n at *
    have HN := Lib.hid hn
    clear hn
    have n1 : decide (0 < (n : Int)) = true := decide_eq_true (by omega)
    have n2 : (0 : Int) < (n : Int) := by omega
    rcases hkk with rfl | rfl | rfl | rfl | hk4
    · have HV := Lib.hid hv2
      clear hv2
      generalize hm : r.length = m at *
      have HRm := Lib.hid hm
      clear hm
      have hu3 := HU.out
      have hv3 := HV.out
      go_wp2_with fail
      refine (l01Below 9 _ _ _ _ _ _ _ hM.1 (by omega) (by omega)).mono ?_
      rintro e w3 ⟨y, y0, y1, rfl, hM3⟩
      have hu3 := own_moved hu3 hP hM3.2
      have hv3 := own_moved hv3 hP hM3.2
      have hMa := hM.trans hM3
      go_wp2_with fail
      refine (l01Raw _ _ _ _ _ _ _ hMa.1).mono ?_
      rintro e w4 ⟨z, z0, z1, rfl, hM4⟩
      have hu4 := own_moved hu3 hP hM4.2
      have hv4 := own_moved hv3 hP hM4.2
      have hMb := hMa.trans hM4
      clear hM hu3 hv3 hM3 hMa hM4 hs2
      obtain ⟨g', gc', hge, -, -, -, hgv, hgf⟩ := own_dims hu4 hpos
      cases hge
      have o3 := (hgv (3) (by omega)).trans (cc_get h 0 3 (by rw [HN.out]; omega) (by omega))
      have o4 := (hgv (4) (by omega)).trans (cc_get h 0 4 (by rw [HN.out]; omega) (by omega))
      have o5 := (hgv (5) (by omega)).trans (cc_get h 0 5 (by rw [HN.out]; omega) (by omega))
      simp [ce9] at o3 o4 o5
      have s3 := hgf (3)
      have s4 := hgf (4)
      have s5 := hgf (5)
      have hc0 := cc_setA h 0 ⟨y, z, ⟨#[]⟩⟩ (by rw [HN.out]; omega)
      simp only [Nat.zero_mul, Nat.zero_add] at hc0
      have hu9 := (own_set1H (own_set1H (own_set1H hu4 (3) (.int .i64 y) (by omega)) (4) (.int .i64 z) (by omega)) (5) (.string ⟨#[]⟩) (by omega))
      rw [hc0] at hu9
      have hv9 := own_blkN hv4 (w1 := (((w4.setCell ⟨g, 3, none⟩ (.int .i64 y)).setCell ⟨g, 4, none⟩ (.int .i64 z)).setCell ⟨g, 5, none⟩ (.string ⟨#[]⟩))) (fun b hb => by
        have hne : b ≠ g := fun e => hp_two hv4 hu4 (by decide) rfl (e ▸ hb)
        exact (Below.heap_setCell _ _ _ _ hne).trans ((Below.heap_setCell _ _ _ _ hne).trans (Below.heap_setCell _ _ _ _ hne)))
      have hM9 : Moved B P a len cap zs w (((w4.setCell ⟨g, 3, none⟩ (.int .i64 y)).setCell ⟨g, 4, none⟩ (.int .i64 z)).setCell ⟨g, 5, none⟩ (.string ⟨#[]⟩)) := hMb.new (((((((Below.refl w.heap.size w4).setCell (by exact hgB) _)).setCell (by exact hgB) _)).setCell (by exact hgB) _)) hP
      have h0m := H5.out (h[0]'(by rw [HN.out]; omega)) (List.getElem_mem _)
      have H59 := Lib.hid (mem_set5 H5.out (0) (y := ⟨(h[0]'(by rw [HN.out]; omega)).kind, (h[0]'(by rw [HN.out]; omega)).n, (h[0]'(by rw [HN.out]; omega)).s, ⟨y, z, ⟨#[]⟩⟩, (h[0]'(by rw [HN.out]; omega)).b⟩) ⟨h0m.1, h0m.2.1, h0m.2.2.1, ⟨i64_of (x := y) (by omega) (by omega), i64_of (x := z) z0 z1, by show (0 : Nat) ≤ 5; omega⟩, h0m.2.2.2.2⟩)
      have hl9 : (h.set (0) ⟨(h[0]'(by rw [HN.out]; omega)).kind, (h[0]'(by rw [HN.out]; omega)).n, (h[0]'(by rw [HN.out]; omega)).s, ⟨y, z, ⟨#[]⟩⟩, (h[0]'(by rw [HN.out]; omega)).b⟩).length = n := by rw [List.length_set, HN.out]
      have HL9 := Lib.hid hl9
      have HU9 := Lib.hid hu9
      have HV9 := Lib.hid hv9
      have HM9 := Lib.hid hM9
      clear hu9 hv9 hM9 hu4 hv4 hMb hc0 h0m hl9 hgv hgf HH
      go_wp2
      refine bodyPost_ret (v := .tuple #[.slice (some ⟨g, 0, none⟩) n uc, .slice va m vcc]) (by simp [results, Tryd.results19, go_sem]) rfl ?_
      exact ⟨_, _, h.set (0) ⟨(h[0]'(by rw [HN.out]; omega)).kind, (h[0]'(by rw [HN.out]; omega)).n, (h[0]'(by rw [HN.out]; omega)).s, ⟨y, z, ⟨#[]⟩⟩, (h[0]'(by rw [HN.out]; omega)).b⟩, r, rfl, by rw [HL9.out]; exact HU9.out, by rw [HRm.out]; exact HV9.out, by rw [HL9.out]; exact hl, by rw [HRm.out]; omega, H59.out, R5.out, HM9.out⟩
    · have HV := Lib.hid hv2
      clear hv2
      generalize hm : r.length = m at *
      have HRm := Lib.hid hm
      clear hm
      have hu3 := HU.out
      have hv3 := HV.out
      go_wp2_with fail
      refine (l01Below 9 _ _ _ _ _ _ _ hM.1 (by omega) (by omega)).mono ?_
      rintro e w4 ⟨y, y0, y1, rfl, hM3⟩
      have hu4 := own_moved hu3 hP hM3.2
      have hv4 := own_moved hv3 hP hM3.2
      have hMb := hM.trans hM3
      have wy : wrap64 (y - 1) = y - 1 := wrap64_small _ (by omega)
      clear hM hu3 hv3 hM3 hs2
      obtain ⟨g', gc', hge, -, -, -, hgv, hgf⟩ := own_dims hu4 hpos
      cases hge
      have o0 := (hgv (0) (by omega)).trans (cc_get h 0 0 (by rw [HN.out]; omega) (by omega))
      simp [ce9] at o0
      have s0 := hgf (0)
      have hc0 := cc_setK h 0 (y - 1) (by rw [HN.out]; omega)
      simp only [Nat.zero_mul] at hc0
      have hu9 := (own_set1H hu4 (0) (.int .i64 (y - 1)) (by omega))
      rw [hc0] at hu9
      have hv9 := own_blkN hv4 (w1 := (w4.setCell ⟨g, 0, none⟩ (.int .i64 (y - 1)))) (fun b hb => by
        have hne : b ≠ g := fun e => hp_two hv4 hu4 (by decide) rfl (e ▸ hb)
        exact Below.heap_setCell _ _ _ _ hne)
      have hM9 : Moved B P a len cap zs w (w4.setCell ⟨g, 0, none⟩ (.int .i64 (y - 1))) := hMb.new (((Below.refl w.heap.size w4).setCell (by exact hgB) _)) hP
      have h0m := H5.out (h[0]'(by rw [HN.out]; omega)) (List.getElem_mem _)
      have H59 := Lib.hid (mem_set5 H5.out (0) (y := ⟨y - 1, (h[0]'(by rw [HN.out]; omega)).n, (h[0]'(by rw [HN.out]; omega)).s, (h[0]'(by rw [HN.out]; omega)).a, (h[0]'(by rw [HN.out]; omega)).b⟩) ⟨i64_of (x := y - 1) (by clear wy; omega) (by clear wy; omega), h0m.2.1, h0m.2.2.1, h0m.2.2.2.1, h0m.2.2.2.2⟩)
      have hl9 : (h.set (0) ⟨y - 1, (h[0]'(by rw [HN.out]; omega)).n, (h[0]'(by rw [HN.out]; omega)).s, (h[0]'(by rw [HN.out]; omega)).a, (h[0]'(by rw [HN.out]; omega)).b⟩).length = n := by rw [List.length_set, HN.out]
      have HL9 := Lib.hid hl9
      have HU9 := Lib.hid hu9
      have HV9 := Lib.hid hv9
      have HM9 := Lib.hid hM9
      clear hu9 hv9 hM9 hu4 hv4 hMb hc0 h0m hl9 hgv hgf HH
      go_wp2
      refine bodyPost_ret (v := .tuple #[.slice (some ⟨g, 0, none⟩) n uc, .slice va m vcc]) (by simp [results, Tryd.results19, go_sem]) rfl ?_
      exact ⟨_, _, h.set (0) ⟨y - 1, (h[0]'(by rw [HN.out]; omega)).n, (h[0]'(by rw [HN.out]; omega)).s, (h[0]'(by rw [HN.out]; omega)).a, (h[0]'(by rw [HN.out]; omega)).b⟩, r, rfl, by rw [HL9.out]; exact HU9.out, by rw [HRm.out]; exact HV9.out, by rw [HL9.out]; exact hl, by rw [HRm.out]; omega, H59.out, R5.out, HM9.out⟩
    · have HV := Lib.hid hv2
      clear hv2
      generalize hm : r.length = m at *
      have HRm := Lib.hid hm
      clear hm
      have h63 : m + 1 ≤ maxLen := by unfold maxLen; omega
      have hby : (m + 1) * 32 ≤ 140737488355328 := by omega
      go_wp2_with (at_builtin; refine wpList_append_own _ rfl (.tmp 44) (.tmp 48) 24 rfl w.heap.size 33 jj (.agg #[.int .i64 0, .int .i64 0, .string ⟨#[]⟩]) 3 32 Tryd.underlying24 hi hz0 hz1 hz2 rfl (by decide) _ m (vc r) rfl (HV.out.alloc _) ⟨w2.heap.size, 0, none⟩ 1 1 (vc [⟨6, (n : Int), ⟨#[]⟩⟩]) rfl rfl (new_cells _ _ _ _ rfl) (vc_cell _) h63 hby (by simp; omega) ?_; intro v2 w7 hown7 hgrow7 _)
      have RR := own_grow HV.out (Below.refl w.heap.size w2) (Nat.le_refl _) hs2 hgrow7
      have hM7 := hM.new RR.1 hP
      have hu7 : w7.ownsRow w.heap.size 53 9 (.slice (some ⟨g, 0, none⟩) n uc) n (cc h) := own_blkN (own_belN HU.out (Joins.below_alloc1 w2 (.cells #[.int .i64 6, .int .i64 (n : Int), .string ⟨#[]⟩] 33))) (fun g hg => hgrow7.block g (by have := (HU.out.lt g hg).2; simp; omega) (fun e => hp_two HV.out HU.out (by decide) hg e.symm))
      have hln : (r ++ [(⟨6, (n : Int), ⟨#[]⟩⟩ : Vl)]).length = m + 1 := by rw [List.length_append, HRm.out]; rfl
      have hown8 : w7.ownsRow w.heap.size 33 3 v2 (r ++ [(⟨6, (n : Int), ⟨#[]⟩⟩ : Vl)]).length (vc (r ++ [⟨6, (n : Int), ⟨#[]⟩⟩])) := by rw [hln, vc_app]; exact hown7
      have H6 := Lib.hid (show ∀ x ∈ r ++ [(⟨6, (n : Int), ⟨#[]⟩⟩ : Vl)], Vl5 x from fun x hx => by
        rcases List.mem_append.1 hx with hx | hx
        · exact R5.out x hx
        · rw [List.mem_singleton] at hx; subst hx; exact ⟨i64_of (x := 6) (by omega) (by omega), i64_of (x := (n : Int)) (by omega) (by omega), by show (0 : Nat) ≤ 5; omega⟩)
      have HLN := Lib.hid hln
      have HO8 := Lib.hid hown8
      have HU7 := Lib.hid hu7
      obtain ⟨v2a, v2c, rfl⟩ := own_slN hown8
      clear hown7 hgrow7 hown8 hu7
      rw [hln] at HO8
      simp only [hln]
      clear hln
      go_wp2
      refine bodyPost_ret (v := .tuple #[.slice (some ⟨g, 0, none⟩) n uc, .slice v2a (m + 1) v2c]) (by simp [results, Tryd.results19, go_sem]) rfl ?_
      exact ⟨_, _, h, r ++ [⟨6, (n : Int), ⟨#[]⟩⟩], rfl, by rw [HN.out]; exact HU7.out, by rw [HLN.out]; exact HO8.out, by rw [HN.out]; exact hl, by rw [HLN.out]; omega, H5.out, H6.out, hM7⟩
    · have HV := Lib.hid hv2
      clear hv2
      generalize hm : r.length = m at *
      have HRm := Lib.hid hm
      clear hm
      have hu3 := HU.out
      have hv3 := HV.out
      obtain ⟨q, hq⟩ : ∃ q, n = q + 1 := ⟨n - 1, by omega⟩
      subst hq
      obtain ⟨w4, hw4⟩ : ∃ w4, w4 = w2 := ⟨_, rfl⟩
      rw [← hw4] at hu3 hv3 hM
      have hu4 := hu3
      have hv4 := hv3
      have hMb := hM
      have r4 : (q : Int) < (q : Int) + 1 := by omega
      rw [← hw4]
      clear hM hu3 hv3 hs2 hw4
      obtain ⟨g', gc', hge, -, -, -, hgv, hgf⟩ := own_dims hu4 hpos
      cases hge
      have o6 := (hgv (q * 9 + 6) (by omega)).trans (cc_get h q 6 (by rw [HN.out]; omega) (by omega))
      have o7 := (hgv (q * 9 + 7) (by omega)).trans (cc_get h q 7 (by rw [HN.out]; omega) (by omega))
      have o8 := (hgv (q * 9 + 8) (by omega)).trans (cc_get h q 8 (by rw [HN.out]; omega) (by omega))
      simp [ce9] at o6 o7 o8
      have s6 := hgf (q * 9 + 6)
      have s7 := hgf (q * 9 + 7)
      have s8 := hgf (q * 9 + 8)
      have hc0 := cc_setB h q ⟨3, 0, ⟨#[]⟩⟩ (by rw [HN.out]; omega)
      have hu9 := (own_set1H (own_set1H (own_set1H hu4 (q * 9 + 6) (.int .i64 3) (by omega)) (q * 9 + 7) (.int .i64 0) (by omega)) (q * 9 + 8) (.string ⟨#[]⟩) (by omega))
      rw [hc0] at hu9
      have hv9 := own_blkN hv4 (w1 := (((w4.setCell ⟨g, q * 9 + 6, none⟩ (.int .i64 3)).setCell ⟨g, q * 9 + 7, none⟩ (.int .i64 0)).setCell ⟨g, q * 9 + 8, none⟩ (.string ⟨#[]⟩))) (fun b hb => by
        have hne : b ≠ g := fun e => hp_two hv4 hu4 (by decide) rfl (e ▸ hb)
        exact (Below.heap_setCell _ _ _ _ hne).trans ((Below.heap_setCell _ _ _ _ hne).trans (Below.heap_setCell _ _ _ _ hne)))
      have hM9 : Moved B P a len cap zs w (((w4.setCell ⟨g, q * 9 + 6, none⟩ (.int .i64 3)).setCell ⟨g, q * 9 + 7, none⟩ (.int .i64 0)).setCell ⟨g, q * 9 + 8, none⟩ (.string ⟨#[]⟩)) := hMb.new (((((((Below.refl w.heap.size w4).setCell (by exact hgB) _)).setCell (by exact hgB) _)).setCell (by exact hgB) _)) hP
      have h0m := H5.out (h[q]'(by rw [HN.out]; omega)) (List.getElem_mem _)
      have H59 := Lib.hid (mem_set5 H5.out (q) (y := ⟨(h[q]'(by rw [HN.out]; omega)).kind, (h[q]'(by rw [HN.out]; omega)).n, (h[q]'(by rw [HN.out]; omega)).s, (h[q]'(by rw [HN.out]; omega)).a, ⟨3, 0, ⟨#[]⟩⟩⟩) ⟨h0m.1, h0m.2.1, h0m.2.2.1, h0m.2.2.2.1, ⟨i64_of (x := 3) (by omega) (by omega), i64_of (x := 0) (by omega) (by omega), by show (0 : Nat) ≤ 5; omega⟩⟩)
      have hl9 : (h.set (q) ⟨(h[q]'(by rw [HN.out]; omega)).kind, (h[q]'(by rw [HN.out]; omega)).n, (h[q]'(by rw [HN.out]; omega)).s, (h[q]'(by rw [HN.out]; omega)).a, ⟨3, 0, ⟨#[]⟩⟩⟩).length = q + 1 := by rw [List.length_set, HN.out]
      have HL9 := Lib.hid hl9
      have HU9 := Lib.hid hu9
      have HV9 := Lib.hid hv9
      have HM9 := Lib.hid hM9
      clear hu9 hv9 hM9 hu4 hv4 hMb hc0 h0m hl9 hgv hgf HH
      obtain ⟨wq, wr⟩ : wrap64 ((q : Int) + 1 - 1) = q ∧ wrap64 (q : Int) = q := by
        have h2 : wrap64 (q : Int) = q := wrap64_small _ (by omega)
        exact ⟨by rw [Int.add_sub_cancel]; exact h2, h2⟩
      go_wp2
      refine bodyPost_ret (v := .tuple #[.slice (some ⟨g, 0, none⟩) (q + 1) uc, .slice va m vcc]) (by simp [results, Tryd.results19, go_sem]) rfl ?_
      exact ⟨_, _, h.set (q) ⟨(h[q]'(by rw [HN.out]; omega)).kind, (h[q]'(by rw [HN.out]; omega)).n, (h[q]'(by rw [HN.out]; omega)).s, (h[q]'(by rw [HN.out]; omega)).a, ⟨3, 0, ⟨#[]⟩⟩⟩, r, rfl, by rw [HL9.out]; exact HU9.out, by rw [HRm.out]; exact HV9.out, by rw [HL9.out]; exact hl, by rw [HRm.out]; omega, H59.out, R5.out, HM9.out⟩
    · have HV := Lib.hid hv2
      clear hv2
      generalize hm : r.length = m at *
      have HRm := Lib.hid hm
      clear hm
      have b0 : (k == 0) = false := by simp; omega
      have b1 : (k == 1) = false := by simp; omega
      have b2 : (k == 2) = false := by simp; omega
      have b3 : (k == 3) = false := by simp; omega
      go_wp2
      refine bodyPost_ret (v := .tuple #[.slice (some ⟨g, 0, none⟩) n uc, .slice va m vcc]) (by simp [results, Tryd.results19, go_sem]) rfl ?_
      exact ⟨_, _, h, r, rfl, by rw [HN.out]; exact HU.out, by rw [HRm.out]; exact HV.out, by rw [HN.out]; exact hl, by rw [HRm.out]; omega, H5.out, R5.out, hM⟩
end Go.Proofs.YtdhpmblhejcehaaDoor
