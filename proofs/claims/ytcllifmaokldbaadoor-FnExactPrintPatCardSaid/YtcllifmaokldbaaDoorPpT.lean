/- The program's text of a pattern: the loop over the nodes, the whole. -/
import Derived.Test.YtcllifmaokldbaaDoorPpV
namespace Go.Proofs.YtcllifmaokldbaaDoor
set_option linter.unusedVariables false
set_option maxRecDepth 100000
open Go.ChangeShapes Go.WideShapes Go.ChangeAt Go.RowKit

theorem pp_lens {q : List PN} (hv : PatV q) : ((patL numL q q.length).map fun P => (P.length : Int) - 1) = lens (q.map PN.kids) := by
  apply List.ext_getElem
  · simp [patL_len, lens]
  · intro i h1 h2
    have hi : i < q.length := by simpa [patL_len] using h1
    obtain ⟨T, hT, hl⟩ := hv.texts numL q.length i hi
    rw [List.getElem?_eq_getElem (by rw [patL_len]; exact hi)] at hT
    injection hT with hT
    simp only [List.getElem_map, lens, hT, hl]
    omega
theorem pp_ok {q : List PN} (hv : PatV q) (h0 : 0 < q.length) (h6 : q.length ≤ 600) : ∃ r P, walkS (vL (patL numL q q.length)) ((patL numL q q.length).map fun P => (P.length : Int) - 1) ((patL numL q q.length).length + 1) [] 0 = (r, P) ∧ P ≠ [] ∧ P.length ≤ 1000000 ∧ P.flatten.length ≤ 1000000 ∧ P.flatten = patU numL q (q.length + 1) false 0 := by
  obtain ⟨P, h1, h2, h3, h4⟩ := weave_all (patL numL q q.length) hv.pre
  have hlen : (q.map PN.kids).length = q.length := by simp
  rw [hlen] at h1 h2
  have h5 : wT (patL numL q q.length) (q.map PN.kids) (q.length + 1) 0 = patU numL q (q.length + 1) false 0 := hv.text numL (q.length + 1) 0 h0 (by omega) fun j hj hc hh => by
    cases hq : q[j].kids with
    | nil => rw [hq] at hh; simp at hh
    | cons y ys =>
      rw [hq] at hh
      simp only [List.head?_cons, Option.some.injEq] at hh
      have := hv.kid hj (k := y) (by rw [hq]; simp)
      omega
  have h7 := pat_size numL numL_len24 hv (q.length + 1) 0 false h0
  have h8' : ∀ a : Nat, endN (q.map PN.kids) a ≤ 600 := fun a => by
    have := pendF_le ((q.map PN.kids).length + 1) (q.map PN.kids) a
    unfold endN; simp only [List.length_map] at this ⊢; omega
  have h8 := h8' 0
  refine ⟨(q.length : Int), P, ?_, h4, by omega, by rw [h2, h5]; omega, h2.trans h5⟩
  rw [pp_lens hv, patL_len]
  exact h1
set_option maxHeartbeats 8000000 in
theorem iPrintPatC (q : List PN) (v : Value) (w : World) (hR : RowRd 4 PNEl w v q) (hz : bPat q ≤ 1048576) (hE : TabE w) :
    Calls Tryd.prog 7 #[.agg #[v]] w fun e w' => e = .returned (.string (prPatRes q)) ∧ Below w.heap.size w w' := by
  have hR0 := hR
  obtain ⟨p, cap, rfl, hm, hR⟩ := hR.form
  have hO := fun W (hK : Kept w W) => Lib.hid (iPatOk q _ W (hR0.kept PNEl.st hK))
  cases hb : patOkB q
  · rw [hb] at hO
    have HB := Lib.hid (show prPatRes q = ⟨#[]⟩ from by rw [prPatRes, hb]; rfl)
    clear hR0 hE hR
    go_enter Tryd.func7, Tryd.ntmps7
    go_wp2_with (go_at_call 13; refine (hO _ (Kept.alloc _ _)).out.mono ?_; rintro e w1 ⟨rfl, hb1⟩; obtain ⟨hcl, hfr⟩ := bcell hb1)
    go_ret
    exact ⟨by rw [HB.out]; rfl, below_tr (Joins.below_alloc1 w _) hb1⟩
  · rw [hb] at hO
    obtain ⟨h1, h2⟩ := patOk_len hb
    have hv := patV_of hb
    obtain ⟨r, P, hP, hne, hPl, hPf, hPt⟩ := pp_ok hv h1 h2
    have HB := Lib.hid (show prPatRes q = ⟨P.flatten.toArray⟩ from by rw [prPatRes, if_pos hb, hPt])
    have hM := fun W (hK : Kept w W) (hT : TabE W) => Lib.hid (iMapPn q _ W (hR0.kept PNEl.st hK) (by omega) (fun x hx => by
      obtain ⟨i, hi, rfl⟩ := List.getElem_of_mem hx
      exact hv.nd i hi) hT.t)
    have hV := fun W v' (hr : RowRd 1 (RowEl 1 StrEl) W v' ((patL numL q q.length).map strs)) => Lib.hid (iWoven (patL numL q q.length) (fun Q hQ => by
      obtain ⟨i, hi, rfl⟩ := List.getElem_of_mem hQ
      have hi' : i < q.length := by rw [patL_len] at hi; exact hi
      obtain ⟨T, hT, hl⟩ := hv.texts numL q.length i hi'
      rw [List.getElem?_eq_getElem hi] at hT
      injection hT with hT
      rw [hT, hl]; omega) (by rw [patL_len]; omega) v' W hr r P hP hne hPl hPf)
    have HE := Lib.hid hE
    have HV := Lib.hid hv
    have hml : ((patL numL q q.length).map strs).length = q.length := by rw [List.length_map, patL_len]
    clear hP hPt hE hne hPl hPf hv
    obtain ⟨b, o, rfl, hbw, hc⟩ := hR (by omega)
    clear hR
    go_enter Tryd.func7, Tryd.ntmps7
    go_wp2_with (first
      | (go_at_call 13; refine (hO _ (Kept.alloc _ _)).out.mono ?_; rintro e w1 ⟨rfl, hb1⟩; have B1 := below_tr (Joins.below_alloc1 w _) hb1; have z1 := hb1.size; have c1 : w1.cell? ⟨w.heap.size, 0, none⟩ = some (.slice (some ⟨b, o, none⟩) q.length cap) := by (rw [hb1.cell (p := ⟨w.heap.size, 0, none⟩) (by simp)]; simp))
      | (go_at_call 14; refine (hM _ (Kept.of_below B1) (HE.out.below B1)).out.mono ?_; rintro e w2 ⟨v2, us0, rfl, hlen, hown, htx, hb2⟩; obtain ⟨g, gc, hvv, g1, g2, g3, g4, g5⟩ := own_shape hown (by omega); rw [hlen] at hvv; subst hvv; have B2 := below_tr B1 hb2; have c2 : w2.cell? ⟨w.heap.size, 0, none⟩ = some (.slice (some ⟨b, o, none⟩) q.length cap) := (hb2.cell (p := ⟨w.heap.size, 0, none⟩) (by simp at z1; show w.heap.size < _; omega)).trans c1))
    simp only [World.size_alloc] at z1
    have I0 : LI q g w2 0 us0 w2 := ⟨hlen, fun i hi => by rw [g4 i hi, List.getElem?_eq_getElem hi], g5, fun i hi hq => by rw [patAt_0]; exact htx g rfl i hi hq, ButF.refl _ _, g2⟩
    have hgc : q.length ≤ gc := by omega
    clear hM hO htx hown g3 g4 g5 c1 hb2 hb1 B1
    go_loopw [15] (fun i wr => ∃ (k : Nat) (us : List Value), i = .int .i64 k ∧ k ≤ q.length ∧ LI q g w2 k us wr) (fun i _ => q.length - (intOf i).toNat)
    case atStart => exact ⟨0, us0, rfl, Nat.zero_le _, I0⟩
    case round =>
      obtain ⟨k, us, rfl, hk, hI⟩ := hrel
      clear I0
      have hbel : Below w.heap.size w wr := B2.trans (hI.but.bel (B := w.heap.size) (fun j hj => by rw [List.mem_singleton.1 hj]; omega) B2.size)
      have hsz : w2.heap.size ≤ wr.heap.size := hI.but.size
      by_cases hlt : k < q.length
      · have ex := hc k hlt
        have hn := HV.out.nd k hlt
        have hkid := fun kk (h : kk ∈ q[k].kids) => HV.out.kid hlt h
        obtain ⟨x, hxe⟩ : ∃ x, q[k] = x := ⟨_, rfl⟩
        rw [hxe] at ex hn hkid
        obtain ⟨⟨e0, i0⟩, ⟨e1, i1⟩, ⟨e2, i2⟩, ⟨u3, e3, r3⟩⟩ := ex
        obtain ⟨pk, ck, rfl, hmk, hkf⟩ := r3.form
        have K := Kept.of_below hbel
        replace e0 := (K.cell _ _ hbw).trans e0
        replace e1 := (K.cell _ _ hbw).trans e1
        replace e2 := (K.cell _ _ hbw).trans e2
        replace e3 := (K.cell _ _ hbw).trans e3
        have hcp := fun W => Lib.hid (iConsPat x.kind x.n x.s (.slice pk x.kids.length ck) W i2)
        have HX := Lib.hid hxe
        have HI := Lib.hid hI
        have hk0 : (0 : Int) ≤ k := by omega
        have hk1 : (k : Int) < q.length := by omega
        cases hcx : isConsB x
        · have hcx' : (decide (x.kind = 4) && decide (x.s.toList = [58, 58])) = false := hcx
          have HN := fun w' (hb : Below wr.heap.size wr w') => Lib.hid (hI.no hlt (by rw [hxe]; exact hcx) hb)
          rw [hcx'] at hcp
          clear hI hxe hcx hcx' hn hkid hkf r3 hc hbel K
          go_wp2_with (go_at_call 16; refine (hcp _).out.mono ?_; rintro e w3 ⟨rfl, hb3⟩)
          go_roundw
          case rel => exact ⟨k + 1, us, by go_num, by omega, (HN _ (below_tr (Joins.below_alloc1 wr _) hb3)).out⟩
          case measure => simp [intOf]; omega
        · have hcx' : (decide (x.kind = 4) && decide (x.s.toList = [58, 58])) = true := hcx
          rw [hcx'] at hcp
          have hl := isPN_cons _ hn hcx
          obtain ⟨kid, hkk⟩ := List.length_eq_one_iff.1 hl
          obtain ⟨k1, k2⟩ := hkid kid (by rw [hkk]; simp)
          obtain ⟨kn, rfl⟩ : ∃ kn : Nat, kid = kn := ⟨kid.toNat, by omega⟩
          have hkn : kn < q.length := by omega
          obtain ⟨bk, ok, rfl, hbk, hck⟩ := hkf (by omega)
          have m0 := (hck 0 (by omega)).1
          simp only [hkk, List.getElem_cons_zero, Nat.zero_mul, Nat.add_zero] at m0
          replace m0 := (K.cell _ _ hbk).trans m0
          have hu1 : k < us.length := by rw [hI.len]; exact hlt
          have hu2 : kn < us.length := by rw [hI.len]; exact hkn
          obtain ⟨pa, ca, hua, -, -⟩ := (hI.tx k hu1 hlt).r.form
          obtain ⟨pb, cb, hub, -, -⟩ := (hI.tx kn hu2 hkn).r.form
          have qa := hI.cell k hu1
          have qb := hI.cell kn hu2
          rw [hua] at qa
          rw [hub] at qb
          have fa := hI.frz k
          have fb := hI.frz kn
          have hgl := hI.lt
          have HY := fun wA v1 v2 (hb : Below wr.heap.size wr wA) t1 t2 => Lib.hid (hI.yes (v1 := v1) (v2 := v2) HV.out hlt (by rw [hxe]; exact hcx) (by rw [hxe]; exact hkk) hkn (by omega) hb t1 t2)
          generalize (strs (patAt numL q k k q[k])).length = la at *
          generalize (strs (patAt numL q k kn q[kn])).length = lb at *
          rw [hl] at e3 hcp
          have hn0 : (0 : Int) ≤ kn := by omega
          have hn1 : (kn : Int) < q.length := by omega
          have hCT := fun W => Lib.hid (iConsTexts W)
          have hbg : bk ≠ g := by omega
          clear hI hxe hcx hcx' hn hkid hkf r3 hc hbel K hua hub hck hkk hl
          go_wp2_with (go_at_call 16; refine (hcp _).out.mono ?_; rintro e w3 ⟨rfl, hb3⟩)
          have B3 : Below wr.heap.size wr w3 := below_tr (Joins.below_alloc1 wr _) hb3
          have z3 := hb3.size
          simp only [World.size_alloc] at z3
          have c3 : w3.cell? ⟨wr.heap.size, 3, none⟩ = some (.slice (some ⟨bk, ok, none⟩) 1 ck) := by rw [hb3.cell (p := ⟨wr.heap.size, 3, none⟩) (by simp)]; simp
          have m3 : w3.cell? ⟨bk, ok, none⟩ = some (.int .i64 kn) := (B3.cell (p := ⟨bk, ok, none⟩) (by show bk < _; have := B2.size; omega)).trans m0
          have q3 : w3.cell? ⟨g, k, none⟩ = some (.slice pa la ca) := (B3.cell (p := ⟨g, k, none⟩) hgl).trans qa
          have p3 : w3.cell? ⟨g, kn, none⟩ = some (.slice pb lb cb) := (B3.cell (p := ⟨g, kn, none⟩) hgl).trans qb
          have f3 : w3.frozen? ⟨g, k, none⟩ = false := (B3.frozen (p := ⟨g, k, none⟩) hgl).trans fa
          have h3 : w3.frozen? ⟨g, kn, none⟩ = false := (B3.frozen (p := ⟨g, kn, none⟩) hgl).trans fb
          have KS : ∀ W, ButF [g] w3 W → W.cell? ⟨wr.heap.size, 3, none⟩ = some (.slice (some ⟨bk, ok, none⟩) 1 ck) ∧ W.cell? ⟨bk, ok, none⟩ = some (.int .i64 kn) := fun W h =>
            ⟨(World.cell?_of_block (a := ⟨wr.heap.size, 3, none⟩) (h.block wr.heap.size (by omega) (by simp; omega))).trans c3, (World.cell?_of_block (a := ⟨bk, ok, none⟩) (h.block bk (by have := B2.size; omega) (by simpa using hbg))).trans m3⟩
          clear e0 e1 e2 e3 m0 qa qb fa fb hb3 hcp c2
          go_region_held3 (fun W => W.cell? ⟨wr.heap.size, 3, none⟩ = some (.slice (some ⟨bk, ok, none⟩) 1 ck) ∧ W.cell? ⟨bk, ok, none⟩ = some (.int .i64 kn))
            (first | exact KS _ (ButF.refl _ _) | exact KS _ (ButF.of_below (Below.refl _ _).drew) | exact KS _ (ButF.of_below ((Below.refl _ _).drew.trans hbA)) | exact KS _ ((ButF.of_below ((Below.refl _ _).drew.trans hbA)).trans (set_but _ _ _ _)) | exact KS _ (((ButF.of_below ((Below.refl _ _).drew.trans hbA)).trans (set_but _ _ _ _)).trans (set_but _ _ _ _)))
            ((go_at_call 17; refine (hCT _).out.mono ?_; rintro e wA ⟨rfl, r1, r2, hbA⟩; have qA : wA.cell? ⟨g, k, none⟩ = some (.slice pa la ca) := (hbA.cell (p := ⟨g, k, none⟩) (by show g < w3.heap.size; omega)).trans q3; have fA : wA.frozen? ⟨g, k, none⟩ = false := (hbA.frozen (p := ⟨g, k, none⟩) (by show g < w3.heap.size; omega)).trans f3; have pA : wA.cell? ⟨g, kn, none⟩ = some (.slice pb lb cb) := (hbA.cell (p := ⟨g, kn, none⟩) (by show g < w3.heap.size; omega)).trans p3; have hA : wA.frozen? ⟨g, kn, none⟩ = false := (hbA.frozen (p := ⟨g, kn, none⟩) (by show g < w3.heap.size; omega)).trans h3; have pB : ∀ u, (wA.setCell ⟨g, k, none⟩ u).cell? ⟨g, kn, none⟩ = some (.slice pb lb cb) := fun u => (cell_off (by omega)).trans pA))
          have hg3 : g < w3.drew.heap.size := by show g < w3.heap.size; omega
          have T1 : TxAt g wA (.slice (some ⟨w3.drew.heap.size, 0, none⟩) 2 2) [[], []] := ⟨r1, fun e => by injection e with e; have e' : w3.drew.heap.size = g := e; omega, rfl⟩
          have T2 : TxAt g wA (.slice (some ⟨w3.drew.heap.size + 1, 0, none⟩) 3 3) [[40], [32, 58, 58, 32], [41]] := ⟨r2, fun e => by injection e with e; have e' : w3.drew.heap.size + 1 = g := e; omega, rfl⟩
          have HZ := HY wA _ _ (below_tr B3 ((Below.refl _ _).drew.trans hbA)) T1 T2
          clear HY T1 T2 r1 r2 KS hCT qA fA pA hA pB q3 p3 f3 h3 c3 m3
          go_wp2_with fail
          go_roundw
          case rel => exact ⟨k + 1, _, by go_num, by omega, HZ.out⟩
          case measure => simp [intOf]; omega
      · obtain rfl : k = q.length := by omega
        have HF := Lib.hid (hI.fin (by omega) hgc)
        rw [hml] at HF
        clear hI hc
        go_wp2_with (go_at_call 18; refine (hV _ _ HF.out).out.mono ?_; rintro e w4 ⟨rfl, hb4⟩)
        go_ret
        exact ⟨by rw [HB.out]; rfl, below_tr hbel hb4⟩
end Go.Proofs.YtcllifmaokldbaaDoor
