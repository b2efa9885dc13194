/- The model's putting: the walk. -/
import Derived.Test.YtciohamonmmciaaPutS
import Derived.Maps.AppendAt
namespace Go.Proofs.Ytciohamonmmciaa
set_option linter.unusedVariables false
set_option maxRecDepth 100000
open Go.ChangeShapes Go.WideShapes Go.ChangeAt Go.RowKit

theorem appL_none {t : TyI} {l : List Sb} (h : hitB t l = false) : appL t l = [] := by
  unfold appL
  by_cases hn : t.name.toList = []
  · rw [if_pos hn]
    unfold hitB at h
    simp only [hn, decide_true, Bool.true_and, List.any_eq_false, decide_eq_true_eq] at h
    rw [List.filter_eq_nil_iff.2 fun s hs => by simpa using h s hs]
    rfl
  · rw [if_neg hn]
theorem not_own {v v2 : Value} {n q : Nat} (h : v2.ownBlock = v.ownBlock ∨ v2.ownBlock = some n) (h1 : v.ownBlock ≠ some q) (h2 : n ≠ q) : v2.ownBlock ≠ some q := by
  rcases h with h | h
  · rw [h]; exact h1
  · rw [h]; exact fun e => h2 (Option.some.inj e)
theorem len_app {O P : List TyI} : (O ++ P).length = O.length + P.length := List.length_append
theorem ainv_len {w W2 w2 : World} {O : List TyI} {t : TyI} {a : Option Addr} {d : Nat} (h : AInv w W2 (O ++ [t]) (.slice a (O ++ [t]).length d) (w2.setCell ⟨w.heap.size + 2, 0, none⟩ (.slice a (O ++ [t]).length d))) :
    AInv w W2 (O ++ [t]) (.slice a (O.length + 1) d) (w2.setCell ⟨w.heap.size + 1 + 1, 0, none⟩ (.slice a (O.length + 1) d)) := by
  rw [len_app] at h; exact h
theorem ainv_len2 {w W2 w2 : World} {O P : List TyI} {a : Option Addr} {d : Nat} (h : AInv w W2 (O ++ P) (.slice a (O ++ P).length d) (w2.setCell ⟨w.heap.size + 2, 0, none⟩ (.slice a (O ++ P).length d))) :
    AInv w W2 (O ++ P) (.slice a (O.length + P.length) d) (w2.setCell ⟨w.heap.size + 1 + 1, 0, none⟩ (.slice a (O.length + P.length) d)) := by
  rw [len_app] at h; exact h
set_option maxHeartbeats 4000000 in
theorem sApply (x : List TyI) (l : List Sb) (v vl : Value) (w : World) (hR : RowRd 3 TyIEl w v x) (hRl : RowRd 2 SbEl w vl l) (hz : x.length * (1 + bulkL bSb l) ≤ 1099511627776) (hzl : bulkL bSb l ≤ 1099511627776) (hne : ∀ s ∈ l, 0 < s.ty.length) :
    Calls Try.prog 31 #[.agg #[v], vl] w (ToTyPost (appX l x) w) := by
  have hR0 := hR
  have hRl0 := hRl
  have hl : x.length ≤ 1099511627776 := Nat.le_trans (Nat.le_mul_of_pos_right _ (by omega)) hz
  have hll : l.length ≤ 1099511627776 := Nat.le_trans (bulkL_len _ _) hzl
  obtain ⟨p, cap, rfl, _, hRf⟩ := hR.form
  obtain ⟨pl, capl, rfl, _, hRlf⟩ := hRl.form
  obtain ⟨j0, gi, gz0, gz1, gz2⟩ := info_parts info_item
  have hitems := app_items hRl0 (row_items hR0)
  have htl := fun k (h : k ≤ x.length) => appX_take_len l x k h
  have bw2 : Below w.heap.size w ((w.alloc (.cells #[.slice p x.length cap] 28)).alloc (.cells #[.slice none 0 0] 28)) := Joins.below_alloc2 w _ _
  have r2 : ((w.alloc (.cells #[.slice p x.length cap] 28)).alloc (.cells #[.slice none 0 0] 28)).cell? ⟨w.heap.size + 1, 0, none⟩ = some (.slice none 0 0) ∧ ((w.alloc (.cells #[.slice p x.length cap] 28)).alloc (.cells #[.slice none 0 0] 28)).frozen? ⟨w.heap.size + 1, 0, none⟩ = false := ⟨by simp, by simp⟩
  have z2 : ((w.alloc (.cells #[.slice p x.length cap] 28)).alloc (.cells #[.slice none 0 0] 28)).heap.size = w.heap.size + 2 := by simp
  have hst : AInv w ((w.alloc (.cells #[.slice p x.length cap] 28)).alloc (.cells #[.slice none 0 0] 28)) [] (.slice none 0 0) (((w.alloc (.cells #[.slice p x.length cap] 28)).alloc (.cells #[.slice none 0 0] 28)).alloc (.cells #[.slice none 0 0] 28)) := by
    generalize ((w.alloc (.cells #[.slice p x.length cap] 28)).alloc (.cells #[.slice none 0 0] 28)) = W2 at *
    refine ⟨World.ownsRow_nil _ _ _ _, ?_, (Below.refl _ _).alloc (by omega) _, by simp; omega⟩
    have := heap_alloc_new W2 (.cells #[.slice none 0 0] 28)
    rw [z2] at this
    exact this
  obtain ⟨W2, hW2⟩ : ∃ W, W = ((w.alloc (.cells #[.slice p x.length cap] 28)).alloc (.cells #[.slice none 0 0] 28)) := ⟨_, rfl⟩
  rw [← hW2] at bw2 r2 z2 hst
  obtain ⟨ZZ, hZZ⟩ : ∃ z, z = x.length * (1 + bulkL bSb l) := ⟨_, rfl⟩
  rw [← hZZ] at hz htl
  have HZ := Lib.hid hZZ
  clear hZZ
  go_enter Try.func31, Try.ntmps31
  go_wp2
  go_loopw [15] (fun i wr => ∃ (k : Nat) (vo : Value), k ≤ x.length ∧ i = .int .i64 k ∧ AInv w W2 (appX l (x.take k)) vo wr) (fun i _ => x.length - (intOf i).toNat)
  case atStart => exact ⟨0, _, Nat.zero_le _, rfl, by rw [hW2] at hst ⊢; exact hst⟩
  case round =>
    obtain ⟨k, vo, hk, rfl, hI⟩ := hrel
    generalize wr = wo at *
    clear hst hW2
    have holen := htl k hk
    by_cases hlt : k < x.length
    · obtain ⟨b, o, rfl, hbw, hc⟩ := hRf (by omega)
      have hKw : Kept w wo := Kept.of_below (bw2.trans (hI.bel.mono (by omega)))
      have ex := TyIEl.st w wo b _ _ hKw hbw (hc k hlt)
      have hsn := app_snoc l x k hlt
      have hLt := fun j => appL_len x[k] l j
      have hNo := fun j h => appL_no x[k] l j h
      have hYes := fun j h => appL_yes x[k] l j h
      have hOne : appOne l x[k] = if hitB x[k] l = true then appL x[k] l else [x[k]] := rfl
      have hNone : hitB x[k] [] = false := by unfold hitB; simp
      have hNil : appL x[k] [] = [] := by unfold appL; simp
      clear hc hRf hR hR0 hitems htl
      generalize x[k] = t at *
      obtain ⟨O, hO⟩ : ∃ O, O = appX l (x.take k) := ⟨_, rfl⟩
      rw [← hO] at hI hsn holen
      have HSN := Lib.hid hsn
      have HLt := Lib.hid hLt
      have HNo := Lib.hid hNo
      have HYes := Lib.hid hYes
      have HOne := Lib.hid hOne
      have HNone := Lib.hid hNone
      have HNil := Lib.hid hNil
      clear hO hsn hLt hNo hYes hOne hNone hNil
      obtain ⟨⟨e0, ii0⟩, ⟨e1, ii1⟩, ⟨e2, ii2⟩⟩ := ex
      have hoq : vo.ownBlock ≠ some wo.heap.size := fun e => by have := (hI.o.lt _ e).2; omega
      have hwsz := hI.sz
      have hIx := hI.below ((Below.refl _ _).alloc (Nat.le_refl _) (.cells #[.int .i64 t.var, .string t.name, .int .i64 t.arity] 68))
      have hX : (wo.alloc (.cells #[.int .i64 t.var, .string t.name, .int .i64 t.arity] 68)).heap[wo.heap.size]? = some (.cells #[.int .i64 t.var, .string t.name, .int .i64 t.arity] 68 (0, 0)) := heap_alloc_new wo _
      have zi : wo.heap.size < (wo.alloc (.cells #[.int .i64 t.var, .string t.name, .int .i64 t.arity] 68)).heap.size := by simp
      obtain ⟨WX, hWX⟩ : ∃ W, W = wo.alloc (.cells #[.int .i64 t.var, .string t.name, .int .i64 t.arity] 68) := ⟨_, rfl⟩
      go_wp2
      go_loopw [8, 21] (fun pt jj wr => ∃ (j : Nat) (vo : Value), j ≤ l.length ∧ jj = .int .i64 j ∧ pt = .bool (hitB t (l.take j)) ∧ AInv w W2 (O ++ appL t (l.take j)) vo wr ∧ wr.heap[wo.heap.size]? = some (.cells #[.int .i64 t.var, .string t.name, .int .i64 t.arity] 68 (0, 0)) ∧ vo.ownBlock ≠ some wo.heap.size ∧ wo.heap.size < wr.heap.size) (fun _ j _ => l.length - (intOf j).toNat)
      case atStart => exact ⟨0, vo, Nat.zero_le _, rfl, by rw [List.take_zero, HNone.out], by rw [List.take_zero, HNil.out, List.append_nil]; exact hIx, hX, hoq, zi⟩
      case round =>
        obtain ⟨j, vo2, hj, rfl, rfl, hI2, hX2, hoq2, hlt2⟩ := hrel
        obtain ⟨x0, x1, x2, xf⟩ := box3 hX2
        have hsz2 := hI2.sz
        by_cases hjl : j < l.length
        · obtain ⟨bl, ol, rfl, hbl, hcl⟩ := hRlf (by omega)
          have hK2 : Kept w wr := Kept.of_below (bw2.trans (hI2.bel.mono (by omega)))
          have es := SbEl.st w wr bl _ _ hK2 hbl (hcl j hjl)
          have hpos := hne l[j] (List.getElem_mem hjl)
          have hN1 := HNo.out j hjl
          have hY1 := HYes.out j hjl
          have hLj := HLt.out j
          have hLj1 := HLt.out (j + 1)
          obtain ⟨OO, hOO⟩ : ∃ OO, OO = O ++ appL t (l.take j) := ⟨_, rfl⟩
          obtain ⟨hh, hhh⟩ : ∃ hh, hh = hitB t (l.take j) := ⟨_, rfl⟩
          have hOOl : OO.length = O.length + (appL t (l.take j)).length := by rw [hOO]; exact len_app
          rw [← hOO] at hI2
          rw [← hhh]
          clear hcl hRlf
          generalize l[j] = s at *
          obtain ⟨⟨s0, si0⟩, ⟨v1, s1, r1⟩⟩ := es
          have r10 := r1
          obtain ⟨p1, c1, rfl, m1, hr1⟩ := r1.form
          obtain ⟨b1, o1, rfl, hb1, hc1⟩ := hr1 hpos
          have hIs := hI2.below ((Below.refl _ _).alloc (Nat.le_refl _) (.cells #[.int .i64 s.var, .slice (some ⟨b1, o1, none⟩) s.ty.length c1] 59))
          have hXs : (wr.alloc (.cells #[.int .i64 s.var, .slice (some ⟨b1, o1, none⟩) s.ty.length c1] 59)).heap[wo.heap.size]? = some (.cells #[.int .i64 t.var, .string t.name, .int .i64 t.arity] 68 (0, 0)) := (alloc_old wr _ wo.heap.size hlt2).trans hX2
          have hcs := src_cells (fun i hi => TyIEl.st wr (wr.alloc (.cells #[.int .i64 s.var, .slice (some ⟨b1, o1, none⟩) s.ty.length c1] 59)) b1 _ _ (Kept.alloc _ _) hb1 (hc1 i hi))
          obtain ⟨q0, q1⟩ := box_cell hIs.b
          have q2 : (wr.alloc (.cells #[.int .i64 s.var, .slice (some ⟨b1, o1, none⟩) s.ty.length c1] 59)).cell? ⟨w.heap.size + 1 + 1, 0, none⟩ = some vo2 := q0
          have ne1 : wr.heap.size ≠ w.heap.size + 1 + 1 := by omega
          have ne2 : wr.heap.size ≠ wo.heap.size := by omega
          have w5' : wr.cell? ⟨w.heap.size + 1 + 1, 0, none⟩ = some vo2 := (box_cell hI2.b).1
          have hlt3 : w.heap.size + 1 + 1 < wr.heap.size := by omega
          have HN1 := Lib.hid hN1
          have HY1 := Lib.hid hY1
          have HOO := Lib.hid hOO
          have HHH := Lib.hid hhh
          have HOl := Lib.hid hOOl
          have hOb : OO.length ≤ ZZ + bulkL bSb l := by omega
          have hOb2 : (appL t (l.take j)).length + s.ty.length ≤ bulkL bSb l ∨ ¬ (t.name.toList = [] ∧ s.var = t.var) := by
            by_cases hm : t.name.toList = [] ∧ s.var = t.var
            · left
              have e := (HY1.out hm.1 hm.2).1
              have := congrArg List.length e
              rw [List.length_append] at this
              omega
            · exact .inr hm
          clear hN1 hY1 hOO hhh hOOl hc1 hr1 r1 r10 q0 hLj hLj1
          by_cases hn : t.name.toList = []
          · have hn1 : t.name.toList.isEmpty = true := by simp [hn]
            by_cases hv : s.var = t.var
            · have hv1 : (s.var == t.var) = true := by simpa using hv
              have HV := Lib.hid (HY1.out hn hv)
              have hb3 : OO.length + s.ty.length ≤ 2 * 1099511627776 + 0 := by
                rcases hOb2 with h | h
                · have := HOl.out; omega
                · exact absurd ⟨hn, hv⟩ h
              have h63 : OO.length + s.ty.length ≤ maxLen := by unfold maxLen; omega
              have hby : (OO.length + s.ty.length) * 32 ≤ 140737488355328 := by omega
              have hbs : w.heap.size + 2 ≤ (wr.alloc (.cells #[.int .i64 s.var, .slice (some ⟨b1, o1, none⟩) s.ty.length c1] 59)).heap.size := by simp; omega
              have hnz : (wr.alloc (.cells #[.int .i64 s.var, .slice (some ⟨b1, o1, none⟩) s.ty.length c1] 59)).heap.size ≠ wo.heap.size := by simp; omega
              have hq3 : wo.heap.size ≠ w.heap.size + 2 := by omega
              clear hv hn hOb hOb2
              go_wp2_with (at_builtin; refine wpList_append_own_at _ rfl (.tmp 36) (.tmp 39) 26 rfl (w.heap.size + 2) 68 j0 (.agg #[.int .i64 0, .string ⟨#[]⟩, .int .i64 0]) 3 32 Try.underlying26 gi gz0 gz1 gz2 rfl (by decide) _ OO.length (tyC OO) rfl hIs.o ⟨b1, o1, none⟩ s.ty.length c1 (tyC s.ty) rfl (tyC_len _) hcs (tyC_cell s.ty) h63 hby hbs ?_; intro v2 w2 hown2 hgrow2 _ hat2; have O2 := own_app_items (l := OO) (l' := s.ty) rfl rfl rfl rfl hown2; have hst := hIs.tail hgrow2 O2; have hXn := hIs.keep (u := v2) hgrow2 hXs (.inr hoq2) hq3; have hnw : v2.ownBlock ≠ some wo.heap.size := (not_own hat2 hoq2 hnz); obtain ⟨y1, y2⟩ := hIs.box2 hgrow2; have y3 : w2.cell? ⟨w.heap.size + 1 + 1, 0, none⟩ = some vo2 := y1; have y4 : w2.frozen? ⟨w.heap.size + 1 + 1, 0, none⟩ = false := y2; have hgs := hgrow2.size; clear hat2; obtain ⟨a2, d2, rfl, -⟩ := own_form O2)
              go_roundw
              case rel =>
                rw [len_app] at hst hXn hnw
                exact ⟨j + 1, _, by omega, by go_num, by rw [HV.out.2], by rw [HV.out.1, ← List.append_assoc, ← HOO.out]; exact hst, hXn, hnw, by rw [setCell_size]; simp at hgs; omega⟩
              case measure => simp [intOf]; omega
            · have hv1 : (s.var == t.var) = false := by simpa using hv
              have HV := Lib.hid (HN1.out (fun h => hv h.2))
              clear hv hn
              go_wp2
              go_roundw
              case rel => exact ⟨j + 1, vo2, by omega, by go_num, by rw [HV.out.2, HHH.out], by rw [HV.out.1, ← HOO.out]; exact hIs, hXs, hoq2, by simp; omega⟩
              case measure => simp [intOf]; omega
          · have hn1 : t.name.toList.isEmpty = false := by simpa using hn
            have HV := Lib.hid (HN1.out (fun h => hn h.1))
            clear hn
            go_wp2
            go_roundw
            case rel => exact ⟨j + 1, vo2, by omega, by go_num, by rw [HV.out.2, HHH.out], by rw [HV.out.1, ← HOO.out]; exact hIs, hXs, hoq2, by simp; omega⟩
            case measure => simp [intOf]; omega
        · obtain rfl : j = l.length := by omega
          rw [List.take_length] at hI2 ⊢
          have hLj := HLt.out l.length
          rw [List.take_length] at hLj
          cases hh : hitB t l
          · have ho1 := HOne.out
            rw [hh, if_neg (by simp)] at ho1
            have HO1 := Lib.hid ho1
            have hap : appL t l = [] := appL_none hh
            rw [hap, List.append_nil] at hI2
            clear ho1 hh hap
            have w5' : wr.cell? ⟨w.heap.size + 1 + 1, 0, none⟩ = some vo2 := (box_cell hI2.b).1
            have hlt3 : w.heap.size + 1 + 1 < wr.heap.size := by omega
            have hIy := hI2.below ((Below.refl _ _).alloc (Nat.le_refl _) (.cells #[.int .i64 t.var, .string t.name, .int .i64 t.arity] 68))
            go_wp2_with (at_builtin; refine wpList_append_own _ rfl (.tmp 46) (.tmp 48) 26 rfl (w.heap.size + 2) 68 j0 (.agg #[.int .i64 0, .string ⟨#[]⟩, .int .i64 0]) 3 32 Try.underlying26 gi gz0 gz1 gz2 rfl (by decide) _ O.length (tyC O) rfl hIy.o ⟨wr.heap.size, 0, none⟩ 1 1 (tyC [t]) rfl rfl (new_cells' _ _ _ _ rfl rfl) (tyC_cell [t]) (by unfold maxLen; omega) (by omega) (by have := hIy.sz; simp at this ⊢; omega) ?_; intro v2 w2 hown2 hgrow2 _; have O2 := own_app_items rfl rfl (l' := [t]) rfl rfl hown2; have hst := hIy.tail hgrow2 O2; obtain ⟨y1, y2⟩ := hIy.box2 hgrow2; have y3 : w2.cell? ⟨w.heap.size + 1 + 1, 0, none⟩ = some vo2 := y1; have y4 : w2.frozen? ⟨w.heap.size + 1 + 1, 0, none⟩ = false := y2; obtain ⟨a2, d2, rfl, -⟩ := own_form O2)
            go_roundw
            case rel => exact ⟨k + 1, _, by omega, by go_num, by rw [HSN.out, HO1.out]; exact ainv_len hst⟩
            case measure => simp [intOf]; omega
          · have ho1 := HOne.out
            rw [hh, if_pos rfl] at ho1
            have HO1 := Lib.hid ho1
            clear ho1 hh
            go_wp2
            go_roundw
            case rel => exact ⟨k + 1, vo2, by omega, by go_num, by rw [HSN.out, HO1.out]; exact hI2⟩
            case measure => simp [intOf]; omega
    · obtain rfl : k = x.length := by omega
      rw [List.take_length] at hI
      obtain ⟨q1, q2⟩ := box_cell hI.b
      obtain ⟨a5, d5, rfl, -⟩ := own_form hI.o
      have q3 := (hI.bel.cell (p := ⟨w.heap.size + 1, 0, none⟩) (by show w.heap.size + 1 < _; omega)).trans r2.1
      have q4 := (hI.bel.frozen (p := ⟨w.heap.size + 1, 0, none⟩) (by show w.heap.size + 1 < _; omega)).trans r2.2
      have q5 : wo.cell? ⟨w.heap.size + 1 + 1, 0, none⟩ = some (.slice a5 (appX l x).length d5) := q1
      have HI := Lib.hid hI
      clear hI q1
      go_wp2
      obtain ⟨F5, hF5, hlo5, hnd5⟩ := own_items HI.out.o hitems
      refine bodyPost_ret (v := .agg #[.slice a5 (appX l x).length d5]) (by simp [results, Try.results31, go_sem, q3]) rfl ⟨_, F5, rfl, hF5.set TyIOwn.loc TyIOwn.sized _ _ (fun e => by have := hlo5 _ e; omega), fun g hg => by have := hlo5 g hg; omega, hnd5, (bw2.trans (HI.out.bel.mono (by omega))).setCell (Nat.le_succ _) _⟩
end Go.Proofs.Ytciohamonmmciaa
