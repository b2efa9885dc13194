/- Texts of this proof, merged: FnNd, OkZ1, QpW, FnPat, PreNd. -/
import Derived.Test.YtbehcmogndpkhaaGreatDoorM16
import Derived.Deep.QuietTactic
import Derived.BigQuiet
import Derived.Deep.RegionHeld3
import Derived.Deep.RegionWith
import Derived.Outline
import Derived.Test.YtbehcmogndpkhaaGreatDoorM18
namespace Go.Proofs.YtbehcmogndpkhaaGreatDoor
set_option linter.unusedVariables false
set_option maxRecDepth 100000
open Go.ChangeShapes Go.WideShapes Go.ChangeAt Go.RowKit

/-- A Node that is handed over. -/
def NdVal (w : World) (v : Value) (x : Nd) : Prop := ∃ v4 v5, v = .agg #[.int .i64 x.kind, .int .i64 x.at_, .int .i64 x.n, .string x.s, v4, v5] ∧ I64 x.kind ∧ I64 x.at_ ∧ I64 x.n ∧ x.s.size ≤ maxLen ∧ RowRd 1 IntEl w v4 x.kids ∧ RowRd 1 PatEl w v5 x.pats
theorem NdVal.kept {w w' : World} {v : Value} {x : Nd} (k : Kept w w') : NdVal w v x → NdVal w' v x := fun ⟨v4, v5, h, f0, f1, f2, f3, f4, f5⟩ => ⟨v4, v5, h, f0, f1, f2, f3, f4.kept IntEl.st k, f5.kept PatEl.st k⟩
theorem iIndexNd (g : Nat) (lb : Array Value) (eg : ∀ args w, (callFunc g args).run Tryz.prog w = .ok (.enter g args) w) (ok : Nd → Bool) (l : List Nd) (v : Value) (w : World) (hR : RowRd 6 NdEl w v l)
    (hp : ∀ i (hi : i < l.length) (u : Value) (W : World), Below w.heap.size w W → NdVal W u l[i] → Calls Tryz.prog g (#[u] ++ lb) W fun e w' => e = .returned (.bool (ok l[i])) ∧ Below W.heap.size W w') :
    Calls Tryz.prog 193 #[v, .func (.func g) #[] lb] w fun e w' => ∃ r : Int, e = .returned (.int .i64 r) ∧ decide (0 ≤ r) = l.any ok ∧ Below w.heap.size w w' := by
  obtain ⟨p, cap, rfl, hm, hR⟩ := hR.form
  unfold maxLen at hm
  go_enter Tryz.func193, Tryz.ntmps193
  go_wp2
  go_loopw [8] (fun i wr => ∃ k : Nat, i = .int .i64 k ∧ k ≤ l.length ∧ (l.take k).any ok = false ∧ Below w.heap.size w wr) (fun i _ => l.length - (intOf i).toNat)
  case atStart => exact ⟨0, rfl, Nat.zero_le _, rfl, Below.refl _ _⟩
  case round =>
    obtain ⟨k, rfl, hk, hno, hbel⟩ := hrel
    have HA := Lib.hid hno
    clear hno
    by_cases hlt : k < l.length
    · obtain ⟨b, o, rfl, hbw, hc⟩ := hR (by omega)
      have ex := NdEl.st w wr b _ _ (Kept.of_below hbel) hbw (hc k hlt)
      have hpk := fun u => hp k hlt u wr hbel
      have HY := Lib.hid (fun (h : ok l[k] = true) => any_yes ok l k hlt h)
      have HN := Lib.hid (fun (h : ok l[k] = false) => any_snoc ok l k hlt HA.out h)
      clear hc hR hp
      generalize l[k] = x at *
      obtain ⟨⟨e0, i0⟩, ⟨e1, i1⟩, ⟨e2, i2⟩, ⟨e3, i3⟩, ⟨v4, e4, r4⟩, ⟨v5, e5, r5⟩⟩ := ex
      have hp1 := hpk _ ⟨v4, v5, rfl, i0, i1, i2, i3, r4, r5⟩
      clear hpk
      generalize hx : ok x = t at *
      cases t
      · have HN2 := Lib.hid (HN.out rfl)
        clear HN HY
        go_wp2_with (go_at_fn g; refine hp1.mono ?_; rintro e w1 ⟨rfl, hb⟩)
        go_roundw
        case rel => exact ⟨k + 1, by go_num, by omega, HN2.out, below_tr hbel hb⟩
        case measure => simp [intOf]; omega
      · have HY2 := Lib.hid (HY.out rfl)
        clear HN HY
        go_wp2_with (go_at_fn g; refine hp1.mono ?_; rintro e w1 ⟨rfl, hb⟩)
        go_ret
        exact ⟨_, rfl, by rw [HY2.out]; simp, below_tr hbel hb⟩
    · obtain rfl : k = l.length := by omega
      rw [List.take_length] at HA
      go_wp2
      go_ret
      exact ⟨_, rfl, by rw [HA.out]; rfl, hbel⟩
theorem iContainsNd (g : Nat) (lb : Array Value) (eg : ∀ args w, (callFunc g args).run Tryz.prog w = .ok (.enter g args) w) (ok : Nd → Bool) (l : List Nd) (v : Value) (w : World) (hR : RowRd 6 NdEl w v l)
    (hp : ∀ i (hi : i < l.length) (u : Value) (W : World), Below w.heap.size w W → NdVal W u l[i] → Calls Tryz.prog g (#[u] ++ lb) W fun e w' => e = .returned (.bool (ok l[i])) ∧ Below W.heap.size W w') :
    Calls Tryz.prog 140 #[v, .func (.func g) #[] lb] w fun e w' => e = .returned (.bool (l.any ok)) ∧ Below w.heap.size w w' := by
  have hI := iIndexNd g lb eg ok l v w hR hp
  go_enter Tryz.func140, Tryz.ntmps140
  go_wp2_with (go_at_call 193; refine hI.mono ?_; rintro e w1 ⟨r, rfl, hr, hb⟩)
  go_ret
  refine ⟨ret_bool ?_, hb⟩
  rw [← hr]
theorem iNotNd (g : Nat) (lb : Array Value) (eg : ∀ args w, (callFunc g args).run Tryz.prog w = .ok (.enter g args) w) (r : Bool) (x : Nd) (u : Value) (bo : Nat) (w : World) (hc : w.cell? ⟨bo, 0, none⟩ = some (.func (.func g) #[] lb)) (hbo : bo < w.heap.size) (hu : NdVal w u x)
    (hp : ∀ W, Below w.heap.size w W → Calls Tryz.prog g (#[u] ++ lb) W fun e w' => e = .returned (.bool r) ∧ Below W.heap.size W w') :
    Calls Tryz.prog 141 #[u, .pointer (some ⟨bo, 0, none⟩)] w fun e w' => e = .returned (.bool (!r)) ∧ Below w.heap.size w w' := by
  obtain ⟨v4, v5, rfl, _, _, _, _, _, _⟩ := hu
  have hp1 := hp _ (Joins.below_alloc1 w (.cells #[.int .i64 x.kind, .int .i64 x.at_, .int .i64 x.n, .string x.s, v4, v5] 69))
  have hne : w.heap.size ≠ bo := by omega
  go_enter Tryz.func141, Tryz.ntmps141
  go_wp2_with (go_at_fn g; refine hp1.mono ?_; rintro e w1 ⟨rfl, hb⟩)
  go_ret
  exact ⟨rfl, below_tr (Joins.below_alloc1 w _) hb⟩
theorem e_iNotNd : ∀ args w, (callFunc 141 args).run Tryz.prog w = .ok (.enter 141 args) w := enters_of Tryz.func141 (by kernel_rfl) rfl
theorem iEveryNd (g : Nat) (lb : Array Value) (eg : ∀ args w, (callFunc g args).run Tryz.prog w = .ok (.enter g args) w) (ok : Nd → Bool) (l : List Nd) (v : Value) (w : World) (hR : RowRd 6 NdEl w v l)
    (hp : ∀ i (hi : i < l.length) (u : Value) (W : World), Below w.heap.size w W → NdVal W u l[i] → Calls Tryz.prog g (#[u] ++ lb) W fun e w' => e = .returned (.bool (ok l[i])) ∧ Below W.heap.size W w') :
    Calls Tryz.prog 67 #[v, .func (.func g) #[] lb] w fun e w' => e = .returned (.bool (l.all ok)) ∧ Below w.heap.size w w' := by
  have hC := fun (T : TypeId) => iContainsNd 141 #[.pointer (some ⟨w.heap.size, 0, none⟩)] e_iNotNd (fun x => !ok x) l v (w.alloc (.cells #[.func (.func g) #[] lb] T)) (hR.kept NdEl.st (Kept.alloc _ _))
    (fun i hi u W hW hu => iNotNd g lb eg (ok l[i]) l[i] u w.heap.size W ((hW.cell (p := ⟨w.heap.size, 0, none⟩) (by simp)).trans (by simp)) (Nat.lt_of_lt_of_le (by simp) hW.size) hu
      fun W' hB => hp i hi u W' (below_tr (Joins.below_alloc1 w _) (below_tr hW hB)) (hu.kept (Kept.of_below hB)))
  go_enter Tryz.func67, Tryz.ntmps67
  go_wp2_with (go_at_call 140; refine (hC _).mono ?_; rintro e w1 ⟨rfl, hb⟩)
  go_ret
  exact ⟨ret_bool (by rw [all_any]), below_tr (Joins.below_alloc1 w _) hb⟩
theorem iMapNd (g : Nat) (lb : Array Value) (eg : ∀ args w, (callFunc g args).run Tryz.prog w = .ok (.enter g args) w) (f : Nd → Int) (l : List Nd) (v : Value) (w : World) (hR : RowRd 6 NdEl w v l) (hl : l.length ≤ 1048576) (hI : ∀ x ∈ l, I64 (f x))
    (hp : ∀ i (hi : i < l.length) (u : Value) (W : World), Below w.heap.size w W → NdVal W u l[i] → Calls Tryz.prog g (#[u] ++ lb) W fun e w' => e = .returned (.int .i64 (f l[i])) ∧ Below W.heap.size W w') :
    Calls Tryz.prog 137 #[v, .func (.func g) #[] lb] w fun e w' => ∃ v', e = .returned v' ∧ RowRd 1 IntEl w' v' (l.map f) ∧ Below w.heap.size w w' := by
  obtain ⟨p, cap, rfl, hm, hR⟩ := hR.form
  unfold maxLen at hm
  obtain ⟨ii, hi, hz0, hz1, hz2⟩ := info_parts info_int
  obtain ⟨w0, hmk, hown0, hgr0⟩ := run_make_own (P := Tryz.prog) w w.heap.size 35 3 ii (.int .i64 0) 1 Tryz.underlying35 hi hz0 hz1 .i64 .i64 l.length (by rw [hz2]; omega) (by unfold maxLen; omega) (Nat.le_refl _)
  have hb0 : Below w.heap.size w w0 := (Below.refl _ _).grown hgr0 (Nat.le_refl _) (fun k hk => by simp at hk)
  have hI' : ∀ x ∈ l.map f, I64 x := by
    intro x hx
    obtain ⟨y, hy, rfl⟩ := List.mem_map.1 hx
    exact hI y hy
  go_enter Tryz.func137, Tryz.ntmps137
  go_wp2
  go_loopw [5, 13] (fun nx i wr => ∃ k : Nat, i = .int .i64 k ∧ k ≤ l.length ∧ wr.ownsRow w.heap.size 3 1 nx ((l.take k).map f).length (ic ((l.take k).map f)) ∧ Below w.heap.size w wr ∧ w.heap.size ≤ wr.heap.size) (fun _ i _ => l.length - (intOf i).toNat)
  case atStart => exact ⟨0, rfl, Nat.zero_le _, hown0, hb0, hb0.size⟩
  case round =>
    obtain ⟨k, rfl, hk, hown, hbel, hsz⟩ := hrel
    have hlen : ((l.take k).map f).length = k := by simp; omega
    by_cases hlt : k < l.length
    · obtain ⟨b, o, rfl, hbw, hc⟩ := hR (by omega)
      have ex := NdEl.st w wr b _ _ (Kept.of_below hbel) hbw (hc k hlt)
      have HT := Lib.hid (take_map_succ f l k hlt)
      have hpk := hp k hlt
      clear hc hR hmk hown0 hgr0 hb0 hp hI hI'
      generalize l[k] = x at *
      obtain ⟨⟨e0, i0⟩, ⟨e1, i1⟩, ⟨e2, i2⟩, ⟨e3, i3⟩, ⟨v4, e4, r4⟩, ⟨v5, e5, r5⟩⟩ := ex
      obtain ⟨p4, c4, rfl, m4, -⟩ := r4.form
      obtain ⟨p5, c5, rfl, m5, -⟩ := r5.form
      have hag := hpk _ (wr.alloc (.cells #[.int .i64 x.kind, .int .i64 x.at_, .int .i64 x.n, .string x.s, .slice p4 x.kids.length c4, .slice p5 x.pats.length c5] 69)) (below_tr hbel (Joins.below_alloc1 wr _)) (NdVal.kept (Kept.alloc wr _) ⟨_, _, rfl, i0, i1, i2, i3, r4, r5⟩)
      clear hpk
      generalize f x = fx at *
      go_wp2_with (first
        | (go_at_fn g; refine hag.mono ?_; rintro e w1 ⟨rfl, hb⟩; have hb1 := below_tr (Joins.below_alloc1 wr _) hb; have hown1 := own_below hown hb1; have hbel1 := below_tr hbel hb1; have hsz1 := Nat.le_trans hsz hb1.size)
        | (at_builtin; refine wpList_append_own _ rfl (.tmp 17) (.tmp 21) 35 rfl w.heap.size 3 ii (.int .i64 0) 1 8 Tryz.underlying35 hi hz0 hz1 hz2 rfl (by decide) _ ((l.take k).map f).length (ic ((l.take k).map f)) rfl (hown1.alloc _) ⟨w1.heap.size, 0, none⟩ 1 1 [.int .i64 fx] rfl rfl (new_cells _ _ _ _ rfl) (ic_one [fx]) (by unfold maxLen; omega) (by omega) (by simp; omega) ?_; intro v' w2 hown' hgrow _))
      have R := own_app hown1 hbel1 (Nat.le_refl _) hsz1 hgrow
      have O := own_i rfl rfl (l' := [fx]) rfl rfl hown'
      clear hown hown1 hown' hgrow hbel hbel1
      go_roundw
      case rel => exact ⟨k + 1, by go_num, by omega, by rw [HT.out]; exact O, R.1, R.2⟩
      case measure => simp [intOf]; omega
    · obtain rfl : k = l.length := by omega
      rw [List.take_length] at hown
      clear hR hmk hown0 hgr0 hb0 hp
      go_wp2
      go_ret
      exact ⟨_, rfl, own_rd hown (by simp; unfold maxLen; omega) hI', hbel⟩
end Go.Proofs.YtbehcmogndpkhaaGreatDoor
namespace Go.Proofs.YtbehcmogndpkhaaGreatDoor
set_option linter.unusedVariables false
set_option maxRecDepth 100000
open Go.ChangeShapes Go.WideShapes Go.ChangeAt Go.RowKit Go.Maps Go.WideMaps

def rnK (k n : Int) : Bool := if k = 1 then decide (0 ≤ n) && decide (n ≤ 4611686018427387903) else decide (n = 0)
theorem iRightN (k a n : Int) (s : ByteArray) (u4 u5 : Value) (w : World) :
    Calls Tryz.prog 127 #[.agg #[.int .i64 k, .int .i64 a, .int .i64 n, .string s, u4, u5]] w fun e w' => e = .returned (.bool (rnK k n)) ∧ Below w.heap.size w w' := by
  by_cases h1 : k = 1
  · subst h1
    by_cases h0 : 0 ≤ n
    · have HF := Lib.hid (show rnK 1 n = decide (n ≤ 4611686018427387903) from by simp [rnK, h0])
      go_enter Tryz.func127, Tryz.ntmps127
      go_wp2
      go_ret
      exact ⟨ret_bool HF.out.symm, Joins.below_alloc1 w _⟩
    · have HF := Lib.hid (show rnK 1 n = false from by simp [rnK, h0])
      go_enter Tryz.func127, Tryz.ntmps127
      go_wp2
      go_ret
      exact ⟨ret_bool HF.out.symm, Joins.below_alloc1 w _⟩
  · have h1' : (k == 1) = false := by simpa using h1
    have HF := Lib.hid (show rnK k n = decide (n = 0) from if_neg h1)
    clear h1
    go_enter Tryz.func127, Tryz.ntmps127
    go_wp2
    go_ret
    refine ⟨ret_bool ?_, Joins.below_alloc1 w _⟩
    rw [HF.out, Bool.eq_iff_iff]; simp
theorem iOperator (s : ByteArray) (w : World) (hs : s.size ≤ maxLen) :
    Calls Tryz.prog 180 #[.string s] w fun e w' => e = .returned (.bool (primB s)) ∧ Below w.heap.size w w' := by
  by_cases h : primB s = true
  · have h' := h
    simp only [primB, prims, List.any_cons, List.any_nil, Bool.or_false, Bool.or_eq_true, beq_iff_eq] at h
    rcases h with h | h | h | h | h | h | h | h | h | h
    all_goals
      have HB := Lib.hid h'
      clear h'
      go_enter Tryz.func180, Tryz.ntmps180
      go_wp2
      go_ret
      exact ⟨ret_bool HB.out.symm, Below.refl _ _⟩
  · have HB := Lib.hid (show primB s = false from by simpa using h)
    simp only [primB, prims, List.any_cons, List.any_nil, Bool.or_false, Bool.or_eq_true, not_or] at h
    obtain ⟨h0, h1, h2, h3, h4, h5, h6, h7, h8, h9⟩ := h
    simp only [Bool.not_eq_true] at h0 h1 h2 h3 h4 h5 h6 h7 h8 h9
    go_enter Tryz.func180, Tryz.ntmps180
    go_wp2
    go_ret
    exact ⟨ret_bool HB.out.symm, Below.refl _ _⟩
/-- The kinds, told apart. -/
theorem kinds (k : Int) : k = 1 ∨ k = 2 ∨ k = 3 ∨ k = 4 ∨ k = 5 ∨ k = 6 ∨ k = 7 ∨ k = 8 ∨ k = 9 ∨ k = 10 ∨ k = 11 ∨ k = 12 ∨ k = 13 ∨ k = 14 ∨ k = 15 ∨ k = 16 ∨ k = 17 ∨ k = 18 ∨ k = 19 ∨ (((k == 1) = false ∧ (k == 2) = false ∧ (k == 3) = false ∧ (k == 4) = false ∧ (k == 5) = false ∧ (k == 6) = false ∧ (k == 7) = false ∧ (k == 8) = false ∧ (k == 9) = false ∧ (k == 10) = false) ∧ (k == 11) = false ∧ (k == 12) = false ∧ (k == 13) = false ∧ (k == 14) = false ∧ (k == 15) = false ∧ (k == 16) = false ∧ (k == 17) = false ∧ (k == 18) = false ∧ (k == 19) = false) := by
  simp only [beq_eq_false_iff_ne, ne_eq]; omega
theorem rkB_no (k m : Int) (h : k < 1 ∨ 19 < k) : rkB k m = false := by
  unfold rkB
  repeat' split
  all_goals first | omega | rfl
set_option maxHeartbeats 4000000 in
theorem iRightKids (k a n : Int) (s : ByteArray) (kids : List Int) (u4 u5 : Value) (w : World) (hk : RowRd 1 IntEl w u4 kids) :
    Calls Tryz.prog 129 #[.agg #[.int .i64 k, .int .i64 a, .int .i64 n, .string s, u4, u5]] w fun e w' => e = .returned (.bool (rkB k kids.length)) ∧ Below w.heap.size w w' := by
  obtain ⟨b, cap', rfl, hm', hkf⟩ := hk.form
  clear hk hkf
  unfold maxLen at hm'
  rcases kinds k with rfl | rfl | rfl | rfl | rfl | rfl | rfl | rfl | rfl | rfl | rfl | rfl | rfl | rfl | rfl | rfl | rfl | rfl | rfl | ⟨⟨g1, g2, g3, g4, g5, g6, g7, g8, g9, g10⟩, g11, g12, g13, g14, g15, g16, g17, g18, g19⟩
  iterate 19
    · go_enter Tryz.func129, Tryz.ntmps129
      go_wp2
      all_goals
        go_ret
        refine ⟨ret_bool ?_, Joins.below_alloc1 w _⟩
        first | (simp [rkB]; done) | (rw [Bool.eq_iff_iff]; simp [rkB]; done) | (rw [Bool.eq_iff_iff]; simp [rkB]; omega) | (simp [rkB]; omega)
  · have HF := Lib.hid (rkB_no k (kids.length : Int) (by simp only [beq_eq_false_iff_ne, ne_eq] at *; omega))
    go_enter Tryz.func129, Tryz.ntmps129
    go_wp2
    go_ret
    exact ⟨ret_bool HF.out.symm, Joins.below_alloc1 w _⟩
def rsK (k : Int) (s : ByteArray) (m : Int) : Bool := if k = 2 then true else if k = 3 ∨ k = 5 ∨ k = 7 ∨ k = 8 ∨ k = 15 then nameB s else if k = 4 then conOkB s m true else if k = 10 then primB s else decide (s.toList = [])
set_option maxHeartbeats 4000000 in
theorem iRightS (k a n : Int) (s : ByteArray) (kids : List Int) (u4 u5 : Value) (w : World) (hk : RowRd 1 IntEl w u4 kids) (hs : s.size ≤ maxLen) :
    Calls Tryz.prog 128 #[.agg #[.int .i64 k, .int .i64 a, .int .i64 n, .string s, u4, u5]] w fun e w' => e = .returned (.bool (rsK k s kids.length)) ∧ Below w.heap.size w w' := by
  obtain ⟨b, cap', rfl, hm', hkf⟩ := hk.form
  clear hk hkf
  unfold maxLen at hm'
  have hN := fun W => iNameOkB s W hs
  have hO := fun W => iOperator s W hs
  have hC := fun W => iConTakes s (kids.length : Int) W hs
  rcases kinds k with rfl | rfl | rfl | rfl | rfl | rfl | rfl | rfl | rfl | rfl | rfl | rfl | rfl | rfl | rfl | rfl | rfl | rfl | rfl | ⟨⟨g1, g2, g3, g4, g5, g6, g7, g8, g9, g10⟩, g11, g12, g13, g14, g15, g16, g17, g18, g19⟩
  iterate 19
    · go_enter Tryz.func128, Tryz.ntmps128
      go_wp2_with (first
        | (go_at_call 135; refine (hN _).mono ?_; rintro e w1 ⟨rfl, hb⟩)
        | (go_at_call 180; refine (hO _).mono ?_; rintro e w1 ⟨rfl, hb⟩)
        | (go_at_call 179; refine (hC _).mono ?_; rintro e w1 ⟨rfl, hb⟩))
      all_goals
        go_ret
        refine ⟨ret_bool ?_, by first | exact below_tr (Joins.below_alloc1 w _) hb | exact Joins.below_alloc1 w _⟩
        first | (simp [rsK]; done) | (rw [Bool.eq_iff_iff]; simp [rsK]; done)
  · have HF := Lib.hid (show rsK k s (kids.length : Int) = decide (s.toList = []) from by simp only [beq_eq_false_iff_ne, ne_eq] at *; simp [rsK, *])
    go_enter Tryz.func128, Tryz.ntmps128
    go_wp2
    go_ret
    refine ⟨ret_bool ?_, Joins.below_alloc1 w _⟩
    rw [HF.out, Bool.eq_iff_iff]; simp
theorem iIsCons (k a n : Int) (s : ByteArray) (u4 u5 : Value) (w : World) (hs : s.size ≤ maxLen) :
    Calls Tryz.prog 76 #[.agg #[.int .i64 k, .int .i64 a, .int .i64 n, .string s, u4, u5]] w fun e w' => e = .returned (.bool (decide (k = 4) && decide (s.toList = [58, 58]))) ∧ Below w.heap.size w w' := by
  by_cases h4 : k = 4
  · subst h4
    go_enter Tryz.func76, Tryz.ntmps76
    go_wp2
    go_ret
    refine ⟨ret_bool ?_, Joins.below_alloc1 w _⟩
    rw [Bool.eq_iff_iff]; simp
  · have h4' : (k == 4) = false := by simpa using h4
    have HB := Lib.hid (show (decide (k = 4) && decide (s.toList = [58, 58])) = false from by simp [h4])
    clear h4
    go_enter Tryz.func76, Tryz.ntmps76
    go_wp2
    go_ret
    exact ⟨ret_bool HB.out.symm, Joins.below_alloc1 w _⟩
end Go.Proofs.YtbehcmogndpkhaaGreatDoor
namespace Go.Proofs.YtbehcmogndpkhaaGreatDoor
set_option linter.unusedVariables false
set_option maxRecDepth 100000
open Go.ChangeShapes Go.WideShapes Go.ChangeAt Go.RowKit

theorem iIsLone (x : Nd) (pk pq : Option Addr) (ck cq lq : Nat) (w : World) :
    Calls Tryz.prog 78 #[.agg #[.int .i64 x.kind, .int .i64 x.at_, .int .i64 x.n, .string x.s, .slice pk x.kids.length ck, .slice pq lq cq]] w fun e w' => e = .returned (.bool (isLoneN x)) ∧ Below w.heap.size w w' := by
  by_cases h4 : x.kind = 4
  · have HB := Lib.hid (show isLoneN x = decide (x.kids.length = 0) from by simp [isLoneN, h4])
    rw [h4]
    go_enter Tryz.func78, Tryz.ntmps78
    go_wp2
    go_ret
    refine ⟨ret_bool ?_, Joins.below_alloc1 w _⟩
    rw [HB.out, Bool.eq_iff_iff]; simp
  · have h4' : (x.kind == 4) = false := by simpa using h4
    have HB := Lib.hid (show isLoneN x = false from by simp [isLoneN, h4])
    clear h4
    go_enter Tryz.func78, Tryz.ntmps78
    go_wp2
    go_ret
    exact ⟨ret_bool HB.out.symm, Joins.below_alloc1 w _⟩
set_option maxHeartbeats 4000000 in
theorem iAdapt (p : List Nd) (hv : PgV p) (g gc k : Nat) (us : List Value) (pt : Option Addr) (nt ct b o cap1 : Nat) (wb w : World) (hQ : QI p g wb k us w) (hk : k < p.length) (hbw : b < w.heap.size) (hc : ∀ i (h : i < p.length), NdEl w b (o + i * 6) p[i])
    (pk pq : Option Addr) (ck cq : Nat) (hkid : RowRd 1 IntEl w (.slice pk p[k].kids.length ck) p[k].kids) (hpl : p.length ≤ 600) (hgc : p.length ≤ gc) (hsz : ∀ x ∈ p, x.s.size ≤ 1048576) :
    Calls Tryz.prog 32 #[.agg #[.slice pt nt ct, .slice (some ⟨b, o, none⟩) p.length cap1], .int .i64 k, .agg #[.int .i64 p[k].kind, .int .i64 p[k].at_, .int .i64 p[k].n, .string p[k].s, .slice pk p[k].kids.length ck, .slice pq p[k].pats.length cq], .slice (some ⟨g, 0, none⟩) p.length gc] w fun e w' => e = .returned (.tuple #[]) ∧ ∃ us', QI p g wb (k + 1) us' w' := by
  have hs6 := hsz p[k] (List.getElem_mem hk)
  have hn := hv.nd k hk
  by_cases hk0 : p[k].kids = []
  · have HN := fun w' hb => Lib.hid (hQ.no (row_lone hv hk hk0) (w' := w') hb)
    rw [show p[k].kids.length = 0 from by rw [hk0]; rfl]
    clear hkid hQ hc hk0
    generalize p[k] = n at *
    go_enter Tryz.func32, Tryz.ntmps32
    go_wp2
    refine bodyPost_ret (results_none rfl _ _ _) rfl ?_
    exact ⟨rfl, us, (HN _ (Joins.below_alloc2 w _ _)).out⟩
  obtain ⟨y, ks, hkk⟩ := List.exists_cons_of_ne_nil hk0
  have hyr := hv.kid hk (k := y) (by rw [hkk]; simp)
  obtain ⟨kn, rfl⟩ : ∃ kn : Nat, y = kn := ⟨y.toNat, by omega⟩
  have hkn : kn < p.length := by omega
  have hne : k ≠ kn := by omega
  obtain ⟨pk', ck', hpe, hmk, hkf⟩ := hkid.form
  cases hpe
  obtain ⟨bk, ok, rfl, hbk, hck⟩ := hkf (by rw [hkk]; simp)
  have m0 := (hck 0 (by rw [hkk]; simp)).1
  simp only [hkk, List.getElem_cons_zero, Nat.zero_mul, Nat.add_zero] at m0
  have hl0 : p[k].kids.length = ks.length + 1 := by rw [hkk]; rfl
  have hls : ks.length + 1 ≤ 600 := by
    have := kids_len hv k hk
    omega
  have hu1 : k < us.length := by rw [hQ.len]; exact hk
  have hu2 : kn < us.length := by rw [hQ.len]; exact hkn
  obtain ⟨pa, ca, hua, -, -⟩ := (hQ.tx k hu1 hk).r.form
  obtain ⟨pb, cb, hub, -, -⟩ := (hQ.tx kn hu2 hkn).r.form
  have qa := hQ.cell k hu1
  have qb := hQ.cell kn hu2
  rw [hua] at qa
  rw [hub] at qb
  have fa := hQ.frz k
  have fb := hQ.frz kn
  have hgl := hQ.lt
  generalize (strs (rowTo NT p k k p[k])).length = la at *
  generalize (strs (rowTo NT p k kn p[kn])).length = lb at *
  obtain ⟨⟨m1, -⟩, ⟨m2, -⟩, ⟨m3, -⟩, ⟨m4, hms⟩, ⟨v5, m5, s5⟩, ⟨v6, m6, s6⟩⟩ := hc kn hkn
  obtain ⟨pk2, ck2, rfl, -, -⟩ := s5.form
  obtain ⟨pq2, cq2, rfl, -, -⟩ := s6.form
  have hs7 := hsz p[kn] (List.getElem_mem hkn)
  have hn2 := hv.nd kn hkn
  have hk1 : (k : Int) < p.length := by omega
  have hkn1 : (kn : Int) < p.length := by omega
  have hIC := fun W u4 u5 => Lib.hid (iIsCons p[k].kind p[k].at_ p[k].n p[k].s u4 u5 W (by unfold maxLen; omega))
  have hIC0 : (decide (p[k].kind = 4) && decide (p[k].s.toList = [58, 58])) = isConsN p[k] := rfl
  rw [hIC0] at hIC
  have KI := Lib.hid hkk
  have HQ := Lib.hid hQ
  clear hkid hc hIC0 hkf hck hua hub
  cases hcc : isConsN p[k]
  · by_cases h8 : p[k].kind = 8
    · have HR := row_rec hv hk h8 hkn hkk
      have HY := fun wA v (hb : Below w.heap.size w wA) t => Lib.hid (hQ.one (v := v) hkn HR hb t)
      rw [show isConsN p[k] = false from ncons h8 (by decide)] at hIC
      have hnm := nd_name hn2 (by
        have hf := hv.fst k hk
        unfold rfB at hf
        rw [if_pos h8, hkk] at hf
        simp [firstNK, List.getElem?_eq_getElem hkn] at hf
        omega)
      rw [h8] at hIC
      rw [h8]
      rw [hl0]
      clear hQ hkk hl0 hk0 hmk
      clear HR h8
      generalize p[kn] = m at *
      generalize p[k] = n at *
      have hnd : m.s.data.toList.length ≤ 12 := hnm
      have hcl9 : (cat [m.s, ⟨#[32, 61, 32]⟩]).length ≤ 100 := by simp [cat]; omega
      have HC := Lib.hid (show cat [m.s, ⟨#[32, 61, 32]⟩] = m.s.toList ++ [32, 61, 32] from by simp [cat, pr_toList])
      have HJ := Lib.hid fun (W : World) (n : Nat) (hn : n = W.heap.size) => joined n 0 2 [m.s, ⟨#[32, 61, 32]⟩] (W.alloc (.cells #[.string m.s, .string ⟨#[32, 61, 32]⟩] 9)) (strs_at _ _ _ _ _ hn rfl) (by simp [hn]) (by simp) (by simp) (by omega)
      generalize cat [m.s, ⟨#[32, 61, 32]⟩] = C at *
      go_enter Tryz.func32, Tryz.ntmps32
      go_wp2_with (first
        | (go_at_call 76; go_loud (refine (hIC _ _ _).out.mono ?_); rintro e w1 ⟨rfl, hb1⟩; have B1 : Below w.heap.size w w1 := below_tr (Joins.below_alloc2 w _ _) hb1; obtain ⟨hcl, hfr⟩ := bcell hb1; have q1 := (B1.cell (p := ⟨g, k, none⟩) hgl).trans qa; have p1 := (B1.cell (p := ⟨g, kn, none⟩) hgl).trans qb; have f1 := (B1.frozen (p := ⟨g, k, none⟩) hgl).trans fa; have h1 := (B1.frozen (p := ⟨g, kn, none⟩) hgl).trans fb; have g1 : g < w1.heap.size := Nat.lt_of_lt_of_le hgl B1.size; have y1 : w1.cell? ⟨w.heap.size, 1, none⟩ = some (.slice (some ⟨b, o, none⟩) p.length cap1) := (by rw [hb1.cell (p := ⟨w.heap.size, 1, none⟩) (by simp; omega)]; simp); have n1 := (B1.cell (p := ⟨b, o + kn * 6, none⟩) hbw).trans m1; have n2 := (B1.cell (p := ⟨b, o + kn * 6 + 1, none⟩) hbw).trans m2; have n3 := (B1.cell (p := ⟨b, o + kn * 6 + 2, none⟩) hbw).trans m3; have n4 := (B1.cell (p := ⟨b, o + kn * 6 + 3, none⟩) hbw).trans m4; have n5 := (B1.cell (p := ⟨b, o + kn * 6 + 4, none⟩) hbw).trans m5; have n6 := (B1.cell (p := ⟨b, o + kn * 6 + 5, none⟩) hbw).trans m6; have z1 := hb1.size; simp only [World.size_alloc] at z1)
        | (go_at_call 27; go_loud (refine (HJ.out _ _ (by simp)).mono ?_); rintro e w2 ⟨rfl, hb2⟩; have B2 := below_tr (Joins.below_alloc1 w1 _) hb2; have p2 := (B2.cell (p := ⟨g, kn, none⟩) g1).trans p1; have h2 := (B2.frozen (p := ⟨g, kn, none⟩) g1).trans h1; have g2 : g < w2.heap.size := Nat.lt_of_lt_of_le g1 B2.size))
      go_end0
      have T1 : TxAt g (w2.alloc (.cells #[.string ⟨C.toArray⟩, .string ⟨#[]⟩] 9)) (.slice (some ⟨w2.heap.size, 0, none⟩) 2 2) [m.s.toList ++ [32, 61, 32], []] := ⟨by rw [← HC.out]; exact lit_strs rfl rfl rfl (all2 (sz_ok _ (by omega)) (sz_ok [] (by simp))) (show (2 : Nat) ≤ maxLen from by unfold maxLen; omega), fun e => by injection e with e; have e' : w2.heap.size = g := e; omega, rfl⟩
      have HZ := (HY _ _ (below_tr (below_tr B1 B2) (Joins.below_alloc1 w2 _)) T1).out
      rw [World.setCell_alloc_past _ _ _ _ g2] at HZ
      exact ⟨rfl, _, HZ⟩
    · by_cases h6 : p[k].kind = 6
      · cases hl : isLoneN p[kn]
        · have HR := row_no hv hk (ncons h6 (by decide)) (by omega) hkn hkk (fun _ => hl)
          have HN := fun w' hb => Lib.hid (hQ.no HR (w' := w') hb)
          rw [show isConsN p[k] = false from ncons h6 (by decide)] at hIC
          have hLN := fun W => Lib.hid (iIsLone p[kn] pk2 pq2 ck2 cq2 p[kn].pats.length W)
          rw [hl] at hLN
          rw [h6] at hIC
          rw [h6]
          rw [hl0]
          clear hQ hkk hl0 hk0 hmk
          clear HR h6 hl
          generalize p[kn] = m at *
          generalize p[k] = n at *
          go_enter Tryz.func32, Tryz.ntmps32
          go_wp2_with (first
            | (go_at_call 76; go_loud (refine (hIC _ _ _).out.mono ?_); rintro e w1 ⟨rfl, hb1⟩; have B1 : Below w.heap.size w w1 := below_tr (Joins.below_alloc2 w _ _) hb1; obtain ⟨hcl, hfr⟩ := bcell hb1; have q1 := (B1.cell (p := ⟨g, k, none⟩) hgl).trans qa; have p1 := (B1.cell (p := ⟨g, kn, none⟩) hgl).trans qb; have f1 := (B1.frozen (p := ⟨g, k, none⟩) hgl).trans fa; have h1 := (B1.frozen (p := ⟨g, kn, none⟩) hgl).trans fb; have g1 : g < w1.heap.size := Nat.lt_of_lt_of_le hgl B1.size; have y1 : w1.cell? ⟨w.heap.size, 1, none⟩ = some (.slice (some ⟨b, o, none⟩) p.length cap1) := (by rw [hb1.cell (p := ⟨w.heap.size, 1, none⟩) (by simp; omega)]; simp); have n1 := (B1.cell (p := ⟨b, o + kn * 6, none⟩) hbw).trans m1; have n2 := (B1.cell (p := ⟨b, o + kn * 6 + 1, none⟩) hbw).trans m2; have n3 := (B1.cell (p := ⟨b, o + kn * 6 + 2, none⟩) hbw).trans m3; have n4 := (B1.cell (p := ⟨b, o + kn * 6 + 3, none⟩) hbw).trans m4; have n5 := (B1.cell (p := ⟨b, o + kn * 6 + 4, none⟩) hbw).trans m5; have n6 := (B1.cell (p := ⟨b, o + kn * 6 + 5, none⟩) hbw).trans m6; have z1 := hb1.size; simp only [World.size_alloc] at z1)
            | (go_at_call 78; go_loud (refine (hLN _).out.mono ?_); rintro e w9 ⟨rfl, hb9⟩))
          go_end0
          exact ⟨rfl, us, (HN _ (below_tr B1 hb9)).out⟩
        · have HR := row_app hv hk h6 hkn hkk hl
          have HY := fun wA v (hb : Below w.heap.size w wA) t => Lib.hid (hQ.one (v := v) hkn HR hb t)
          rw [show isConsN p[k] = false from ncons h6 (by decide)] at hIC
          have hnm := nd_name hn2 (by
            have : p[kn].kind = 4 ∧ p[kn].kids.length = 0 := by simpa [isLoneN] using hl
            omega)
          have hLN := fun W => Lib.hid (iIsLone p[kn] pk2 pq2 ck2 cq2 p[kn].pats.length W)
          rw [hl] at hLN
          rw [h6] at hIC
          rw [h6]
          rw [hl0]
          clear hQ hkk hl0 hk0 hmk
          clear HR h6 hl
          generalize p[kn] = m at *
          generalize p[k] = n at *
          have hnd : m.s.data.toList.length ≤ 12 := hnm
          have hcl9 : (cat [⟨#[40]⟩, m.s, ⟨#[41]⟩]).length ≤ 100 := by simp [cat]; omega
          have HC := Lib.hid (show cat [⟨#[40]⟩, m.s, ⟨#[41]⟩] = [40] ++ m.s.toList ++ [41] from by simp [cat, pr_toList])
          have HJ := Lib.hid fun (W : World) (n : Nat) (hn : n = W.heap.size) => joined n 0 3 [⟨#[40]⟩, m.s, ⟨#[41]⟩] (W.alloc (.cells #[.string ⟨#[40]⟩, .string m.s, .string ⟨#[41]⟩] 9)) (strs_at _ _ _ _ _ hn rfl) (by simp [hn]) (by simp) (by simp) (by omega)
          generalize cat [⟨#[40]⟩, m.s, ⟨#[41]⟩] = C at *
          go_enter Tryz.func32, Tryz.ntmps32
          go_wp2_with (first
            | (go_at_call 76; go_loud (refine (hIC _ _ _).out.mono ?_); rintro e w1 ⟨rfl, hb1⟩; have B1 : Below w.heap.size w w1 := below_tr (Joins.below_alloc2 w _ _) hb1; obtain ⟨hcl, hfr⟩ := bcell hb1; have q1 := (B1.cell (p := ⟨g, k, none⟩) hgl).trans qa; have p1 := (B1.cell (p := ⟨g, kn, none⟩) hgl).trans qb; have f1 := (B1.frozen (p := ⟨g, k, none⟩) hgl).trans fa; have h1 := (B1.frozen (p := ⟨g, kn, none⟩) hgl).trans fb; have g1 : g < w1.heap.size := Nat.lt_of_lt_of_le hgl B1.size; have y1 : w1.cell? ⟨w.heap.size, 1, none⟩ = some (.slice (some ⟨b, o, none⟩) p.length cap1) := (by rw [hb1.cell (p := ⟨w.heap.size, 1, none⟩) (by simp; omega)]; simp); have n1 := (B1.cell (p := ⟨b, o + kn * 6, none⟩) hbw).trans m1; have n2 := (B1.cell (p := ⟨b, o + kn * 6 + 1, none⟩) hbw).trans m2; have n3 := (B1.cell (p := ⟨b, o + kn * 6 + 2, none⟩) hbw).trans m3; have n4 := (B1.cell (p := ⟨b, o + kn * 6 + 3, none⟩) hbw).trans m4; have n5 := (B1.cell (p := ⟨b, o + kn * 6 + 4, none⟩) hbw).trans m5; have n6 := (B1.cell (p := ⟨b, o + kn * 6 + 5, none⟩) hbw).trans m6; have z1 := hb1.size; simp only [World.size_alloc] at z1)
            | (go_at_call 78; go_loud (refine (hLN _).out.mono ?_); rintro e w9 ⟨rfl, hb9⟩; have p9 := (hb9.cell (p := ⟨g, kn, none⟩) g1).trans p1; have h9 := (hb9.frozen (p := ⟨g, kn, none⟩) g1).trans h1; have g9 : g < w9.heap.size := Nat.lt_of_lt_of_le g1 hb9.size)
            | (go_at_call 27; go_loud (refine (HJ.out _ _ (by simp)).mono ?_); rintro e w2 ⟨rfl, hb2⟩; have B2 := below_tr (Joins.below_alloc1 w9 _) hb2; have p2 := (B2.cell (p := ⟨g, kn, none⟩) g9).trans p9; have h2 := (B2.frozen (p := ⟨g, kn, none⟩) g9).trans h9; have g2 : g < w2.heap.size := Nat.lt_of_lt_of_le g9 B2.size))
          go_end0
          have T1 : TxAt g (w2.alloc (.cells #[.string ⟨C.toArray⟩] 9)) (.slice (some ⟨w2.heap.size, 0, none⟩) 1 1) [[40] ++ m.s.toList ++ [41]] := ⟨by rw [← HC.out]; exact lit_strs rfl rfl rfl (all1 (sz_ok _ (by omega))) (show (1 : Nat) ≤ maxLen from by unfold maxLen; omega), fun e => by injection e with e; have e' : w2.heap.size = g := e; omega, rfl⟩
          have HZ := (HY _ _ (below_tr (below_tr (below_tr B1 hb9) B2) (Joins.below_alloc1 w2 _)) T1).out
          rw [World.setCell_alloc_past _ _ _ _ g2] at HZ
          exact ⟨rfl, _, HZ⟩
      · have HR := row_no hv hk hcc h8 hkn hkk (fun h => absurd h h6)
        have HN := fun w' hb => Lib.hid (hQ.no HR (w' := w') hb)
        rw [hcc] at hIC
        have q8 : (p[k].kind == 8) = false := by simpa using h8
        have q6 : (p[k].kind == 6) = false := by simpa using h6
        rw [hl0]
        clear hQ hkk hl0 hk0 hmk
        clear HR h6 h8 hcc
        generalize p[kn] = m at *
        generalize p[k] = n at *
        go_enter Tryz.func32, Tryz.ntmps32
        go_wp2_with (first
          | (go_at_call 76; go_loud (refine (hIC _ _ _).out.mono ?_); rintro e w1 ⟨rfl, hb1⟩; have B1 : Below w.heap.size w w1 := below_tr (Joins.below_alloc2 w _ _) hb1; obtain ⟨hcl, hfr⟩ := bcell hb1; have q1 := (B1.cell (p := ⟨g, k, none⟩) hgl).trans qa; have p1 := (B1.cell (p := ⟨g, kn, none⟩) hgl).trans qb; have f1 := (B1.frozen (p := ⟨g, k, none⟩) hgl).trans fa; have h1 := (B1.frozen (p := ⟨g, kn, none⟩) hgl).trans fb; have g1 : g < w1.heap.size := Nat.lt_of_lt_of_le hgl B1.size; have y1 : w1.cell? ⟨w.heap.size, 1, none⟩ = some (.slice (some ⟨b, o, none⟩) p.length cap1) := (by rw [hb1.cell (p := ⟨w.heap.size, 1, none⟩) (by simp; omega)]; simp); have n1 := (B1.cell (p := ⟨b, o + kn * 6, none⟩) hbw).trans m1; have n2 := (B1.cell (p := ⟨b, o + kn * 6 + 1, none⟩) hbw).trans m2; have n3 := (B1.cell (p := ⟨b, o + kn * 6 + 2, none⟩) hbw).trans m3; have n4 := (B1.cell (p := ⟨b, o + kn * 6 + 3, none⟩) hbw).trans m4; have n5 := (B1.cell (p := ⟨b, o + kn * 6 + 4, none⟩) hbw).trans m5; have n6 := (B1.cell (p := ⟨b, o + kn * 6 + 5, none⟩) hbw).trans m6; have z1 := hb1.size; simp only [World.size_alloc] at z1))
        go_end0
        exact ⟨rfl, us, (HN _ B1).out⟩
  · have HR := row_cons hv hk hcc (kn := kn) (by
      have := hv.cons1 hk hcc
      rw [hkk] at this ⊢
      have : ks = [] := List.eq_nil_of_length_eq_zero (by simpa using this)
      rw [this])
    have HY := fun wA v1 v2 (hb : Below w.heap.size w wA) t1 t2 => Lib.hid (hQ.two (v1 := v1) (v2 := v2) hk hkn hne HR hb t1 t2)
    rw [hcc] at hIC
    rw [hl0]
    clear hQ hkk hl0 hk0 hmk
    clear HR hcc
    have hCT := fun W => Lib.hid (iConsTexts W)
    generalize p[kn] = m at *
    generalize p[k] = n at *
    go_enter Tryz.func32, Tryz.ntmps32
    go_wp2_with (first
      | (go_at_call 76; go_loud (refine (hIC _ _ _).out.mono ?_); rintro e w1 ⟨rfl, hb1⟩; have B1 : Below w.heap.size w w1 := below_tr (Joins.below_alloc2 w _ _) hb1; obtain ⟨hcl, hfr⟩ := bcell hb1; have q1 := (B1.cell (p := ⟨g, k, none⟩) hgl).trans qa; have p1 := (B1.cell (p := ⟨g, kn, none⟩) hgl).trans qb; have f1 := (B1.frozen (p := ⟨g, k, none⟩) hgl).trans fa; have h1 := (B1.frozen (p := ⟨g, kn, none⟩) hgl).trans fb; have g1 : g < w1.heap.size := Nat.lt_of_lt_of_le hgl B1.size; have y1 : w1.cell? ⟨w.heap.size, 1, none⟩ = some (.slice (some ⟨b, o, none⟩) p.length cap1) := (by rw [hb1.cell (p := ⟨w.heap.size, 1, none⟩) (by simp; omega)]; simp); have n1 := (B1.cell (p := ⟨b, o + kn * 6, none⟩) hbw).trans m1; have n2 := (B1.cell (p := ⟨b, o + kn * 6 + 1, none⟩) hbw).trans m2; have n3 := (B1.cell (p := ⟨b, o + kn * 6 + 2, none⟩) hbw).trans m3; have n4 := (B1.cell (p := ⟨b, o + kn * 6 + 3, none⟩) hbw).trans m4; have n5 := (B1.cell (p := ⟨b, o + kn * 6 + 4, none⟩) hbw).trans m5; have n6 := (B1.cell (p := ⟨b, o + kn * 6 + 5, none⟩) hbw).trans m6; have z1 := hb1.size; simp only [World.size_alloc] at z1)
      | (go_at_call 77; go_loud (refine (hCT _).out.mono ?_); rintro e wA ⟨rfl, r1, r2, hbA⟩; have q2 := (hbA.cell (p := ⟨g, k, none⟩) g1).trans q1; have p2 := (hbA.cell (p := ⟨g, kn, none⟩) g1).trans p1; have f2 := (hbA.frozen (p := ⟨g, k, none⟩) g1).trans f1; have h2 := (hbA.frozen (p := ⟨g, kn, none⟩) g1).trans h1; have p3 : ∀ u, (wA.setCell ⟨g, k, none⟩ u).cell? ⟨g, kn, none⟩ = some (.slice pb lb cb) := fun u => (cell_off (by omega)).trans p2))
    go_end0
    have T1 : TxAt g wA (.slice (some ⟨w1.heap.size, 0, none⟩) 2 2) [[], []] := ⟨r1, fun e => by injection e with e; have e' : w1.heap.size = g := e; omega, rfl⟩
    have T2 : TxAt g wA (.slice (some ⟨w1.heap.size + 1, 0, none⟩) 3 3) [[40], [32, 58, 58, 32], [41]] := ⟨r2, fun e => by injection e with e; have e' : w1.heap.size + 1 = g := e; omega, rfl⟩
    exact ⟨rfl, _, (HY wA _ _ (below_tr B1 hbA) T1 T2).out⟩
end Go.Proofs.YtbehcmogndpkhaaGreatDoor
namespace Go.Proofs.YtbehcmogndpkhaaGreatDoor
set_option linter.unusedVariables false
set_option maxRecDepth 100000
open Go.ChangeShapes Go.WideShapes Go.ChangeAt Go.RowKit

/-- A Pat that is handed over. -/
def PatVal (w : World) (v : Value) (x : List PN) : Prop := ∃ v0, v = .agg #[v0] ∧ RowRd 4 PNEl w v0 x
theorem PatVal.kept {w w' : World} {v : Value} {x : List PN} (k : Kept w w') : PatVal w v x → PatVal w' v x := fun ⟨v0, h, f0⟩ => ⟨v0, h, f0.kept PNEl.st k⟩
theorem iIndexPat (g : Nat) (lb : Array Value) (eg : ∀ args w, (callFunc g args).run Tryz.prog w = .ok (.enter g args) w) (ok : List PN → Bool) (l : List (List PN)) (v : Value) (w : World) (hR : RowRd 1 PatEl w v l)
    (hp : ∀ i (hi : i < l.length) (u : Value) (W : World), Below w.heap.size w W → PatVal W u l[i] → Calls Tryz.prog g (#[u] ++ lb) W fun e w' => e = .returned (.bool (ok l[i])) ∧ Below W.heap.size W w') :
    Calls Tryz.prog 241 #[v, .func (.func g) #[] lb] w fun e w' => ∃ r : Int, e = .returned (.int .i64 r) ∧ decide (0 ≤ r) = l.any ok ∧ Below w.heap.size w w' := by
  obtain ⟨p, cap, rfl, hm, hR⟩ := hR.form
  unfold maxLen at hm
  go_enter Tryz.func241, Tryz.ntmps241
  go_wp2
  go_loopw [8] (fun i wr => ∃ k : Nat, i = .int .i64 k ∧ k ≤ l.length ∧ (l.take k).any ok = false ∧ Below w.heap.size w wr) (fun i _ => l.length - (intOf i).toNat)
  case atStart => exact ⟨0, rfl, Nat.zero_le _, rfl, Below.refl _ _⟩
  case round =>
    obtain ⟨k, rfl, hk, hno, hbel⟩ := hrel
    have HA := Lib.hid hno
    clear hno
    by_cases hlt : k < l.length
    · obtain ⟨b, o, rfl, hbw, hc⟩ := hR (by omega)
      have ex := PatEl.st w wr b _ _ (Kept.of_below hbel) hbw (hc k hlt)
      rw [Nat.mul_one] at ex
      have hpk := fun u => hp k hlt u wr hbel
      have HY := Lib.hid (fun (h : ok l[k] = true) => any_yes ok l k hlt h)
      have HN := Lib.hid (fun (h : ok l[k] = false) => any_snoc ok l k hlt HA.out h)
      clear hc hR hp
      generalize l[k] = x at *
      obtain ⟨v0, e0, r0⟩ := ex
      have hp1 := hpk _ ⟨v0, rfl, r0⟩
      clear hpk
      generalize hx : ok x = t at *
      cases t
      · have HN2 := Lib.hid (HN.out rfl)
        clear HN HY
        go_wp2_with (go_at_fn g; refine hp1.mono ?_; rintro e w1 ⟨rfl, hb⟩)
        go_roundw
        case rel => exact ⟨k + 1, by go_num, by omega, HN2.out, below_tr hbel hb⟩
        case measure => simp [intOf]; omega
      · have HY2 := Lib.hid (HY.out rfl)
        clear HN HY
        go_wp2_with (go_at_fn g; refine hp1.mono ?_; rintro e w1 ⟨rfl, hb⟩)
        go_ret
        exact ⟨_, rfl, by rw [HY2.out]; simp, below_tr hbel hb⟩
    · obtain rfl : k = l.length := by omega
      rw [List.take_length] at HA
      go_wp2
      go_ret
      exact ⟨_, rfl, by rw [HA.out]; rfl, hbel⟩
theorem iContainsPat (g : Nat) (lb : Array Value) (eg : ∀ args w, (callFunc g args).run Tryz.prog w = .ok (.enter g args) w) (ok : List PN → Bool) (l : List (List PN)) (v : Value) (w : World) (hR : RowRd 1 PatEl w v l)
    (hp : ∀ i (hi : i < l.length) (u : Value) (W : World), Below w.heap.size w W → PatVal W u l[i] → Calls Tryz.prog g (#[u] ++ lb) W fun e w' => e = .returned (.bool (ok l[i])) ∧ Below W.heap.size W w') :
    Calls Tryz.prog 211 #[v, .func (.func g) #[] lb] w fun e w' => e = .returned (.bool (l.any ok)) ∧ Below w.heap.size w w' := by
  have hI := iIndexPat g lb eg ok l v w hR hp
  go_enter Tryz.func211, Tryz.ntmps211
  go_wp2_with (go_at_call 241; refine hI.mono ?_; rintro e w1 ⟨r, rfl, hr, hb⟩)
  go_ret
  refine ⟨ret_bool ?_, hb⟩
  rw [← hr]
theorem iNotPat (g : Nat) (lb : Array Value) (eg : ∀ args w, (callFunc g args).run Tryz.prog w = .ok (.enter g args) w) (r : Bool) (x : List PN) (u : Value) (bo : Nat) (w : World) (hc : w.cell? ⟨bo, 0, none⟩ = some (.func (.func g) #[] lb)) (hbo : bo < w.heap.size) (hu : PatVal w u x)
    (hp : ∀ W, Below w.heap.size w W → Calls Tryz.prog g (#[u] ++ lb) W fun e w' => e = .returned (.bool r) ∧ Below W.heap.size W w') :
    Calls Tryz.prog 212 #[u, .pointer (some ⟨bo, 0, none⟩)] w fun e w' => e = .returned (.bool (!r)) ∧ Below w.heap.size w w' := by
  obtain ⟨v0, rfl, _⟩ := hu
  have hp1 := hp _ (Joins.below_alloc1 w (.cells #[v0] 123))
  have hne : w.heap.size ≠ bo := by omega
  go_enter Tryz.func212, Tryz.ntmps212
  go_wp2_with (go_at_fn g; refine hp1.mono ?_; rintro e w1 ⟨rfl, hb⟩)
  go_ret
  exact ⟨rfl, below_tr (Joins.below_alloc1 w _) hb⟩
theorem e_iNotPat : ∀ args w, (callFunc 212 args).run Tryz.prog w = .ok (.enter 212 args) w := enters_of Tryz.func212 (by kernel_rfl) rfl
theorem iEveryPat (g : Nat) (lb : Array Value) (eg : ∀ args w, (callFunc g args).run Tryz.prog w = .ok (.enter g args) w) (ok : List PN → Bool) (l : List (List PN)) (v : Value) (w : World) (hR : RowRd 1 PatEl w v l)
    (hp : ∀ i (hi : i < l.length) (u : Value) (W : World), Below w.heap.size w W → PatVal W u l[i] → Calls Tryz.prog g (#[u] ++ lb) W fun e w' => e = .returned (.bool (ok l[i])) ∧ Below W.heap.size W w') :
    Calls Tryz.prog 181 #[v, .func (.func g) #[] lb] w fun e w' => e = .returned (.bool (l.all ok)) ∧ Below w.heap.size w w' := by
  have hC := fun (T : TypeId) => iContainsPat 212 #[.pointer (some ⟨w.heap.size, 0, none⟩)] e_iNotPat (fun x => !ok x) l v (w.alloc (.cells #[.func (.func g) #[] lb] T)) (hR.kept PatEl.st (Kept.alloc _ _))
    (fun i hi u W hW hu => iNotPat g lb eg (ok l[i]) l[i] u w.heap.size W ((hW.cell (p := ⟨w.heap.size, 0, none⟩) (by simp)).trans (by simp)) (Nat.lt_of_lt_of_le (by simp) hW.size) hu
      fun W' hB => hp i hi u W' (below_tr (Joins.below_alloc1 w _) (below_tr hW hB)) (hu.kept (Kept.of_below hB)))
  go_enter Tryz.func181, Tryz.ntmps181
  go_wp2_with (go_at_call 211; refine (hC _).mono ?_; rintro e w1 ⟨rfl, hb⟩)
  go_ret
  exact ⟨ret_bool (by rw [all_any]), below_tr (Joins.below_alloc1 w _) hb⟩
end Go.Proofs.YtbehcmogndpkhaaGreatDoor
namespace Go.Proofs.YtbehcmogndpkhaaGreatDoor
set_option linter.unusedVariables false
set_option maxRecDepth 100000
open Go.ChangeShapes Go.WideShapes Go.ChangeAt Go.RowKit


theorem iKidsNd (x : Nd) (v4 v5 : Value) (w : World) : Calls Tryz.prog 66 #[.agg #[.int .i64 x.kind, .int .i64 x.at_, .int .i64 x.n, .string x.s, v4, v5]] w fun e w' => e = .returned v4 ∧ Below w.heap.size w w' := by
  go_enter Tryz.func66, Tryz.ntmps66
  go_wp2
  go_ret
  exact ⟨rfl, Joins.below_alloc1 w _⟩
theorem iLenNd (bk : Nat) (x : Nd) (u : Value) (w : World) (hc : w.cell? ⟨bk, 0, none⟩ = some (.func (.func 66) #[] #[])) (hbk : bk < w.heap.size) (hu : NdVal w u x) :
    Calls Tryz.prog 138 #[u, .pointer (some ⟨bk, 0, none⟩)] w fun e w' => e = .returned (.int .i64 (x.kids.length : Int)) ∧ Below w.heap.size w w' := by
  obtain ⟨v4, v5, rfl, _, _, _, _, r, r5⟩ := hu
  have hK := fun W => iKidsNd x v4 v5 W
  obtain ⟨p, c, rfl, m, -⟩ := r.form
  have hne : w.heap.size ≠ bk := by omega
  go_enter Tryz.func138, Tryz.ntmps138
  go_wp2_with (go_at_call 66; refine (hK _).mono ?_; rintro e w1 ⟨rfl, hb⟩)
  go_ret
  exact ⟨rfl, below_tr (Joins.below_alloc1 w _) hb⟩
theorem e_iLenNd : ∀ args w, (callFunc 138 args).run Tryz.prog w = .ok (.enter 138 args) w := enters_of Tryz.func138 (by kernel_rfl) rfl
set_option maxHeartbeats 4000000 in
theorem iNextNd (q : List Nd) (vc vn : Value) (bc bk bn a d : Nat) (n : Int) (w : World) (hcc : w.cell? ⟨bc, 0, none⟩ = some vc) (hck : w.cell? ⟨bk, 0, none⟩ = some (.func (.func 66) #[] #[])) (hcn : w.cell? ⟨bn, 0, none⟩ = some vn)
    (hbc : bc < w.heap.size) (hbk : bk < w.heap.size) (hbn : bn < w.heap.size) (hC : RowRd 1 IntEl w vc (lens (q.map Nd.kids))) (hR : RowRd 6 NdEl w vn q) (ha : a < q.length) (hd : d ≤ q[a].kids.length) :
    Calls Tryz.prog 139 #[.int .i64 a, .int .i64 d, .int .i64 n, .pointer (some ⟨bc, 0, none⟩), .pointer (some ⟨bk, 0, none⟩), .pointer (some ⟨bn, 0, none⟩)] w fun e w' => e = .returned (.bool (vPre (q.map Nd.kids) () a d n).1) ∧ Below w.heap.size w w' := by
  have hle : (lens (q.map Nd.kids)).length = q.length := by simp [lens]
  obtain ⟨p, cap, rfl, hm, hCf⟩ := hC.form
  obtain ⟨b, o, rfl, hb, hcs⟩ := hCf (by omega)
  have hca := (hcs a (by omega)).1
  have hla : (lens (q.map Nd.kids))[a]'(by omega) = (q[a].kids.length : Int) := by simp [lens]
  rw [hla, Nat.mul_one] at hca
  rw [hle] at hcc
  clear hla hcs hCf hC
  unfold maxLen at hm
  rw [hle] at hm
  obtain ⟨p2, cap2, rfl, hm2, hRf⟩ := hR.form
  unfold maxLen at hm2
  obtain ⟨b2, o2, rfl, hb2, hn⟩ := hRf (by omega)
  have ex := hn a ha
  clear hn hRf hR
  by_cases h0 : d = q[a].kids.length
  · have HB := Lib.hid (show (vPre (q.map Nd.kids) () a d n).1 = true from by
      subst h0
      have := vPre_end (q.map Nd.kids) a (by simpa using ha) n
      simpa using this)
    clear ex
    generalize q[a] = x at *
    subst h0
    generalize x.kids.length = d at *
    go_enter Tryz.func139, Tryz.ntmps139
    go_wp2_with fail
    go_quiet (fail)
    go_wp2
    go_ret
    exact ⟨ret_bool HB.out.symm, below_drewN (Below.refl _ _) _⟩
  · have hd' : d < q[a].kids.length := by omega
    have HB := Lib.hid (show (vPre (q.map Nd.kids) () a d n).1 = decide (q[a].kids[d] = n) from by
      have := vPre_at (q.map Nd.kids) a d (by simpa using ha) (by simpa using hd') n
      simpa using this)
    have hdl : ((d : Int) == (q[a].kids.length : Int)) = false := by simp; omega
    clear hd h0
    generalize q[a] = x at *
    obtain ⟨⟨e0, i0⟩, ⟨e1, i1⟩, ⟨e2, i2⟩, ⟨e3, i3⟩, ⟨v4, e4, r4⟩, ⟨v5, e5, r5⟩⟩ := ex
    obtain ⟨p3, c3, rfl, hm3, hkf⟩ := r4.form
    unfold maxLen at hm3
    obtain ⟨b3, o3, rfl, hb3, hks⟩ := hkf (by omega)
    obtain ⟨hkd, hi1, hi2⟩ := hks d hd'
    rw [Nat.mul_one] at hkd
    clear hks hkf
    have HD := Lib.hid HB.out
    clear HB
    generalize x.kids[d] = y at *
    have hKD := fun (v4 v5 : Value) (W : World) => iKidsNd x v4 v5 W
    have hI : ∀ W, Kept w W → (W.cell? ⟨bc, 0, none⟩ = some (.slice (some ⟨b, o, none⟩) q.length cap) ∧ W.cell? ⟨b, o + a, none⟩ = some (.int .i64 x.kids.length) ∧ W.cell? ⟨bk, 0, none⟩ = some (.func (.func 66) #[] #[]) ∧ W.cell? ⟨bn, 0, none⟩ = some (.slice (some ⟨b2, o2, none⟩) q.length cap2) ∧ W.cell? ⟨b3, o3 + d, none⟩ = some (.int .i64 y) ∧ W.cell? ⟨b2, o2 + a * 6, none⟩ = some (.int .i64 x.kind) ∧ W.cell? ⟨b2, o2 + a * 6 + 1, none⟩ = some (.int .i64 x.at_) ∧ W.cell? ⟨b2, o2 + a * 6 + 2, none⟩ = some (.int .i64 x.n) ∧ W.cell? ⟨b2, o2 + a * 6 + 3, none⟩ = some (.string x.s) ∧ W.cell? ⟨b2, o2 + a * 6 + 4, none⟩ = some (.slice (some ⟨b3, o3, none⟩) x.kids.length c3) ∧ W.cell? ⟨b2, o2 + a * 6 + 5, none⟩ = some (v5)) :=
      fun W hK => ⟨(hK.cell _ _ hbc).trans hcc, (hK.cell _ _ hb).trans hca, (hK.cell _ _ hbk).trans hck, (hK.cell _ _ hbn).trans hcn, (hK.cell _ _ hb3).trans hkd, (hK.cell _ _ hb2).trans e0, (hK.cell _ _ hb2).trans e1, (hK.cell _ _ hb2).trans e2, (hK.cell _ _ hb2).trans e3, (hK.cell _ _ hb2).trans e4, (hK.cell _ _ hb2).trans e5⟩
    clear hcc hca hck hcn hkd
    go_enter Tryz.func139, Tryz.ntmps139
    go_wp2_with fail
    go_region_held3 (fun W => W.cell? ⟨bc, 0, none⟩ = some (.slice (some ⟨b, o, none⟩) q.length cap) ∧ W.cell? ⟨b, o + a, none⟩ = some (.int .i64 x.kids.length) ∧ W.cell? ⟨bk, 0, none⟩ = some (.func (.func 66) #[] #[]) ∧ W.cell? ⟨bn, 0, none⟩ = some (.slice (some ⟨b2, o2, none⟩) q.length cap2) ∧ W.cell? ⟨b3, o3 + d, none⟩ = some (.int .i64 y) ∧ W.cell? ⟨b2, o2 + a * 6, none⟩ = some (.int .i64 x.kind) ∧ W.cell? ⟨b2, o2 + a * 6 + 1, none⟩ = some (.int .i64 x.at_) ∧ W.cell? ⟨b2, o2 + a * 6 + 2, none⟩ = some (.int .i64 x.n) ∧ W.cell? ⟨b2, o2 + a * 6 + 3, none⟩ = some (.string x.s) ∧ W.cell? ⟨b2, o2 + a * 6 + 4, none⟩ = some (.slice (some ⟨b3, o3, none⟩) x.kids.length c3) ∧ W.cell? ⟨b2, o2 + a * 6 + 5, none⟩ = some (v5))
      (first | exact hI _ (Kept.refl _) | exact hI _ (Kept.drew _) | exact hI _ ((Kept.drew _).trans (Kept.of_below hb1)))
      ((go_at_call 66; refine (hKD _ _ _).mono ?_; rintro e w1 ⟨rfl, hb1⟩))
    go_wp2
    go_ret
    refine ⟨ret_bool ?_, (Below.refl _ _).drew.trans hb1⟩
    rw [HD.out, Bool.eq_iff_iff]; simp
theorem e_iNextNd : ∀ args w, (callFunc 139 args).run Tryz.prog w = .ok (.enter 139 args) w := enters_of Tryz.func139 (by kernel_rfl) rfl
theorem iWalkPreNd (q : List Nd) (vc vn : Value) (bc bk bn : Nat) (w : World) (hcc : w.cell? ⟨bc, 0, none⟩ = some vc) (hck : w.cell? ⟨bk, 0, none⟩ = some (.func (.func 66) #[] #[])) (hcn : w.cell? ⟨bn, 0, none⟩ = some vn)
    (hbc : bc < w.heap.size) (hbk : bk < w.heap.size) (hbn : bn < w.heap.size) (hC : RowRd 1 IntEl w vc (lens (q.map Nd.kids))) (hR : RowRd 6 NdEl w vn q) (hl : q.length ≤ 1048576) :
    Calls Tryz.prog 82 #[vc, .int .i64 0, .func (.func 139) #[] #[.pointer (some ⟨bc, 0, none⟩), .pointer (some ⟨bk, 0, none⟩), .pointer (some ⟨bn, 0, none⟩)]] w fun e w' => e = .returned (.int .i64 (walkS (vPre (q.map Nd.kids)) (lens (q.map Nd.kids)) (q.length + 1) () 0).1) ∧ Below w.heap.size w w' := by
  have hle : (lens (q.map Nd.kids)).length = q.length := by simp [lens]
  refine iWalk (vPre (q.map Nd.kids)) (fun _ W => Below w.heap.size w W) 139 #[.pointer (some ⟨bc, 0, none⟩), .pointer (some ⟨bk, 0, none⟩), .pointer (some ⟨bn, 0, none⟩)] e_iNextNd (lens (q.map Nd.kids)) vc (by omega) (fun _ W hW => hC.kept IntEl.st (Kept.of_below hW)) ?_ (q.length + 1) () 0 w (Below.refl _ _) (Nat.zero_le _) (by omega)
  intro u W a d n h hW hd h0 h1
  have hla : ((lens (q.map Nd.kids))[a]'h).toNat = (q[a]'(by omega)).kids.length := by simp [lens]
  rw [hla] at hd
  exact (iNextNd q vc vn bc bk bn a d n W ((hW.cell (p := ⟨bc, 0, none⟩) hbc).trans hcc) ((hW.cell (p := ⟨bk, 0, none⟩) hbk).trans hck) ((hW.cell (p := ⟨bn, 0, none⟩) hbn).trans hcn) (Nat.lt_of_lt_of_le hbc hW.size) (Nat.lt_of_lt_of_le hbk hW.size) (Nat.lt_of_lt_of_le hbn hW.size)
    (hC.kept IntEl.st (Kept.of_below hW)) (hR.kept NdEl.st (Kept.of_below hW)) (by omega) hd).mono fun e w' ⟨h1, h2⟩ => ⟨h1, below_tr hW h2⟩
theorem iPreNd (q : List Nd) (v : Value) (w : World) (hR : RowRd 6 NdEl w v q) :
    Calls Tryz.prog 65 #[v, .func (.func 66) #[] #[]] w fun e w' => e = .returned (.bool (preB (q.map Nd.kids))) ∧ Below w.heap.size w w' := by
  have hR0 := hR
  obtain ⟨p, cap, rfl, hm, hRf⟩ := hR.form
  clear hRf
  unfold maxLen at hm
  by_cases h0 : 600 < q.length
  · have h0' : 600 < (q.length : Int) := by omega
    have HB := Lib.hid (show preB (q.map Nd.kids) = false from by simp [preB]; omega)
    go_enter Tryz.func65, Tryz.ntmps65
    go_wp2
    go_ret
    exact ⟨ret_bool HB.out.symm, Joins.below_alloc2 w _ _⟩
  · have h0' : decide (600 < (q.length : Int)) = false := by simp; omega
    have h1 : decide (q.length ≤ 600) = true := by simp; omega
    have HB := Lib.hid (show preB (q.map Nd.kids) = decide ((walkS (vPre (q.map Nd.kids)) (lens (q.map Nd.kids)) (q.length + 1) () 0).1 = (q.length : Int)) from by
      unfold preB; rw [List.length_map, h1]; simp)
    have hmap : q.map (fun x => (x.kids.length : Int)) = lens (q.map Nd.kids) := by simp [lens]
    have hIx : ∀ x ∈ q, I64 (x.kids.length : Int) := by
      intro x hx
      obtain ⟨i, hi, rfl⟩ := List.getElem_of_mem hx
      obtain ⟨_, _, _, _, hRf⟩ := hR0.form
      obtain ⟨b, o, _, _, h⟩ := hRf (by omega)
      obtain ⟨⟨e0, i0⟩, ⟨e1, i1⟩, ⟨e2, i2⟩, ⟨e3, i3⟩, ⟨v4, e4, r4⟩, ⟨v5, e5, r5⟩⟩ := h i hi
      obtain ⟨_, _, _, hm3, _⟩ := r4.form
      unfold maxLen at hm3
      exact ⟨by omega, by omega⟩
    have hWK := fun (vc : Value) (bc : Nat) (W : World) => iWalkPreNd q vc (.slice p q.length cap) bc (w.heap.size + 1) w.heap.size W
    have hMP := fun (W : World) (hK : Kept w W) (hc : W.cell? ⟨w.heap.size + 1, 0, none⟩ = some (.func (.func 66) #[] #[])) (hlt : w.heap.size + 1 < W.heap.size) =>
      iMapNd 138 #[.pointer (some ⟨w.heap.size + 1, 0, none⟩)] e_iLenNd (fun x => (x.kids.length : Int)) q (.slice p q.length cap) W (hR0.kept NdEl.st hK) (by omega) hIx
        (fun i hi u W' hW' hu => iLenNd (w.heap.size + 1) q[i] u W' ((hW'.cell (p := ⟨w.heap.size + 1, 0, none⟩) hlt).trans hc) (Nat.lt_of_lt_of_le hlt hW'.size) hu)
    have hq := Lib.hid (show q.length ≤ 1048576 by omega)
    clear h0 h1
    go_enter Tryz.func65, Tryz.ntmps65
    go_wp2_with (go_at_call 137; refine (hMP _ (Kept.al2 _ _ _) (by simp) (by simp)).mono ?_; rintro e w1 ⟨v', rfl, hv', hb⟩; rw [hmap] at hv'; have hvf := hv'.form; obtain ⟨pv, cv, rfl, mv, -⟩ := hvf)
    clear hMP hmap hIx hR
    have hsz := hb.size
    simp at hsz
    have f0 : w1.cell? ⟨w.heap.size, 0, none⟩ = some (.slice p q.length cap) := (hb.cell (p := ⟨w.heap.size, 0, none⟩) (by simp; omega)).trans (by simp)
    have f1 : w1.cell? ⟨w.heap.size + 1, 0, none⟩ = some (.func (.func 66) #[] #[]) := (hb.cell (p := ⟨w.heap.size + 1, 0, none⟩) (by simp)).trans (by simp)
    have b0 := below_tr (Joins.below_alloc2 w _ _) hb
    clear hb
    obtain ⟨O, hO⟩ : ∃ O, O = Obj.cells #[.slice pv (lens (q.map Nd.kids)).length cv] 35 := ⟨_, rfl⟩
    have kO : Kept w1 (w1.alloc O) := Kept.alloc _ _
    have g0 := (kO.cell w.heap.size 0 (by omega)).trans f0
    have g1 := (kO.cell (w.heap.size + 1) 0 (by omega)).trans f1
    have gC : (w1.alloc O).cell? ⟨w1.heap.size, 0, none⟩ = some (.slice pv (lens (q.map Nd.kids)).length cv) := by rw [hO]; simp
    have hvO := hv'.kept IntEl.st kO
    have z0 : w1.heap.size < (w1.alloc O).heap.size := by simp
    have bO : Below w.heap.size w (w1.alloc O) := b0.alloc (by omega) O
    rw [← hO]
    clear hO hv' f0 f1 kO
    generalize w1.alloc O = wb at *
    have HW := fun W (hK : Kept wb W) => Lib.hid (hWK _ w1.heap.size W ((hK.cell _ _ z0).trans gC) ((hK.cell (w.heap.size + 1) 0 (by omega)).trans g1) ((hK.cell w.heap.size 0 (by omega)).trans g0) (Nat.lt_of_lt_of_le z0 hK.size) (Nat.lt_of_lt_of_le (by omega) hK.size) (Nat.lt_of_lt_of_le (by omega) hK.size)
      (hvO.kept IntEl.st hK) (hR0.kept NdEl.st ((Kept.of_below bO).trans hK)) hq.out)
    have hI : ∀ W, Kept wb W → (W.cell? ⟨w.heap.size, 0, none⟩ = some (.slice p q.length cap) ∧ W.cell? ⟨w1.heap.size, 0, none⟩ = some (.slice pv (lens (q.map Nd.kids)).length cv)) := fun W hK => ⟨(hK.cell w.heap.size 0 (by omega)).trans g0, (hK.cell _ _ z0).trans gC⟩
    clear hWK hvO g0 g1 gC
    generalize (walkS (vPre (q.map Nd.kids)) (lens (q.map Nd.kids)) (q.length + 1) () 0).1 = r at *
    go_wp2_with fail
    go_region_held3 (fun W => W.cell? ⟨w.heap.size, 0, none⟩ = some (.slice p q.length cap) ∧ W.cell? ⟨w1.heap.size, 0, none⟩ = some (.slice pv (lens (q.map Nd.kids)).length cv))
      (first | exact hI _ (Kept.refl _) | exact hI _ (Kept.drew _) | exact hI _ ((Kept.drew _).trans (Kept.of_below hb2)))
      ((go_at_call 82; refine (HW _ (by first | exact Kept.drew _ | exact Kept.refl _)).out.mono ?_; rintro e w2 ⟨rfl, hb2⟩))
    go_wp2
    go_ret
    refine ⟨ret_bool ?_, below_tr bO.drew hb2⟩
    rw [HB.out, Bool.eq_iff_iff]; simp
end Go.Proofs.YtbehcmogndpkhaaGreatDoor
