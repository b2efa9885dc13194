/- The program's check of substitutions: what is replaced as a map, what is right by two closures. -/
import Derived.Test.YtciohamonmmciaaSb
import Derived.Test.YtciohamonmmciaaOkW3
import Derived.Test.YtciohamonmmciaaFnTyI
import Derived.Test.YtciohamonmmciaaFnSb
namespace Go.Proofs.Ytciohamonmmciaa
set_option linter.unusedVariables false
set_option maxRecDepth 100000
open Go.ChangeShapes Go.WideShapes Go.ChangeAt Go.RowKit Go.Maps Go.WideMaps

theorem wf_i64 {x : Int} (h : I64 x) : (Lit.int .i64 x).wf = true := by
  obtain ⟨h1, h2⟩ := h
  simp only [Lit.wf, IntKind.min, IntKind.max, IntKind.signed, IntKind.bits, Bool.and_eq_true, decide_eq_true_eq, if_true]
  omega
theorem ownsMap_below {H : Type} {P : Program} {k : TypeId} {R : Value → Option (DataW H × List MemPlace)} {w W : World} {b n : Nat} {D : DataW H} (h : w.ownsMap P k R b n D) (hb : Below w.heap.size w W) : W.ownsMap P k R b n D := by
  have hl := h.lt
  obtain ⟨es, clock, hg, h1⟩ := h
  exact ⟨es, clock, (hb.block b hl).trans hg, h1⟩
/-- A variable that the first k replace. -/
def putB (l : List Sb) (n : Int) : Bool := l.any fun u => decide (u.var = n)
theorem put_snoc (l : List Sb) (k : Nat) (h : k < l.length) (n : Int) : putB (l.take (k + 1)) n = (putB (l.take k) n || decide (l[k].var = n)) := by
  unfold putB
  rw [List.take_succ_eq_append_getElem h, List.any_append]
  simp
theorem put_iff (l : List Sb) (n : Int) : putB l n = true ↔ ∃ u ∈ l, u.var = n := by unfold putB; simp
/-- The map's datum holds the variables that the first k replace. -/
def setD (l : List Sb) (k : Nat) (D : DataW Unit) : Prop := ∀ n : Int, I64 n → D.atKey (.int .i64 n) (.lit (.bool false)) = .lit (.bool (putB (l.take k) n))
theorem set_zero (l : List Sb) : setD l 0 (.map []) := fun n _ => rfl
theorem set_put {l : List Sb} {k : Nat} {D : DataW Unit} (h : setD l k D) (hD : IsMap D) (hk : k < l.length) : setD l (k + 1) (D.put (.int .i64 l[k].var) (.lit (.bool true))) := by
  intro n hn
  rw [put_snoc l k hk]
  by_cases hs : l[k].var = n
  · rw [← hs, atKey_put_same hD (by simp [WideAt.IsKeyLit])]
    simp
  · rw [atKey_put_other, h n hn]
    · simp [hs]
    · intro e
      apply hs
      simp only [Lit.int.injEq] at e
      exact e.2.symm
theorem key_int {n : Int} (hn : I64 n) : keyOf Try.prog 3 (.int .i64 n) = some (.int .i64 n) := keyOf_int_mk Try.underlying3 (wf_i64 hn)
/-- What the loop asks. -/
def Asc9 (l : List Sb) (k : Nat) : Prop := ∀ i (h : i < l.length), i < k → (if i = 0 then -1 else (l[i - 1]'(by omega)).var) < l[i].var ∧ l[i].var ≤ 9999
def lastOf (l : List Sb) (k : Nat) : Int := if k = 0 then -1 else (l[k - 1]?.map (·.var)).getD 0
theorem last_succ (l : List Sb) (k : Nat) (h : k < l.length) : lastOf l (k + 1) = l[k].var := by simp [lastOf, List.getElem?_eq_getElem h]
def okK (l : List Sb) (k : Nat) : Prop := ∀ i s, i < k → l[i]? = some s → lastOf l i < s.var ∧ s.var ≤ 9999
theorem okK.step {l : List Sb} {k : Nat} (h : okK l k) (hk : k < l.length) (h1 : lastOf l k < l[k].var) (h2 : l[k].var ≤ 9999) : okK l (k + 1) := by
  intro i s hi hg
  by_cases he : i = k
  · subst he; rw [List.getElem?_eq_getElem hk] at hg; cases hg; exact ⟨h1, h2⟩
  · exact h i s (by omega) hg
theorem okK_of {l : List Sb} (h : SubsP l) : ∀ k, okK l k := by
  intro k i s _ hg
  obtain ⟨h1, h2, h3, _⟩ := h i s hg
  refine ⟨?_, h2⟩
  cases i with
  | zero => simp [lastOf]; omega
  | succ m =>
    have hm : m < l.length := by have := (List.getElem?_eq_some_iff.1 hg).1; omega
    rw [last_succ l m hm]
    exact h3 m rfl _ (List.getElem?_eq_getElem hm)
/-- What the closures ask of one. -/
def rightB (l : List Sb) (s : Sb) : Bool := tyOkB s.ty && s.ty.all fun x => !decide (x.name.toList = []) || !putB l x.var
theorem right_vars (l : List Sb) (x : List TyI) : (x.all fun t => !decide (t.name.toList = []) || !putB l t.var) = true ↔ ∀ u ∈ l, u.var ∉ varsOf x := by
  rw [List.all_eq_true]
  constructor
  · intro h u hu hv
    unfold varsOf at hv
    obtain ⟨t, ht, he⟩ := List.mem_map.1 hv
    obtain ⟨h1, h2⟩ := List.mem_filter.1 ht
    have h3 := h t h1
    have h4 : putB l t.var = true := (put_iff l _).2 ⟨u, hu, he.symm⟩
    rw [h4] at h3
    simp at h3 h2
    rw [h2] at h3
    simp at h3
  · intro h t ht
    by_cases hn : t.name.toList = []
    · have : putB l t.var = false := by
        cases hp : putB l t.var
        · rfl
        · obtain ⟨u, hu, he⟩ := (put_iff l _).1 hp
          exact absurd (List.mem_map.2 ⟨t, List.mem_filter.2 ⟨ht, by simpa using hn⟩, he.symm⟩) (h u hu)
      rw [this]; simp
    · simp [hn]
theorem subs_right {l : List Sb} (h : okK l l.length) : l.all (rightB l) = subsOkB l := by
  have key : l.all (rightB l) = true ↔ SubsP l := by
    rw [List.all_eq_true]
    constructor
    · intro hr i s hg
      have hi := (List.getElem?_eq_some_iff.1 hg).1
      have hk := h i s hi hg
      have hs := hr s (List.mem_of_getElem? hg)
      simp only [rightB, Bool.and_eq_true] at hs
      have hnn : ∀ (i : Nat) (s : Sb), l[i]? = some s → 0 ≤ s.var := by
        intro i
        induction i with
        | zero => intro s hg; have h0 := h 0 s (List.getElem?_eq_some_iff.1 hg).1 hg; simp [lastOf] at h0; omega
        | succ m ih =>
          intro s hg
          have hm := (List.getElem?_eq_some_iff.1 hg).1
          have h0 := h (m + 1) s hm hg
          rw [last_succ l m (by omega)] at h0
          have := ih _ (List.getElem?_eq_getElem (by omega))
          omega
      refine ⟨hnn i s hg, hk.2, fun m hm p hp => ?_, hs.1, (right_vars l s.ty).1 hs.2⟩
      subst hm
      have hml := (List.getElem?_eq_some_iff.1 hp).1
      have := hk.1
      rw [last_succ l m hml] at this
      rw [List.getElem?_eq_getElem hml] at hp
      cases hp
      exact this
    · intro hS s hs
      obtain ⟨i, hi, rfl⟩ := List.getElem_of_mem hs
      obtain ⟨_, _, _, h4, h5⟩ := hS i _ (List.getElem?_eq_getElem hi)
      simp only [rightB, Bool.and_eq_true]
      exact ⟨h4, (right_vars l _).2 h5⟩
  unfold subsOkB
  by_cases hp : SubsP l
  · rw [propB_t hp]; exact key.2 hp
  · rw [propB_f hp]
    cases hr : l.all (rightB l)
    · rfl
    · exact absurd (key.1 hr) hp
theorem subs_no {l : List Sb} {k : Nat} (hk : k < l.length) (h : ¬ (lastOf l k < l[k].var ∧ l[k].var ≤ 9999)) : subsOkB l = false := by
  unfold subsOkB
  exact propB_f fun hS => h (okK_of hS (k + 1) k _ (by omega) (List.getElem?_eq_getElem hk))
theorem iRemains (l : List Sb) (x : TyI) (u : Value) (bm g n : Nat) (D : DataW Unit) (w : World) (hc : w.cell? ⟨bm, 0, none⟩ = some (.map (some g))) (hb : bm < w.heap.size) (hM : w.ownsMap Try.prog 3 (plainElem Try.prog 4) g n D) (hD : setD l l.length D) (hu : TyIVal w u x) :
    Calls Try.prog 50 #[u, .pointer (some ⟨bm, 0, none⟩)] w fun e w' => e = .returned (.bool (!decide (x.name.toList = []) || !putB l x.var)) ∧ Below w.heap.size w w' := by
  obtain ⟨rfl, i0, i1, i2⟩ := hu
  have hown0 := hM.alloc (.cells #[.int .i64 x.var, .string x.name, .int .i64 x.arity] 68)
  obtain ⟨c, hrun, hat⟩ := look_bool hown0 (int_keyed Try.underlying3) Try.underlying84 Try.underlying4 (zero_bool _) (key_int i0)
  have hcs : c = putB l x.var := by
    have := hD x.var i0
    rw [hat, List.take_length] at this
    simpa using this
  have HC := Lib.hid hcs
  have hne : w.heap.size ≠ bm := by omega
  clear hcs hat
  by_cases hn : x.name.toList = []
  · have hn1 : x.name.toList.isEmpty = true := by simp [hn]
    have HN := Lib.hid hn
    clear hn
    go_enter Try.func50, Try.ntmps50
    go_wp2
    go_ret
    exact ⟨ret_bool (by simp [HN.out, HC.out]), Joins.below_alloc1 w _⟩
  · have hn1 : x.name.toList.isEmpty = false := by simpa using hn
    have HN := Lib.hid hn
    clear hn
    go_enter Try.func50, Try.ntmps50
    go_wp2
    go_ret
    exact ⟨ret_bool (by simp [HN.out]), Joins.below_alloc1 w _⟩
theorem e_iRemains : ∀ args w, (callFunc 50 args).run Try.prog w = .ok (.enter 50 args) w := enters_of Try.func50 (by kernel_rfl) rfl
theorem iIsRight (l : List Sb) (x : Sb) (u : Value) (bf bm g n : Nat) (D : DataW Unit) (w : World) (hf : w.cell? ⟨bf, 0, none⟩ = some (.func (.func 50) #[] #[.pointer (some ⟨bm, 0, none⟩)])) (hbf : bf < w.heap.size)
    (hc : w.cell? ⟨bm, 0, none⟩ = some (.map (some g))) (hb : bm < w.heap.size) (hM : w.ownsMap Try.prog 3 (plainElem Try.prog 4) g n D) (hD : setD l l.length D) (hu : SbVal w u x) (hz : bTy x.ty ≤ 1048576) :
    Calls Try.prog 51 #[u, .pointer (some ⟨bf, 0, none⟩)] w fun e w' => e = .returned (.bool (rightB l x)) ∧ Below w.heap.size w w' := by
  obtain ⟨v1, rfl, i0, r1⟩ := hu
  obtain ⟨p1, c1, rfl, m1, -⟩ := r1.form
  have HR := Lib.hid (show rightB l x = (tyOkB x.ty && x.ty.all fun x => !decide (x.name.toList = []) || !putB l x.var) from rfl)
  have hE := fun W (hB : Below w.heap.size w W) => iEveryTyI 50 #[.pointer (some ⟨bm, 0, none⟩)] e_iRemains (fun x => !decide (x.name.toList = []) || !putB l x.var) x.ty _ W (r1.kept TyIEl.st (Kept.of_below hB))
    (fun i hi u W' hW hu' => iRemains l x.ty[i] u bm g n D W' (((below_tr hB hW).cell (p := ⟨bm, 0, none⟩) hb).trans hc) (Nat.lt_of_lt_of_le hb (below_tr hB hW).size) (ownsMap_below hM (below_tr hB hW)) hD hu')
  have hne : w.heap.size ≠ bf := by omega
  go_enter Try.func51, Try.ntmps51
  go_wp2_with fail
  refine (iTyOkC x.ty _ _ (r1.kept TyIEl.st (Kept.alloc _ _)) hz).mono ?_
  rintro e w1 ⟨rfl, hb1⟩
  have B1 : Below w.heap.size w w1 := below_tr (Joins.below_alloc1 w _) hb1
  obtain ⟨hc1, hf1⟩ := bcell hb1
  have cf : w1.cell? ⟨bf, 0, none⟩ = some (.func (.func 50) #[] #[.pointer (some ⟨bm, 0, none⟩)]) := (B1.cell (p := ⟨bf, 0, none⟩) hbf).trans hf
  cases hok : tyOkB x.ty
  · rw [hok] at HR
    go_wp2
    go_ret
    exact ⟨ret_bool (by rw [HR.out]; rfl), B1⟩
  · rw [hok] at HR
    go_wp2_with fail
    refine (hE _ B1).mono ?_
    rintro e w2 ⟨rfl, hb2⟩
    go_wp2
    go_ret
    exact ⟨ret_bool (by rw [HR.out]; rfl), below_tr B1 hb2⟩
theorem e_iIsRight : ∀ args w, (callFunc 51 args).run Try.prog w = .ok (.enter 51 args) w := enters_of Try.func51 (by kernel_rfl) rfl
set_option maxHeartbeats 2000000 in
theorem iSubsOkC (l : List Sb) (v : Value) (w : World) (hR : RowRd 2 SbEl w v l) (hz : bulkL bSb l ≤ 1048576) :
    Calls Try.prog 33 #[v] w fun e w' => e = .returned (.bool (subsOkB l)) ∧ Below w.heap.size w w' := by
  have hR0 := hR
  obtain ⟨p, cap, rfl, hm, hRf⟩ := hR.form
  unfold maxLen at hm
  have hll : l.length ≤ 1048576 := Nat.le_trans (bulkL_len _ _) hz
  have hmm := @run_makeMap Try.prog
  go_enter Try.func33, Try.ntmps33
  go_wp2
  go_loopw [4, 12] (fun last i wr => ∃ (k : Nat) (D : DataW Unit), i = .int .i64 k ∧ last = .int .i64 (lastOf l k) ∧ k ≤ l.length ∧ wr.ownsMap Try.prog 3 (plainElem Try.prog 4) w.heap.size k D ∧ setD l k D ∧ okK l k ∧ wr.cell? ⟨w.heap.size + 1, 0, none⟩ = some (.map (some w.heap.size)) ∧ w.heap.size + 1 < wr.heap.size ∧ Below w.heap.size w wr) (fun _ i _ => l.length - (intOf i).toNat)
  case atStart =>
    refine ⟨0, .map [], rfl, rfl, Nat.zero_le _, ?_, set_zero l, fun i s h => absurd h (by omega), by simp, by simp, ((Below.refl _ _).alloc (Nat.le_refl _) _).alloc (by simp) _⟩
    exact (World.ownsMap_made (H := Unit) w Try.prog 3 (plainElem Try.prog 4)).alloc _
  case round =>
    obtain ⟨k, D, rfl, rfl, hk, hown, hD, hok, hc, hsz, hbel⟩ := hrel
    have HD := Lib.hid hD
    have HK := Lib.hid hok
    clear hD hok hmm
    by_cases hlt : k < l.length
    · obtain ⟨b, o, rfl, hbw, hcs⟩ := hRf (by omega)
      have ex := SbEl.st w wr b _ _ (Kept.of_below hbel) hbw (hcs k hlt)
      have HNo := Lib.hid (subs_no (l := l) hlt)
      have HLast := Lib.hid (last_succ l k hlt)
      have HPut := Lib.hid (set_put HD.out hown.isMap hlt)
      have HSt := Lib.hid (HK.out.step hlt)
      clear hcs hRf hR hR0
      generalize l[k] = s at *
      generalize lastOf l k = la at *
      obtain ⟨⟨e0, i0⟩, ⟨v1, e1, r1⟩⟩ := ex
      obtain ⟨p1, c1, rfl, m1, -⟩ := r1.form
      have hb1 := hbel.trans ((Joins.below_alloc1 wr (.cells #[.int .i64 s.var, .slice p1 s.ty.length c1] 59)).mono hbel.size)
      have hown0 := hown.alloc (.cells #[.int .i64 s.var, .slice p1 s.ty.length c1] 59)
      have hne : wr.heap.size ≠ w.heap.size + 1 := by omega
      by_cases h1 : s.var ≤ la
      · have d1 : decide (s.var ≤ la) = true := decide_eq_true h1
        have HF := Lib.hid (HNo.out (by omega))
        go_wp2
        go_ret
        exact ⟨ret_bool HF.out.symm, hb1⟩
      · have d1 : decide (s.var ≤ la) = false := decide_eq_false h1
        by_cases h2 : 9999 < s.var
        · have d2 : decide (9999 < s.var) = true := decide_eq_true h2
          have HF := Lib.hid (HNo.out (by omega))
          go_wp2
          go_ret
          exact ⟨ret_bool HF.out.symm, hb1⟩
        · have d2 : decide (9999 < s.var) = false := decide_eq_false h2
          have HG := Lib.hid (HSt.out (by omega) (by omega))
          go_wp2_with (at_mapUpdate; refine wpList_mapUpdate_own _ rfl _ _ _ 84 rfl 3 4 (int_keyed Try.underlying3) Try.underlying84 (plainElem (H := Unit) Try.prog 4) w.heap.size k _ rfl hown0 (by unfold maxLen; omega) _ _ _ rfl rfl (key_int i0) _ [] (plainElem_bool Try.underlying4 true) ?_; intro w1 hown1 hgrow1; have q0 : w1.cell? ⟨wr.heap.size, 0, none⟩ = some (.int .i64 s.var) := (World.cell?_of_block (a := ⟨wr.heap.size, 0, none⟩) (hgrow1.block wr.heap.size (by simp) (by simp <;> omega))).trans (by simp); have q1 : w1.cell? ⟨w.heap.size + 1, 0, none⟩ = some (.map (some w.heap.size)) := (World.cell?_of_block (a := ⟨w.heap.size + 1, 0, none⟩) (hgrow1.block (w.heap.size + 1) (by simp <;> omega) (by simp))).trans (((Kept.alloc wr _).cell _ _ hsz).trans hc); have q2 : w.heap.size + 1 < w1.heap.size := (by have := hgrow1.size; simp at this; omega); have q3 := hb1.grown hgrow1 hb1.size (fun j hj => by cases hj; omega))
          go_roundw
          case rel => exact ⟨k + 1, _, by go_num, by rw [HLast.out], by omega, hown1, HPut.out, HG.out, q1, q2, q3⟩
          case measure => simp [intOf]; omega
    · obtain rfl : k = l.length := by omega
      have HB := Lib.hid (subs_right HK.out)
      have hbO := fun T : TypeId => Joins.below_alloc1 wr (.cells #[.func (.func 50) #[] #[.pointer (some ⟨w.heap.size + 1, 0, none⟩)]] T)
      have hE := fun T : TypeId => iEverySb 51 #[.pointer (some ⟨wr.heap.size, 0, none⟩)] e_iIsRight (rightB l) l _ (wr.alloc (.cells #[.func (.func 50) #[] #[.pointer (some ⟨w.heap.size + 1, 0, none⟩)]] T)) (hR0.kept SbEl.st ((Kept.of_below hbel).trans (Kept.alloc _ _)))
        (fun i hi u W hW hu => iIsRight l l[i] u wr.heap.size (w.heap.size + 1) w.heap.size _ D W ((hW.cell (p := ⟨wr.heap.size, 0, none⟩) (by simp)).trans (by simp)) (Nat.lt_of_lt_of_le (by simp) hW.size)
          (((below_tr (hbO T) hW).cell (p := ⟨w.heap.size + 1, 0, none⟩) hsz).trans hc) (Nat.lt_of_lt_of_le hsz (below_tr (hbO T) hW).size) (ownsMap_below hown (below_tr (hbO T) hW)) HD.out hu
          (by have := bulkL_mem bSb l i hi; simp only [bSb] at this; omega))
      clear hRf hR hR0
      go_wp2_with fail
      refine (hE _).mono ?_
      rintro e w2 ⟨rfl, hb2⟩
      go_wp2
      go_ret
      exact ⟨ret_bool HB.out, hbel.trans ((below_tr (Joins.below_alloc1 wr _) hb2).mono hbel.size)⟩
end Go.Proofs.Ytciohamonmmciaa
