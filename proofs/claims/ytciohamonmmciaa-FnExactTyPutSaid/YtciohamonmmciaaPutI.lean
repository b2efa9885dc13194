/- The program's putting of a substitution: the search, the closure. -/
import Derived.Test.YtciohamonmmciaaTreeQ
import Derived.Test.YtciohamonmmciaaSbI
import Derived.Deep.RegionHeld3
namespace Go.Proofs.Ytciohamonmmciaa
set_option linter.unusedVariables false
set_option maxRecDepth 100000
open Go.ChangeShapes Go.WideShapes Go.ChangeAt Go.RowKit

/-- What a substitution puts for a variable. -/
def putV (l : List Sb) (n : Int) : List TyI := match l.find? (fun s => decide (s.var = n)) with
  | some s => s.ty
  | none => [⟨n, noName, 0⟩]
theorem iDiff (s : Sb) (n : Int) (u : Value) (w : World) (hu : SbVal w u s) (hs : 0 ≤ s.var ∧ s.var ≤ 9999) (hn : 0 ≤ n ∧ n ≤ 9999) :
    Calls Try.prog 54 #[u, .int .i64 n] w fun e w' => e = .returned (.int .i64 (s.var - n)) ∧ Below w.heap.size w w' := by
  obtain ⟨v1, rfl, i0, r1⟩ := hu
  have hw : IntKind.i64.wrap (s.var - n) = s.var - n := IntWalk.i64_in _ (by omega)
  go_enter Try.func54, Try.ntmps54
  go_wp2
  go_ret
  exact ⟨rfl, Joins.below_alloc1 w _⟩
theorem e_iDiff : ∀ args w, (callFunc 54 args).run Try.prog w = .ok (.enter 54 args) w := enters_of Try.func54 (by kernel_rfl) rfl
/-- Ascending, in the bounds. -/
def AscS (l : List Sb) : Prop := (∀ s ∈ l, 0 ≤ s.var ∧ s.var ≤ 9999) ∧ ∀ i j (hi : i < l.length) (hj : j < l.length), i < j → l[i].var < l[j].var
theorem SubsP.asc {l : List Sb} (h : SubsP l) : AscS l := by
  refine ⟨fun s hs => ?_, ?_⟩
  · obtain ⟨i, hi, rfl⟩ := List.getElem_of_mem hs
    obtain ⟨h1, h2, _⟩ := h i _ (List.getElem?_eq_getElem hi)
    exact ⟨h1, h2⟩
  · intro i j
    induction j with
    | zero => intro _ _ h; omega
    | succ j ih =>
      intro hi hj hij
      have hstep := (h (j + 1) _ (List.getElem?_eq_getElem hj)).2.2.1 j rfl _ (List.getElem?_eq_getElem (show j < l.length by omega))
      by_cases e : i = j
      · subst e; exact hstep
      · have := ih hi (by omega) (by omega); omega
/-- How many lie below a number. -/
def lowOf (l : List Sb) (n : Int) : Nat := l.findIdx (fun s => decide (n ≤ s.var))
theorem low_le (l : List Sb) (n : Int) : lowOf l n ≤ l.length := List.findIdx_le_length
theorem low_is {l : List Sb} (ha : AscS l) {n : Int} {i : Nat} (hi : i ≤ l.length) (h1 : ∀ j (hj : j < l.length), j < i → l[j].var < n) (h2 : ∀ j (hj : j < l.length), i ≤ j → n ≤ l[j].var) : lowOf l n = i := by
  by_cases h : i < l.length
  · unfold lowOf
    rw [List.findIdx_eq h]
    exact ⟨by simpa using h2 i h (Nat.le_refl _), fun j hj => by simpa using h1 j (by omega) hj⟩
  · obtain rfl : i = l.length := by omega
    exact List.findIdx_eq_length_of_false fun s hs => by
      obtain ⟨j, hj, rfl⟩ := List.getElem_of_mem hs
      have := h1 j hj hj
      simp; omega
theorem asc_le {l : List Sb} (ha : AscS l) {i j : Nat} (hi : i < l.length) (hj : j < l.length) (h : i ≤ j) : l[i].var ≤ l[j].var := by
  by_cases e : i = j
  · subst e; exact Int.le_refl _
  · have := ha.2 i j hi hj (by omega); omega
/-- Found. -/
theorem put_found {l : List Sb} (ha : AscS l) {n : Int} (h : lowOf l n < l.length) (he : l[lowOf l n].var = n) : putV l n = l[lowOf l n].ty := by
  have : l.find? (fun s => decide (s.var = n)) = some l[lowOf l n] := by
    rw [List.find?_eq_some_iff_getElem]
    refine ⟨by simpa using he, _, h, rfl, fun j hj => ?_⟩
    have := ha.2 j _ (by omega) h hj
    simp; omega
  unfold putV
  rw [this]
theorem put_not {l : List Sb} (ha : AscS l) {n : Int} (h : ∀ (hl : lowOf l n < l.length), l[lowOf l n].var ≠ n) : putV l n = [⟨n, noName, 0⟩] := by
  have : l.find? (fun s => decide (s.var = n)) = none := by
    rw [List.find?_eq_none]
    intro s hs
    obtain ⟨j, hj, rfl⟩ := List.getElem_of_mem hs
    intro e
    have e : l[j].var = n := by simpa using e
    have hlow : lowOf l n = j := low_is ha (by omega) (fun i hi hij => by have := ha.2 i j hi hj hij; omega) (fun i hi hij => by have := asc_le ha hj hi hij; omega)
    exact h (by omega) (by simp only [hlow]; exact e)
  unfold putV
  rw [this]
def foundB (l : List Sb) (n : Int) : Bool := decide ((l[lowOf l n]?.map (·.var)) = some n)
theorem found_in {l : List Sb} {n : Int} {i : Nat} (hi : lowOf l n = i) (h : i < l.length) : foundB l n = decide (l[i].var = n) := by
  unfold foundB
  rw [hi, List.getElem?_eq_getElem h]
  simp
theorem found_out {l : List Sb} {n : Int} (h : lowOf l n = l.length) : foundB l n = false := by
  unfold foundB
  rw [h, List.getElem?_eq_none (Nat.le_refl _)]
  simp
set_option maxHeartbeats 1000000 in
theorem iSearch (l : List Sb) (ha : AscS l) (n : Int) (hn : 0 ≤ n ∧ n ≤ 9999) (v : Value) (w : World) (hR : RowRd 2 SbEl w v l) (hl : l.length ≤ 1048576) :
    Calls Try.prog 56 #[v, .int .i64 n, .func (.func 54) #[] #[]] w fun e w' => e = .returned (.tuple #[.int .i64 (lowOf l n : Int), .bool (foundB l n)]) ∧ Below w.heap.size w w' := by
  obtain ⟨p, cap, rfl, hm, hRf⟩ := hR.form
  have eg := e_iDiff
  have HA := Lib.hid ha
  clear ha
  go_enter Try.func56, Try.ntmps56
  go_wp2
  go_loopw [9, 10] (fun s9 s10 wr => ∃ lo hi : Nat, s9 = .int .i64 lo ∧ s10 = .int .i64 hi ∧ lo ≤ hi ∧ hi ≤ l.length ∧ (∀ j (hj : j < l.length), j < lo → l[j].var < n) ∧ (∀ j (hj : j < l.length), hi ≤ j → n ≤ l[j].var) ∧ Below w.heap.size w wr) (fun a b _ => (intOf b).toNat - (intOf a).toNat)
  case atStart => exact ⟨0, l.length, rfl, rfl, Nat.zero_le _, Nat.le_refl _, fun j hj h => absurd h (by omega), fun j hj h => by omega, Below.refl _ _⟩
  case round =>
    obtain ⟨lo, hi, rfl, rfl, hlh, hin, h1, h2, hbel⟩ := hrel
    have H1 := Lib.hid h1
    have H2 := Lib.hid h2
    clear h1 h2
    by_cases hlt : lo < hi
    · obtain ⟨b, o, rfl, hbw, hc⟩ := hRf (by omega)
      have hml : (lo + hi) / 2 < l.length := by omega
      have ex := SbEl.st w wr b _ _ (Kept.of_below hbel) hbw (hc _ hml)
      have hs := HA.out.1 l[(lo + hi) / 2] (List.getElem_mem hml)
      have HLo := Lib.hid (fun (h : l[(lo + hi) / 2].var < n) j (hj : j < l.length) (hj2 : j < (lo + hi) / 2 + 1) => (show l[j].var < n from by have := asc_le HA.out hj hml (by omega); omega))
      have HHi := Lib.hid (fun (h : n ≤ l[(lo + hi) / 2].var) j (hj : j < l.length) (hj2 : (lo + hi) / 2 ≤ j) => (show n ≤ l[j].var from by have := asc_le HA.out hml hj hj2; omega))
      clear hc hRf hR
      generalize l[(lo + hi) / 2] = s at *
      obtain ⟨⟨e0, i0⟩, ⟨v1, e1, r1⟩⟩ := ex
      obtain ⟨p1, c1, rfl, m1, -⟩ := r1.form
      have hcall := iDiff s n _ wr ⟨_, rfl, i0, r1⟩ hs hn
      by_cases hsn : s.var < n
      · have d1 : decide (s.var - n < 0) = true := decide_eq_true (by omega)
        have HN := Lib.hid (HLo.out hsn)
        go_wp2_with (go_at_fn 54; refine hcall.mono ?_; rintro e w1 ⟨rfl, hb1⟩)
        go_roundw
        case rel => exact ⟨(lo + hi) / 2 + 1, hi, by go_num, rfl, by omega, hin, HN.out, H2.out, below_tr hbel hb1⟩
        case measure => simp [intOf]; omega
      · have d1 : decide (s.var - n < 0) = false := decide_eq_false (by omega)
        have HN := Lib.hid (HHi.out (by omega))
        go_wp2_with (go_at_fn 54; refine hcall.mono ?_; rintro e w1 ⟨rfl, hb1⟩)
        go_roundw
        case rel => exact ⟨lo, (lo + hi) / 2, rfl, by go_num, by omega, by omega, H1.out, HN.out, below_tr hbel hb1⟩
        case measure => simp [intOf]; omega
    · obtain rfl : lo = hi := by omega
      have HLow := Lib.hid (low_is HA.out hin H1.out H2.out)
      by_cases hll : lo < l.length
      · obtain ⟨b, o, rfl, hbw, hc⟩ := hRf (by omega)
        have ex := SbEl.st w wr b _ _ (Kept.of_below hbel) hbw (hc lo hll)
        have hs := HA.out.1 l[lo] (List.getElem_mem hll)
        have HF := Lib.hid (found_in HLow.out hll)
        have hll2 : (lo : Int) < (l.length : Int) := by omega
        have hll3 : decide ((lo : Int) < (l.length : Int)) = true := decide_eq_true hll2
        clear hc hRf hR H1 H2
        generalize l[lo] = s at *
        obtain ⟨⟨e0, i0⟩, ⟨v1, e1, r1⟩⟩ := ex
        obtain ⟨p1, c1, rfl, m1, -⟩ := r1.form
        have hcall := iDiff s n _ wr ⟨_, rfl, i0, r1⟩ hs hn
        by_cases hsn : s.var = n
        · have d1 : (s.var - n == 0) = true := by simp; omega
          have HN := Lib.hid hsn
          clear hsn
          go_wp2_with (go_at_fn 54; refine hcall.mono ?_; rintro e w1 ⟨rfl, hb1⟩)
          go_ret2
          exact ⟨by rw [HLow.out, HF.out]; simp [HN.out], below_tr hbel hb1⟩
        · have d1 : (s.var - n == 0) = false := by simp; omega
          have HN := Lib.hid hsn
          clear hsn
          go_wp2_with (go_at_fn 54; refine hcall.mono ?_; rintro e w1 ⟨rfl, hb1⟩)
          go_ret2
          exact ⟨by rw [HLow.out, HF.out]; simp [HN.out], below_tr hbel hb1⟩
      · obtain rfl : lo = l.length := by omega
        have HF := Lib.hid (found_out HLow.out)
        have hll3 : decide ((l.length : Int) < (l.length : Int)) = false := by simp
        clear hRf hR H1 H2
        go_wp2
        go_ret2
        exact ⟨by rw [HLow.out, HF.out]; rfl, hbel⟩
/-- What the closure reads: the row, the cells of what it holds. -/
def PutJ (l : List Sb) (v : Value) (b1 b2 : Nat) (_ : Unit) (w : World) : Prop :=
  RowRd 2 SbEl w v l ∧ w.cell? ⟨b1, 0, none⟩ = some v ∧ w.cell? ⟨b2, 0, none⟩ = some (.func (.func 54) #[] #[])
set_option maxHeartbeats 1000000 in
theorem iPutting (l : List Sb) (hS : SubsP l) (v : Value) (b1 b2 : Nat) (n : Int) (hn : 0 ≤ n ∧ n ≤ 9999) (w : World) (hb1 : b1 < w.heap.size) (hb2 : b2 < w.heap.size) (hJ : PutJ l v b1 b2 () w) (hl : l.length ≤ 1048576) (hz : bulkL bSb l ≤ 1048576) :
    Calls Try.prog 55 #[.int .i64 n, .pointer (some ⟨b1, 0, none⟩), .pointer (some ⟨b2, 0, none⟩)] w fun e w' => ∃ u, e = .returned u ∧ TreeRd (fun k => w.heap.size ≤ k) w' u (putV l n) ∧ Below w.heap.size w w' := by
  obtain ⟨hR, c1, c2⟩ := hJ
  have ha := hS.asc
  obtain ⟨p, cap, rfl, hm, hRf⟩ := hR.form
  have hsearch := iSearch l ha n hn _ w hR hl
  by_cases hlow : lowOf l n < l.length
  · obtain ⟨b, o, rfl, hbw, hc⟩ := hRf (by omega)
    have ex := hc _ hlow
    have hf := found_in rfl hlow
    have hfd := put_found ha hlow
    have hnf := put_not (l := l) ha (n := n)
    have htr := (hS _ _ (List.getElem?_eq_getElem hlow)).2.2.2.1
    have hzs : bTy l[lowOf l n].ty ≤ 1048576 := by have := bulkL_mem bSb l _ hlow; simp only [bSb] at this; omega
    have hlow2 : (lowOf l n : Int) < (l.length : Int) := by omega
    have HFd := Lib.hid hfd
    have HNf := Lib.hid (fun (h : l[lowOf l n].var ≠ n) => hnf (fun _ => h))
    clear hc hRf hfd hnf ha hS
    generalize l[lowOf l n] = s at *
    generalize lowOf l n = m at *
    obtain ⟨⟨e0, i0⟩, ⟨v1, e1, r1⟩⟩ := ex
    obtain ⟨p1, q1, rfl, m1, -⟩ := r1.form
    have ht := ty_tree htr (row_names r1)
    have hlen : s.ty.length ≤ 1048576 := Nat.le_trans (bulkL_len _ _) hzs
    by_cases hsn : s.var = n
    · have hfb : foundB l n = true := by rw [hf]; simpa using hsn
      rw [hfb] at hsearch
      have HP := Lib.hid (HFd.out hsn)
      clear hf hfb hsn HFd HNf htr
      go_enter Try.func55, Try.ntmps55
      go_wp2_with (first
        | (go_at_call 56; refine hsearch.mono ?_; rintro e w1 ⟨rfl, h1⟩; have d1 := (h1.cell (p := ⟨b1, 0, none⟩) hb1).trans c1; have e1' := (h1.cell (p := ⟨b, _, none⟩) hbw).trans e1)
        | (go_at_call 25; refine (iTreeOfTy s.ty _ w1 (r1.kept TyIEl.st (Kept.of_below h1)) ht hlen).mono ?_; rintro e w2 ⟨u, rfl, ht2, h2⟩; obtain ⟨Tu, xu, rfl⟩ := ht2.shape))
      go_ret
      exact ⟨_, rfl, by rw [HP.out]; exact ht2.same (fun k hk _ => ⟨Nat.le_trans h1.size hk, rfl⟩) (Nat.le_refl _), below_tr h1 h2⟩
    · have hfb : foundB l n = false := by rw [hf]; simpa using hsn
      rw [hfb] at hsearch
      have HP := Lib.hid (HNf.out hsn)
      clear hf hfb hsn HFd HNf htr
      go_enter Try.func55, Try.ntmps55
      go_wp2_with (go_at_call 56; refine hsearch.mono ?_; rintro e w1 ⟨rfl, h1⟩)
      go_ret
      exact ⟨_, rfl, by rw [HP.out]; exact .var n ⟨by omega, by omega⟩, h1⟩
  · have hll : lowOf l n = l.length := by have := low_le l n; omega
    have hfb := found_out hll
    rw [hfb] at hsearch
    have HP := Lib.hid (put_not (l := l) ha (n := n) fun h => absurd h hlow)
    clear hfb hll hlow hRf ha hS
    go_enter Try.func55, Try.ntmps55
    go_wp2_with (go_at_call 56; refine hsearch.mono ?_; rintro e w1 ⟨rfl, h1⟩)
    go_ret
    exact ⟨_, rfl, by rw [HP.out]; exact .var n ⟨by omega, by omega⟩, h1⟩
theorem putBy (l : List Sb) (hS : SubsP l) (v : Value) (b1 b2 : Nat) (w0 : World) (hJ : PutJ l v b1 b2 () w0) (hb1 : b1 < w0.heap.size) (hb2 : b2 < w0.heap.size) (hl : l.length ≤ 1048576) (hz : bulkL bSb l ≤ 1048576) :
    PutBy (fun n => 0 ≤ n ∧ n ≤ 9999) (fun (_ : Unit) n => (putV l n, ())) (fun (_ : Unit) W => Below w0.heap.size w0 W) w0.heap.size [] 55 #[.pointer (some ⟨b1, 0, none⟩), .pointer (some ⟨b2, 0, none⟩)] where
  eg := enters_of Try.func55 (by kernel_rfl) rfl
  low := fun k hk => by simp at hk
  keep := fun _ W W' h hb => h.trans hb
  by_ := fun _ W n hn hI h hB => (iPutting l hS v b1 b2 n hn W (by omega) (by omega) ⟨hJ.1.kept SbEl.st (Kept.of_below h), (h.cell (p := ⟨b1, 0, none⟩) hb1).trans hJ.2.1, (h.cell (p := ⟨b2, 0, none⟩) hb2).trans hJ.2.2⟩ hl hz).mono fun e w' ⟨u, he, ht, hb⟩ =>
    ⟨u, he, ht.same (fun k hk _ => ⟨⟨by simp, .inr hk⟩, rfl⟩) (Nat.le_refl _), h.trans (hb.mono hB), ButF.of_below hb⟩
/-- The items with what the substitution puts. -/
def putX (l : List Sb) (x : List TyI) : List TyI := x.flatMap fun t => if t.name.toList = [] then putV l t.var else [t]
theorem putT_put (l : List Sb) (x : List TyI) : putT (fun (_ : Unit) n => (putV l n, ())) () x = (putX l x, ()) := by
  induction x with
  | nil => rfl
  | cons t x ih =>
    by_cases h : t.name.toList = []
    · rw [putT, if_pos h]
      simp only [ih, putX, List.flatMap_cons, if_pos h]
    · rw [putT, if_neg h]
      simp only [ih, putX, List.flatMap_cons, if_neg h, List.cons_append, List.nil_append]
theorem nil_put_var (n : Int) (w : World) : (nilAhead 227 77 (.int .i64 n) "loop.example/g00395/impl.put").run Try.prog w = .ok (some false) w := by kernel_rfl
theorem nil_put_con (s : ByteArray) (v : Value) (w : World) : (nilAhead 227 97 (.agg #[.string s, v]) "loop.example/g00395/impl.put").run Try.prog w = .ok (some false) w := by kernel_rfl
theorem e_put_var : ∀ args w, (callFunc 94 args).run Try.prog w = .ok (.enter 94 args) w := enters_of Try.func94 (by kernel_rfl) rfl
theorem e_put_con : ∀ args w, (callFunc 97 args).run Try.prog w = .ok (.enter 97 args) w := enters_of Try.func97 (by kernel_rfl) rfl
/-- The method put of a tree, by the number of its function. -/
theorem callPut_fn {A : Nat → Prop} {w0 : World} {u : Value} {t : List TyI} (h : TreeRd A w0 u t) : ∃ T x g, u = .iface T x ∧ (∀ args w, (callFunc g args).run Try.prog w = .ok (.enter g args) w) ∧ (∀ w, (method 227 T x "loop.example/g00395/impl.put").run Try.prog w = .ok (g, x) w) ∧
    (∀ w, (nilAhead 227 T x "loop.example/g00395/impl.put").run Try.prog w = .ok (some false) w) ∧ ∀ f w Q, CallPut u f w Q → Calls Try.prog g #[x, f] w Q := by
  rcases tree_cases h with ⟨n, rfl⟩ | ⟨s, v, rfl⟩
  · exact ⟨_, _, _, rfl, e_put_var, m_put_var n, nil_put_var n, fun f w Q h => h⟩
  · exact ⟨_, _, _, rfl, e_put_con, m_put_con s v, nil_put_con s v, fun f w Q h => h⟩
theorem iPutsOf (v : Value) (hv : ∃ a n c, v = .slice a n c) (w : World) : Calls Try.prog 34 #[v] w fun e w' => e = .returned (.func (.func 55) #[] #[.pointer (some ⟨w.heap.size, 0, none⟩), .pointer (some ⟨w.heap.size + 1, 0, none⟩)]) ∧ w'.cell? ⟨w.heap.size, 0, none⟩ = some v ∧ w'.cell? ⟨w.heap.size + 1, 0, none⟩ = some (.func (.func 54) #[] #[]) ∧ w.heap.size + 1 < w'.heap.size ∧ Below w.heap.size w w' := by
  obtain ⟨a, n, c, rfl⟩ := hv
  go_enter Try.func34, Try.ntmps34
  go_wp2
  go_ret
  exact ⟨rfl, by simp, by simp, by simp, Joins.below_alloc2 w _ _⟩
end Go.Proofs.Ytciohamonmmciaa
