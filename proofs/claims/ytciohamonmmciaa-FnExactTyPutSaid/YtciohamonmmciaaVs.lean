
/- The variables of a type: the model's and the program's. -/
import Derived.Test.YtciohamonmmciaaVsMath
import Derived.Test.YtciohamonmmciaaOwnRow
import Derived.Test.YtciohamonmmciaaOkS
import Derived.WalkKit
import Derived.ProofKit
import Derived.OpenShut
import Derived.Lib.Hide
import Derived.Lib.SmallJoins
namespace Go.Proofs.Ytciohamonmmciaa
set_option linter.unusedVariables false
set_option maxRecDepth 100000
open Go.ChangeShapes Go.WideShapes Go.ChangeAt Go.RowKit

theorem info_int : (Try.prog.info? 3).map (fun i => (i.zero, i.size, i.bytes)) = some (some (.int .i64 0), 1, 8) := by kernel_rfl
theorem own_app_ints {B e m : Nat} {w1 : World} {v' : Value} {l l' : List Int} {n : Nat} {xs news : List Value} (hn : n = l.length) (hxs : xs = ic l) (hnews : news = ic l') (hm : m = l'.length) (hown' : w1.ownsRow B e 1 v' (n + m) (xs ++ news)) :
    w1.ownsRow B e 1 v' (l ++ l').length (ic (l ++ l')) := by
  subst hn hxs hnews hm; rw [ic_app, List.length_append]; exact hown'
theorem own_rdi {B e : Nat} {w : World} {v : Value} {l : List Int} (h : w.ownsRow B e 1 v l.length (ic l)) (hI : ∀ x ∈ l, I64 x) : RowRd 1 IntEl w v l := by
  obtain ⟨F, h, _⟩ := own_ints h hI
  exact h.reads (Flat.reads IntEl)
theorem own_mono {w : World} {B B' e n m : Nat} {v : Value} {xs : List Value} (h : w.ownsRow B e m v n xs) (hb : B' ≤ B) : w.ownsRow B' e m v n xs := by
  obtain ⟨h0, h1 | ⟨g, cap, cur, h1, h2, h3⟩⟩ := h
  · exact ⟨h0, .inl h1⟩
  · exact ⟨h0, .inr ⟨g, cap, cur, h1, Nat.le_trans hb h2, h3⟩⟩
theorem own_lit0 {W : World} {base n sz : Nat} {e : TypeId} (hn : n = W.heap.size) (hb : base ≤ W.heap.size) : (W.alloc (.cells #[] e)).ownsRow base e sz (.slice (some ⟨n, 0, none⟩) 0 0) 0 [] := by
  subst hn; exact World.ownsRow_lit W #[] 0 hb (by decide) (by simp)
theorem new_cells' (w : World) (C : Array Value) (T : TypeId) (news : List Value) {n : Nat} (hn : n = w.heap.size) (h : C.toList = news) : ∀ j u, news[j]? = some u → (w.alloc (.cells C T)).cell? ((⟨n, 0, none⟩ : Addr).add j) = some u := by
  subst hn; exact new_cells w C T news h
theorem not_mem_take (l : List Int) (n : Int) (k : Nat) (h : k < l.length) (h0 : n ∉ l.take k) (h1 : l[k] ≠ n) : n ∉ l.take (k + 1) := by
  rw [List.take_succ_eq_append_getElem h, List.mem_append]
  rintro (h | h)
  · exact h0 h
  · exact h1 (List.mem_singleton.1 h).symm
set_option maxHeartbeats 2000000 in
theorem sPut (l : List Int) (v : Value) (n : Int) (B : Nat) (w : World) (hO : w.ownsRow B 3 1 v l.length (ic l)) (hl : l.length ≤ 2097152) (hB : B ≤ w.heap.size) (hI : ∀ x ∈ l, I64 x) :
    Calls Try.prog 61 #[v, .int .i64 n] w fun e w' => ∃ v', e = .returned v' ∧ w'.ownsRow B 3 1 v' (putL l n).length (ic (putL l n)) ∧ Below w.heap.size w w' := by
  obtain ⟨i0, hi, hz0, hz1, hz2⟩ := info_parts info_int
  obtain ⟨a, cap, rfl, _, hR⟩ := (own_rdi hO hI).form
  go_enter Try.func61, Try.ntmps61
  go_wp2
  go_loopw [5, 6, 12] (fun out done i wr => ∃ k : Nat, k ≤ l.length ∧ i = .int .i64 k ∧ done = .bool (putS n l k).2 ∧ wr.ownsRow w.heap.size 3 1 out (putS n l k).1.length (ic (putS n l k).1) ∧ n ∉ l.take k ∧ Below w.heap.size w wr ∧ w.heap.size ≤ wr.heap.size)
    (fun _ _ i _ => l.length - (intOf i).toNat)
  case atStart =>
    refine ⟨0, Nat.zero_le _, rfl, rfl, ?_, by simp, (Below.refl _ _).alloc (Nat.le_refl _) _, by simp⟩
    exact World.ownsRow_lit w #[] 0 (Nat.le_refl _) (by decide) rfl
  case round =>
    obtain ⟨k, hk, rfl, rfl, hown, hnk, hbel, hBs⟩ := hrel
    have hO' := own_below hO hbel
    by_cases hlt : k < l.length
    · obtain ⟨b, o, rfl, hbw, hc⟩ := hR (by omega)
      have ex := IntEl.st w wr b _ _ (Kept.of_below hbel) hbw (hc k hlt)
      have hS := putS_succ n l k hlt
      have hlen := putS_len n l k hk
      have hnt := not_mem_take l n k hlt hnk
      have hmem : l[k] ∈ l := List.getElem_mem hlt
      clear hc hR
      generalize l[k] = x at *
      have HS := Lib.hid hS
      have HT := Lib.hid hnt
      have HM := Lib.hid hmem
      clear hS hnt hmem
      obtain ⟨S, hSS⟩ : ∃ S, S = putS n l k := ⟨_, rfl⟩
      rw [← hSS] at hown hlen HS ⊢
      clear hSS
      obtain ⟨S, d⟩ := S
      simp only at hown hlen ⊢
      have hlen' : S.length ≤ k + 1 := by rw [hlen]; split <;> omega
      have HL := Lib.hid hlen
      clear hlen
      obtain ⟨e0, -⟩ := ex
      rw [Nat.mul_one] at e0
      by_cases he : x = n
      · subst he
        have HP := Lib.hid (show putL l x = l from by rw [putL, if_pos HM.out])
        cases d
        all_goals
          go_wp2
          go_ret
          refine ⟨_, rfl, ?_, hbel⟩
          rw [HP.out]
          exact hO'
      · have he' : ¬ n = x := fun h => he h.symm
        have HN := HT.out he
        have HE := Lib.hid he
        clear HT he
        cases d
        · by_cases hx : n < x
          · have HX := Lib.hid hx
            go_wp2_with (first
              | (at_builtin; refine wpList_append_own _ rfl (.tmp 27) (.tmp 29) 70 rfl w.heap.size 3 i0 (.int .i64 0) 1 8 Try.underlying70 hi hz0 hz1 hz2 rfl (by decide) _ S.length (ic S) rfl (hown.alloc _) ⟨wr.heap.size, 0, none⟩ 1 1 [.int .i64 n] rfl rfl (new_cells _ _ _ _ rfl) (ic_one [n]) (by unfold maxLen; omega) (by omega) (by simp; omega) ?_; intro v1 w1 hown' hgrow _; have R := own_app hown hbel (Nat.le_refl _) hBs hgrow; have O := own_app_ints rfl rfl (l' := [n]) rfl rfl hown')
              | (at_builtin; refine wpList_append_own _ rfl (.tmp 31) (.tmp 33) 70 rfl w.heap.size 3 i0 (.int .i64 0) 1 8 Try.underlying70 hi hz0 hz1 hz2 rfl (by decide) _ (S ++ [n]).length (ic (S ++ [n])) rfl (O.alloc _) ⟨w1.heap.size, 0, none⟩ 1 1 [.int .i64 x] rfl rfl (new_cells _ _ _ _ rfl) (ic_one [x]) (by simp; unfold maxLen; omega) (by simp; omega) (by simp; omega) ?_; intro v2 w2 hown2 hgrow2 _; have R2 := own_app O R.1 (Nat.le_refl _) R.2 hgrow2; have O2 := own_app_ints rfl rfl (l' := [x]) rfl rfl hown2))
            clear hown hown' hown2 hgrow hgrow2 hbel O R
            have hp : putA n (S, false) x = (S ++ [n] ++ [x], true) := by unfold putA; rw [if_pos ⟨rfl, HX.out⟩]; simp
            go_roundw
            case rel => exact ⟨k + 1, by omega, by go_num, by rw [HS.out, hp], by rw [HS.out, hp]; exact O2, HN, R2.1, R2.2⟩
            case measure => simp [intOf]; omega
          · have HX := Lib.hid hx
            go_wp2_with (first
              | (at_builtin; refine wpList_append_own _ rfl (.tmp 31) (.tmp 33) 70 rfl w.heap.size 3 i0 (.int .i64 0) 1 8 Try.underlying70 hi hz0 hz1 hz2 rfl (by decide) _ S.length (ic S) rfl (hown.alloc _) ⟨wr.heap.size, 0, none⟩ 1 1 [.int .i64 x] rfl rfl (new_cells _ _ _ _ rfl) (ic_one [x]) (by unfold maxLen; omega) (by omega) (by simp; omega) ?_; intro v2 w2 hown2 hgrow2 _; have R2 := own_app hown hbel (Nat.le_refl _) hBs hgrow2; have O2 := own_app_ints rfl rfl (l' := [x]) rfl rfl hown2))
            clear hown hown2 hgrow2 hbel
            have hp : putA n (S, false) x = (S ++ [x], false) := by unfold putA; rw [if_neg (by simp [HX.out])]
            go_roundw
            case rel => exact ⟨k + 1, by omega, by go_num, by rw [HS.out, hp], by rw [HS.out, hp]; exact O2, HN, R2.1, R2.2⟩
            case measure => simp [intOf]; omega
        · go_wp2_with (first
              | (at_builtin; refine wpList_append_own _ rfl (.tmp 31) (.tmp 33) 70 rfl w.heap.size 3 i0 (.int .i64 0) 1 8 Try.underlying70 hi hz0 hz1 hz2 rfl (by decide) _ S.length (ic S) rfl (hown.alloc _) ⟨wr.heap.size, 0, none⟩ 1 1 [.int .i64 x] rfl rfl (new_cells _ _ _ _ rfl) (ic_one [x]) (by unfold maxLen; omega) (by omega) (by simp; omega) ?_; intro v2 w2 hown2 hgrow2 _; have R2 := own_app hown hbel (Nat.le_refl _) hBs hgrow2; have O2 := own_app_ints rfl rfl (l' := [x]) rfl rfl hown2))
          clear hown hown2 hgrow2 hbel
          have hp : putA n (S, true) x = (S ++ [x], true) := by unfold putA; rw [if_neg (by simp)]
          go_roundw
          case rel => exact ⟨k + 1, by omega, by go_num, by rw [HS.out, hp], by rw [HS.out, hp]; exact O2, HN, R2.1, R2.2⟩
          case measure => simp [intOf]; omega
    · obtain rfl : k = l.length := by omega
      rw [List.take_length] at hnk
      have hlen := putS_len n l l.length (Nat.le_refl _)
      have HP := Lib.hid (show putL l n = if (putS n l l.length).2 = true then (putS n l l.length).1 else (putS n l l.length).1 ++ [n] from by rw [putL, if_neg hnk])
      clear hnk hR
      obtain ⟨S, hSS⟩ : ∃ S, S = putS n l l.length := ⟨_, rfl⟩
      rw [← hSS] at hown hlen HP ⊢
      clear hSS
      obtain ⟨S, d⟩ := S
      simp only at hown hlen HP ⊢
      have hlen' : S.length ≤ l.length + 1 := by rw [hlen]; split <;> omega
      clear hlen
      cases d
      · go_wp2_with (first
              | (at_builtin; refine wpList_append_own _ rfl (.tmp 38) (.tmp 40) 70 rfl w.heap.size 3 i0 (.int .i64 0) 1 8 Try.underlying70 hi hz0 hz1 hz2 rfl (by decide) _ S.length (ic S) rfl (hown.alloc _) ⟨wr.heap.size, 0, none⟩ 1 1 [.int .i64 n] rfl rfl (new_cells _ _ _ _ rfl) (ic_one [n]) (by unfold maxLen; omega) (by omega) (by simp; omega) ?_; intro v2 w2 hown2 hgrow2 _; have R2 := own_app hown hbel (Nat.le_refl _) hBs hgrow2; have O2 := own_app_ints rfl rfl (l' := [n]) rfl rfl hown2))
        go_ret
        refine ⟨_, rfl, ?_, R2.1⟩
        rw [HP.out, if_neg (by simp)]
        exact own_mono O2 hB
      · go_wp2
        go_ret
        refine ⟨_, rfl, ?_, hbel⟩
        rw [HP.out, if_pos trivial]
        exact own_mono hown hB
/-- The variables of items, as they come. -/
def varsOf (l : List TyI) : List Int := (l.filter fun y => decide (y.name.toList = [])).map (·.var)
theorem varsOf_no (x : List TyI) (k : Nat) (h : k < x.length) (hn : ¬ x[k].name.toList = []) : varsOf (x.take (k + 1)) = varsOf (x.take k) := by
  unfold varsOf; rw [List.take_succ_eq_append_getElem h, List.filter_append]; simp [hn]
theorem varsOf_yes (x : List TyI) (k : Nat) (h : k < x.length) (hn : x[k].name.toList = []) : varsOf (x.take (k + 1)) = varsOf (x.take k) ++ [x[k].var] := by
  unfold varsOf; rw [List.take_succ_eq_append_getElem h, List.filter_append]; simp [hn]
theorem varsOf_len (x : List TyI) (k : Nat) : (varsOf (x.take k)).length ≤ k := by
  unfold varsOf; rw [List.length_map]; exact Nat.le_trans (List.length_filter_le _ _) (by simp; omega)
theorem varsOf_i64 {w : World} {v : Value} {x : List TyI} (h : RowRd 3 TyIEl w v x) : ∀ y ∈ varsOf x, I64 y := by
  intro y hy
  unfold varsOf at hy
  obtain ⟨z, hz, rfl⟩ := List.mem_map.1 hy
  obtain ⟨i, hi, rfl⟩ := List.getElem_of_mem (List.mem_filter.1 hz).1
  obtain ⟨a, cap, -, -, hR⟩ := h.form
  obtain ⟨b, o, -, -, hc⟩ := hR (by omega)
  exact (hc i hi).1.2
theorem varsOf_take {x : List TyI} {k : Nat} {y : Int} (h : y ∈ varsOf (x.take k)) : y ∈ varsOf x := by
  unfold varsOf at h ⊢
  obtain ⟨z, hz, rfl⟩ := List.mem_map.1 h
  obtain ⟨h1, h2⟩ := List.mem_filter.1 hz
  exact List.mem_map.2 ⟨z, List.mem_filter.2 ⟨List.mem_of_mem_take h1, h2⟩, rfl⟩
/-- The variables, ascending. -/
def ascOf (l : List Int) : List Int := l.foldl putL []
theorem ascOf_snoc (l : List Int) (n : Int) : ascOf (l ++ [n]) = putL (ascOf l) n := by unfold ascOf; rw [List.foldl_append]; rfl
theorem fold_asc (l : List Int) : ∀ m, Asc m → Asc (l.foldl putL m) ∧ ∀ y, y ∈ l.foldl putL m ↔ (y ∈ m ∨ y ∈ l) := by
  induction l with
  | nil => intro m h; exact ⟨h, fun y => by simp⟩
  | cons x l ih =>
    intro m h
    obtain ⟨h1, h2⟩ := putL_asc m x h
    obtain ⟨h3, h4⟩ := ih _ h1
    refine ⟨h3, fun y => ?_⟩
    rw [List.foldl_cons, h4, h2]
    simp [or_assoc]
theorem ascOf_asc (l : List Int) : Asc (ascOf l) ∧ ∀ y, y ∈ ascOf l ↔ y ∈ l := by
  obtain ⟨h1, h2⟩ := fold_asc l [] List.Pairwise.nil
  exact ⟨h1, fun y => by unfold ascOf; rw [h2]; simp⟩
theorem ascOf_len (l : List Int) : (ascOf l).length ≤ l.length := by
  have : ∀ (l m : List Int), (l.foldl putL m).length ≤ m.length + l.length := by
    intro l
    induction l with
    | nil => intro m; simp
    | cons x l ih => intro m; have h1 := ih (putL m x); have h2 := putL_len m x; simp at h1 ⊢; omega
  have := this l []; unfold ascOf; simpa using this
theorem ascOf_sorted (l : List Int) : Go.Lib.compact (l.mergeSort fun x y => decide (x ≤ y)) = ascOf l := by
  obtain ⟨h1, h2⟩ := compact_sort l
  obtain ⟨h3, h4⟩ := ascOf_asc l
  exact asc_eq _ _ h1 h3 fun y => by rw [h2, h4]
theorem sVars (x : List TyI) (v : Value) (w : World) (hR : RowRd 3 TyIEl w v x) (hl : x.length ≤ 1048576) :
    Calls Try.prog 49 #[.agg #[v]] w fun e w' => ∃ v', e = .returned v' ∧ w'.ownsRow w.heap.size 3 1 v' (ascOf (varsOf x)).length (ic (ascOf (varsOf x))) ∧ Below w.heap.size w w' := by
  have hI := varsOf_i64 hR
  obtain ⟨p, cap, rfl, _, hR⟩ := hR.form
  go_enter Try.func49, Try.ntmps49
  go_wp2
  go_loopw [3, 10] (fun out i wr => ∃ k : Nat, k ≤ x.length ∧ i = .int .i64 k ∧ wr.ownsRow w.heap.size 3 1 out (ascOf (varsOf (x.take k))).length (ic (ascOf (varsOf (x.take k)))) ∧ Below w.heap.size w wr ∧ w.heap.size ≤ wr.heap.size)
    (fun _ i _ => x.length - (intOf i).toNat)
  case atStart =>
    refine ⟨0, Nat.zero_le _, rfl, ?_, ((Below.refl _ _).alloc (Nat.le_refl _) _).alloc (by simp) _, by simp; omega⟩
    exact own_lit0 (by simp) (by simp)
  case round =>
    obtain ⟨k, hk, rfl, hown, hbel, hBs⟩ := hrel
    by_cases hlt : k < x.length
    · obtain ⟨b, o, rfl, hbw, hc⟩ := hR (by omega)
      have ex := TyIEl.st w wr b _ _ (Kept.of_below hbel) hbw (hc k hlt)
      have h1 := varsOf_no x k hlt
      have h2 := varsOf_yes x k hlt
      have hlen := varsOf_len x k
      have hasc := ascOf_asc (varsOf (x.take k))
      have hal := ascOf_len (varsOf (x.take k))
      have hI' : ∀ y ∈ ascOf (varsOf (x.take k)), I64 y := fun y hy => hI y (varsOf_take ((hasc.2 y).1 hy))
      clear hc hR hasc
      generalize x[k] = t at *
      generalize varsOf (x.take k) = L at *
      have H1 := Lib.hid h1
      have H2 := Lib.hid h2
      clear h1 h2
      obtain ⟨⟨e0, i0⟩, ⟨e1, i1⟩, ⟨e2, i2⟩⟩ := ex
      by_cases hn : t.name.toList = []
      · have hn1 : t.name.toList.isEmpty = true := by simp [hn]
        have HN := Lib.hid hn
        clear hn
        go_wp2_with fail
        refine (sPut (ascOf L) _ t.var w.heap.size _ (hown.alloc _) (by omega) (by simp; omega) hI').mono ?_
        rintro e w1 ⟨v', rfl, hown1, hb1⟩
        have hB1 : Below wr.heap.size wr w1 := below_tr (Joins.below_alloc1 wr _) hb1
        go_wp2
        go_roundw
        case rel => exact ⟨k + 1, by omega, by go_num, by rw [H2.out HN.out, ascOf_snoc]; exact hown1, hbel.trans (hB1.mono hBs), by have := hB1.size; omega⟩
        case measure => simp [intOf]; omega
      · have hn1 : t.name.toList.isEmpty = false := by simpa using hn
        have HN := Lib.hid hn
        clear hn
        go_wp2
        go_roundw
        case rel => exact ⟨k + 1, by omega, by go_num, by rw [H1.out HN.out]; exact hown.alloc _, hbel.trans ((Joins.below_alloc1 wr _).mono hBs), by simp; omega⟩
        case measure => simp [intOf]; omega
    · obtain rfl : k = x.length := by omega
      rw [List.take_length] at hown
      go_wp2
      go_ret
      exact ⟨_, rfl, hown, hbel⟩
def resTyVars (x : List TyI) : List Int := if tyOkB x then ascOf (varsOf x) else []
theorem resTyVars_i64 {w : World} {v : Value} {x : List TyI} (h : RowRd 3 TyIEl w v x) : ∀ y ∈ ascOf (varsOf x), I64 y := fun y hy => varsOf_i64 h y (((ascOf_asc _).2 y).1 hy)
theorem row_none (w : World) (e : Ending) (w' : World) (h : e = .returned (.slice none 0 0)) (hb : Below w.heap.size w w') : RowPost 1 (Flat IntEl) ([] : List Int) w e w' :=
  ⟨_, [], h, .inl ⟨rfl, rfl, _, _, rfl⟩, fun g hg => by simp at hg, List.nodup_nil, hb⟩
end Go.Proofs.Ytciohamonmmciaa
