/- The program's texts of a type's items. -/
import Derived.Test.YtdgadjikdnmnoaaDoorOkW3
import Derived.Test.YtdgadjikdnmnoaaDoorPrS
import Derived.Test.YtdgadjikdnmnoaaDoorCat
namespace Go.Proofs.YtdgadjikdnmnoaaDoor
set_option linter.unusedVariables false
set_option maxRecDepth 100000
open Go.ChangeShapes Go.WideShapes Go.ChangeAt Go.RowKit

/-- Texts as strings. -/
def strs (P : List (List UInt8)) : List ByteArray := P.map fun l => ⟨l.toArray⟩
theorem strs_length (P : List (List UInt8)) : (strs P).length = P.length := by simp [strs]
theorem cat_strs (P : List (List UInt8)) : cat (strs P) = P.flatten := by
  unfold cat strs
  rw [List.map_map]
  congr 1
  exact (List.map_congr_left fun x _ => rfl).trans (List.map_id P)
/-- A literal of texts. -/
theorem lit_strs {W : World} {C : Array Value} {T : TypeId} {xs : List ByteArray} {n m : Nat} (hn : n = W.heap.size) (h : C.toList = xs.map Value.string) (hm : m = xs.length) (hs : ∀ x ∈ xs, x.size ≤ maxLen) (hl : xs.length ≤ maxLen) :
    RowRd 1 StrEl (W.alloc (.cells C T)) (.slice (some ⟨n, 0, none⟩) m m) xs := by
  subst hm
  refine RowRd.mk hl (Nat.le_refl _) fun h0 => ⟨n, 0, rfl, by simp [hn], fun i hi => ⟨?_, hs _ (List.getElem_mem hi)⟩⟩
  have := strs_at W n C T xs hn h i xs[i] (List.getElem?_eq_getElem hi)
  rw [Nat.mul_one]
  exact this
theorem lit_own {W : World} {B : Nat} {C : Array Value} {xs : List ByteArray} {n m : Nat} (hn : n = W.heap.size) (hB : B ≤ W.heap.size) (h : C.toList = sc xs) (hm : m = xs.length) (hl : xs.length ≤ maxLen) :
    (W.alloc (.cells C 9)).ownsRow B 9 1 (.slice (some ⟨n, 0, none⟩) m m) xs.length (sc xs) := by
  subst hn hm
  have hs : C.size = xs.length := by rw [← Array.length_toList, h, sc_length]
  rw [← h]
  exact World.ownsRow_lit W C xs.length hB hl (by rw [hs, Nat.mul_one])
theorem own_rds {B e : Nat} {w : World} {v : Value} {l : List ByteArray} (h : w.ownsRow B e 1 v l.length (sc l)) (hm : l.length ≤ maxLen) (hI : ∀ x ∈ l, x.size ≤ maxLen) : RowRd 1 StrEl w v l := by
  by_cases h0 : 0 < l.length
  · obtain ⟨g, cap, rfl, h1, h2, h3, h4, _⟩ := own_shape h h0
    refine .inr ⟨g, 0, cap, rfl, ⟨hm, h3⟩, h2, h0, fun i hi => ?_⟩
    have := h4 i hi
    rw [Nat.mul_one, Nat.zero_add]
    exact ⟨by rw [this]; simp [sc, hi], hI _ (List.getElem_mem hi)⟩
  · obtain rfl : l = [] := List.eq_nil_of_length_eq_zero (by omega)
    obtain ⟨hx, ⟨rfl, _⟩ | ⟨g, cap, cur, rfl, _⟩⟩ := h
    · exact .inl ⟨rfl, _, _, rfl⟩
    · exact .inl ⟨rfl, _, _, rfl⟩
theorem rd_sizes {w : World} {v : Value} {l : List ByteArray} (h : RowRd 1 StrEl w v l) : l.length ≤ maxLen ∧ ∀ x ∈ l, x.size ≤ maxLen := by
  obtain ⟨a, cap, _, hm, hR⟩ := h.form
  refine ⟨hm, fun x hx => ?_⟩
  obtain ⟨i, hi, rfl⟩ := List.getElem_of_mem hx
  obtain ⟨b, o, _, _, hc⟩ := hR (by omega)
  exact (hc i hi).2
theorem sz_ok (t : List UInt8) (h : t.length ≤ 100) : (⟨t.toArray⟩ : ByteArray).size ≤ maxLen := by
  have e : (⟨t.toArray⟩ : ByteArray).size = t.length := by show t.toArray.size = _; simp
  rw [e]; unfold maxLen; omega
theorem all1 {a : ByteArray} (h : a.size ≤ maxLen) : ∀ x ∈ [a], x.size ≤ maxLen := by simpa using h
theorem all2 {a b : ByteArray} (h : a.size ≤ maxLen) (h2 : b.size ≤ maxLen) : ∀ x ∈ [a, b], x.size ≤ maxLen := by
  intro x hx
  rcases List.mem_cons.1 hx with rfl | hx
  · exact h
  · exact all1 h2 x hx
theorem all3 {a b c : ByteArray} (h : a.size ≤ maxLen) (h2 : b.size ≤ maxLen) (h3 : c.size ≤ maxLen) : ∀ x ∈ [a, b, c], x.size ≤ maxLen := by
  intro x hx
  rcases List.mem_cons.1 hx with rfl | hx
  · exact h
  · exact all2 h2 h3 x hx
theorem enc_small (m : Nat) (h : m ≤ 25) : Utf8.encode (97 + (m : Int)) = ⟨#[97 + UInt8.ofNat m]⟩ := by
  have : ∀ k : Fin 26, Utf8.encode (97 + (k.val : Int)) = ⟨#[97 + UInt8.ofNat k.val]⟩ := by decide
  exact this ⟨m, by omega⟩
theorem iVarText (v : Int) (w : World) (h0 : 0 ≤ v) (h1 : v ≤ 9999) (htab : Lib.TabIs Tryd.prog w "internal/strconv.uint64pow10" .u64 Lib.pow10Tab) :
    Calls Tryd.prog 31 #[.int .i64 v] w fun e w' => e = .returned (.string ⟨(varL v).toArray⟩) ∧ Below w.heap.size w w' := by
  by_cases hv : 25 < v
  · have HB := Lib.hid (show varL v = cat [⟨#[39, 122]⟩, ⟨(numL v).toArray⟩] from by rw [varL, if_pos hv]; simp [cat])
    have HN := Lib.hid (iNumText v w (by omega) htab)
    have hl := numL_len v h0 h1
    clear htab
    generalize numL v = t at *
    have HJ := fun (W : World) => Lib.hid (joined W.heap.size 0 2 [⟨#[39, 122]⟩, ⟨t.toArray⟩] (W.alloc (.cells #[.string ⟨#[39, 122]⟩, .string ⟨t.toArray⟩] 9)) (strs_at _ _ _ _ _ rfl rfl) (by simp) (by simp) (by simp) (by simp [cat]; omega))
    go_enter Tryd.func31, Tryd.ntmps31
    go_wp2_with (first | (go_at_call 39; refine HN.out.mono ?_; rintro e w1 ⟨rfl, hb⟩) | (go_at_call 30; go_loud (refine (HJ w1).out.mono ?_); rintro e w2 ⟨rfl, hb2⟩))
    go_ret
    exact ⟨by rw [HB.out]; rfl, hb.trans ((below_tr (Joins.below_alloc1 w1 _) hb2).mono hb.size)⟩
  · have HB := Lib.hid (show varL v = [39] ++ [UInt8.ofNat (97 + v.toNat)] from by rw [varL, if_neg hv]; rfl)
    obtain ⟨m, rfl⟩ : ∃ m : Nat, v = m := ⟨v.toNat, by omega⟩
    have hm : m ≤ 25 := by omega
    have henc := enc_small m hm
    have hw : IntKind.i64.wrap (97 + (m : Int)) = 97 + (m : Int) := IntWalk.i64_in _ (by omega)
    have hw2 : IntKind.i32.wrap (97 + (m : Int)) = 97 + (m : Int) := IntWalk.i32_in _ (by omega)
    have HJ := Lib.hid (joined w.heap.size 0 2 [⟨#[39]⟩, ⟨#[97 + UInt8.ofNat m]⟩] (w.alloc (.cells #[.string ⟨#[39]⟩, .string ⟨#[97 + UInt8.ofNat m]⟩] 9)) (strs_at _ _ _ _ _ rfl rfl) (by simp) (by simp) (by simp) (by simp [cat]))
    clear h0 h1 htab
    go_enter Tryd.func31, Tryd.ntmps31
    go_wp2_with (go_at_call 30; go_loud (refine HJ.out.mono ?_); rintro e w2 ⟨rfl, hb2⟩)
    go_ret
    exact ⟨by rw [HB.out, Int.toNat_natCast, UInt8.ofNat_add]; rfl, below_tr (Joins.below_alloc1 w _) hb2⟩
set_option maxHeartbeats 4000000 in
theorem iItemTexts (x : TyI) (w : World) (hx : itemB x = true) (htab : Lib.TabIs Tryd.prog w "internal/strconv.uint64pow10" .u64 Lib.pow10Tab) :
    Calls Tryd.prog 16 #[.agg #[.int .i64 x.var, .string x.name, .int .i64 x.arity]] w fun e w' => ∃ v', e = .returned v' ∧ RowRd 1 StrEl w' v' (strs (itemT varL x)) ∧ w'.ownsRow w.heap.size 9 1 v' (strs (itemT varL x)).length (sc (strs (itemT varL x))) ∧ Below w.heap.size w w' := by
  have har := item_arity hx
  have hnm := item_name hx
  have hvar := item_var hx
  have hns : x.name.size ≤ 12 := by rw [pr_toList] at hnm; exact hnm
  have hnd : x.name.data.toList.length ≤ 12 := hns
  by_cases hn0 : x.name.toList = []
  · obtain ⟨v0, v1, v2⟩ := hvar hn0
    have h1 : x.name.toList.isEmpty = true := by simp [hn0]
    have HB := Lib.hid (show strs (itemT varL x) = [⟨(varL x.var).toArray⟩] from by rw [itemT, if_pos hn0]; rfl)
    have HV := Lib.hid (iVarText x.var (w.alloc (.cells #[.int .i64 x.var, .string x.name, .int .i64 x.arity] 41)) v0 v1 (tab_below htab (Joins.below_alloc1 w _)))
    have hl := varL_len x.var v0 v1
    clear har hvar hn0 htab hx v2
    generalize varL x.var = t at *
    go_enter Tryd.func16, Tryd.ntmps16
    go_wp2_with (go_at_call 31; go_loud (refine HV.out.mono ?_); rintro e w1 ⟨rfl, hb⟩)
    go_ret
    refine ⟨_, rfl, ?_, ?_, (below_tr (Joins.below_alloc1 w _) hb).trans ((Joins.below_alloc1 w1 _).mono (by have := hb.size; simp at this; omega))⟩
    · rw [HB.out]
      exact lit_strs rfl rfl rfl (all1 (sz_ok _ (by omega))) (by simp; unfold maxLen; omega)
    · rw [HB.out]
      exact lit_own rfl (by have := hb.size; simp at this; omega) rfl rfl (by simp; unfold maxLen; omega)
  have h1 : x.name.toList.isEmpty = false := by simpa using hn0
  rcases har with h0 | har
  · have HB := Lib.hid (show strs (itemT varL x) = [x.name] from by rw [itemT, if_neg hn0, if_pos h0, pr_toList]; rfl)
    have t0 : (x.arity == 0) = true := by simpa using h0
    clear hvar hn0 h0 htab hx
    go_enter Tryd.func16, Tryd.ntmps16
    go_wp2
    go_ret
    refine ⟨_, rfl, ?_, ?_, Joins.below_alloc2 w _ _⟩
    · rw [HB.out]
      exact lit_strs (by simp) rfl rfl (by simp; unfold maxLen; omega) (by simp; unfold maxLen; omega)
    · rw [HB.out]
      exact lit_own (by simp) (by simp) rfl rfl (by simp; unfold maxLen; omega)
  have t0 : (x.arity == 0) = false := by simp; omega
  rcases har with h0 | h0
  · have HB := Lib.hid (show strs (itemT varL x) = [⟨#[40]⟩, ⟨(cat [⟨#[41, 32]⟩, x.name]).toArray⟩] from by rw [itemT, if_neg hn0, if_neg (by omega), if_pos h0, pr_toList]; simp [strs, cat])
    have t1 : (x.arity == 1) = true := by simpa using h0
    have hcl : (cat [⟨#[41, 32]⟩, x.name]).length ≤ 100 := by simp [cat]; omega
    have HJ := Lib.hid fun (W : World) (n : Nat) (hn : n = W.heap.size) => joined n 0 2 [⟨#[41, 32]⟩, x.name] (W.alloc (.cells #[.string ⟨#[41, 32]⟩, .string x.name] 9)) (strs_at _ _ _ _ _ hn rfl) (by simp [hn]) (by simp) (by simp) (by omega)
    clear hvar hn0 h0 htab hx
    generalize cat [⟨#[41, 32]⟩, x.name] = t at *
    go_enter Tryd.func16, Tryd.ntmps16
    go_wp2_with (go_at_call 30; go_loud (refine (HJ.out _ _ (by simp)).mono ?_); rintro e w1 ⟨rfl, hb⟩)
    go_ret
    refine ⟨_, rfl, ?_, ?_, (below_tr (Joins.below_alloc2 w _ _) hb).trans ((Joins.below_alloc1 w1 _).mono (by have := hb.size; simp at this; omega))⟩
    · rw [HB.out]
      exact lit_strs rfl rfl rfl (all2 (sz_ok [40] (by simp)) (sz_ok _ (by omega))) (by simp; unfold maxLen; omega)
    · rw [HB.out]
      exact lit_own rfl (by have := hb.size; simp at this; omega) rfl rfl (by simp; unfold maxLen; omega)
  have t1 : (x.arity == 1) = false := by simp; omega
  cases hab : arrowB x.name
  · have HB := Lib.hid (show strs (itemT varL x) = [⟨#[40]⟩, ⟨#[44, 32]⟩, ⟨(cat [⟨#[41, 32]⟩, x.name]).toArray⟩] from by rw [itemT, if_neg hn0, if_neg (by omega), if_neg (by omega), hab, pr_toList]; simp [strs, cat])
    have hcl : (cat [⟨#[41, 32]⟩, x.name]).length ≤ 100 := by simp [cat]; omega
    have HJ := Lib.hid fun (W : World) (n : Nat) (hn : n = W.heap.size) => joined n 0 2 [⟨#[41, 32]⟩, x.name] (W.alloc (.cells #[.string ⟨#[41, 32]⟩, .string x.name] 9)) (strs_at _ _ _ _ _ hn rfl) (by simp [hn]) (by simp) (by simp) (by omega)
    simp only [arrowB, Bool.or_eq_false_iff] at hab
    obtain ⟨q1, q2⟩ := hab
    clear hvar hn0 h0 htab hx
    generalize cat [⟨#[41, 32]⟩, x.name] = t at *
    go_enter Tryd.func16, Tryd.ntmps16
    go_wp2_with (go_at_call 30; go_loud (refine (HJ.out _ _ (by simp)).mono ?_); rintro e w1 ⟨rfl, hb⟩)
    go_ret
    refine ⟨_, rfl, ?_, ?_, (below_tr (Joins.below_alloc2 w _ _) hb).trans ((Joins.below_alloc1 w1 _).mono (by have := hb.size; simp at this; omega))⟩
    · rw [HB.out]
      exact lit_strs rfl rfl rfl (all3 (sz_ok [40] (by simp)) (sz_ok [44, 32] (by simp)) (sz_ok _ (by omega))) (by simp; unfold maxLen; omega)
    · rw [HB.out]
      exact lit_own rfl (by have := hb.size; simp at this; omega) rfl rfl (by simp; unfold maxLen; omega)
  · have HB := Lib.hid (show strs (itemT varL x) = [⟨#[40]⟩, ⟨(cat [⟨#[32]⟩, x.name, ⟨#[32]⟩]).toArray⟩, ⟨#[41]⟩] from by rw [itemT, if_neg hn0, if_neg (by omega), if_neg (by omega), hab, pr_toList]; simp [strs, cat])
    have hcl : (cat [⟨#[32]⟩, x.name, ⟨#[32]⟩]).length ≤ 100 := by simp [cat]; omega
    have HJ := Lib.hid fun (W : World) (n : Nat) (hn : n = W.heap.size) => joined n 0 3 [⟨#[32]⟩, x.name, ⟨#[32]⟩] (W.alloc (.cells #[.string ⟨#[32]⟩, .string x.name, .string ⟨#[32]⟩] 9)) (strs_at _ _ _ _ _ hn rfl) (by simp [hn]) (by simp) (by simp) (by omega)
    simp only [arrowB, Bool.or_eq_true] at hab
    generalize cat [⟨#[32]⟩, x.name, ⟨#[32]⟩] = t at *
    by_cases q1 : (x.name.toList == [45, 62]) = true
    all_goals
      first
      | (have q1' : (x.name.toList == [45, 62]) = true := q1
         clear hab)
      | (have q2 : (x.name.toList == [42]) = true := hab.resolve_left q1
         have q1' : (x.name.toList == [45, 62]) = false := by simpa using q1
         clear hab q1)
      clear hvar hn0 h0 htab hx
      go_enter Tryd.func16, Tryd.ntmps16
      go_wp2_with (go_at_call 30; go_loud (refine (HJ.out _ _ (by simp)).mono ?_); rintro e w1 ⟨rfl, hb⟩)
      go_ret
      refine ⟨_, rfl, ?_, ?_, (below_tr (Joins.below_alloc2 w _ _) hb).trans ((Joins.below_alloc1 w1 _).mono (by have := hb.size; simp at this; omega))⟩
      · rw [HB.out]
        exact lit_strs rfl rfl rfl (all3 (sz_ok [40] (by simp)) (sz_ok _ (by omega)) (sz_ok [41] (by simp))) (by simp; unfold maxLen; omega)
      · rw [HB.out]
        exact lit_own rfl (by have := hb.size; simp at this; omega) rfl rfl (by simp; unfold maxLen; omega)
end Go.Proofs.YtdgadjikdnmnoaaDoor
