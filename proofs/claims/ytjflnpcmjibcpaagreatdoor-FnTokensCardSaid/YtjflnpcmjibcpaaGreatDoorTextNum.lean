/- Contracts of TextNum: the program's, by the library's Atoi, and the model's, digit after digit. -/
import Derived.Test.YtjflnpcmjibcpaaGreatDoorDigits
import Derived.Test.YtjflnpcmjibcpaaGreatDoorDecMath
import Derived.Lib.AtoiErrMem
namespace Go.Proofs.YtjflnpcmjibcpaaGreatDoor
set_option linter.unusedVariables false
open Go.ChangeShapes Go.WideShapes Go.ChangeAt Go.RowKit

/-- s is the numeral of the number v. -/
def TN (s : ByteArray) (v : Int) : Prop := W v = v ∧ Lib.itoa v = s.data.toList
/-- What the start of the call knows of the library's variables. -/
structure Vars (w : World) : Prop where
  tab : Lib.TabIs Tryz.prog w "internal/strconv.uint64pow10" .u64 Lib.pow10Tab
  syn : ∃ tp p, w.var? Tryz.prog "strconv.ErrSyntax" = some #[.iface tp p]
  ran : ∃ tp p, w.var? Tryz.prog "strconv.ErrRange" = some #[.iface tp p]
theorem Vars.below {w w' : World} (h : Vars w) (hb : Below w.heap.size w w') : Vars w' :=
  ⟨tab_below h.tab hb, by obtain ⟨t, p, e⟩ := h.syn; exact ⟨t, p, var_below e hb⟩, by obtain ⟨t, p, e⟩ := h.ran; exact ⟨t, p, var_below e hb⟩⟩

theorem eq_list (a : List UInt8) (s : ByteArray) : (a == s.toList) = decide (a = s.data.toList) := by
  rw [ByteArray.toList_eq, Bool.beq_eq_decide_eq]
theorem bytes_or {w w1 : World} {T : TypeId} (h : w1 = w ∨ ∃ t, w1 = Lib.bytesWorld w T t) : Below w.heap.size w w1 := by
  rcases h with rfl | ⟨t, rfl⟩
  · exact Below.refl _ _
  · exact Lib.bytesWorld_below _ _ _
theorem iTextNum_yes (s : ByteArray) (v : Int) (w : World) (hs : s.size ≤ 1048576) (hV : Vars w) (h : TN s v) :
    Calls Tryz.prog 47 #[.string s] w fun e w' => e = .returned (.tuple #[.int .i64 v, .bool true]) ∧ Below w.heap.size w w' := by
  have hr := W_range v
  rw [h.1] at hr
  have ha : Lib.atoiAll s.data.toList = .ok v := by rw [← h.2]; exact atoi_itoa v hr
  have hn : numL v = s.data.toList := by rw [numL, if_pos h.1]; exact h.2
  have ht : (numL v == s.toList) = true := by rw [eq_list]; simpa using hn
  have HA := Lib.hid ha
  have hb64 : -9223372036854775808 ≤ v ∧ v ≤ 9223372036854775807 := by omega
  clear ha hn h
  go_enter Tryz.func47, Tryz.ntmps47
  go_wp2_with fail
  refine (Any.strconv_Atoi_ok Tryz.laysC172 s (by omega) v HA.out _).mono ?_
  rintro e w1 ⟨rfl, hw⟩
  have hb1 := bytes_or hw
  clear hw
  go_wp2_with fail
  refine (iNumText _ _ hb64 (hV.below hb1).tab).mono ?_
  rintro e w2 ⟨rfl, hg2⟩
  go_wp2
  go_ret2
  exact ⟨rfl, hb1.trans (hg2.mono hb1.size)⟩
theorem iTextNum_no (s : ByteArray) (w : World) (hs : s.size ≤ 1048576) (hV : Vars w) (h : ∀ v, ¬ TN s v) :
    Calls Tryz.prog 47 #[.string s] w fun e w' => e = .returned (.tuple #[.int .i64 0, .bool false]) ∧ Below w.heap.size w w' := by
  cases ha : Lib.atoiAll s.data.toList
  · rename_i v
    have hl : s.data.toList ≠ [] := by intro e; rw [e] at ha; cases ha
    have hb64 : -9223372036854775808 ≤ v ∧ v ≤ 9223372036854775807 := atoi_range _ _ ha
    have ht : (numL v == s.toList) = false := by
      rw [eq_list]
      simp only [decide_eq_false_iff_not]
      intro e
      unfold numL at e
      split at e
      · rename_i hw; exact h v ⟨hw, e⟩
      · exact hl e.symm
    have HA := Lib.hid ha
    clear ha h
    go_enter Tryz.func47, Tryz.ntmps47
    go_wp2_with fail
    refine (Any.strconv_Atoi_ok Tryz.laysC172 s (by omega) v HA.out _).mono ?_
    rintro e w1 ⟨rfl, hw⟩
    have hb1 := bytes_or hw
    clear hw
    go_wp2_with fail
    refine (iNumText _ _ hb64 (hV.below hb1).tab).mono ?_
    rintro e w2 ⟨rfl, hg2⟩
    go_wp2
    go_ret2
    exact ⟨rfl, hb1.trans (hg2.mono hb1.size)⟩
  · obtain ⟨tp, p, hv⟩ := hV.syn
    have HA := Lib.hid ha
    clear ha h
    go_enter Tryz.func47, Tryz.ntmps47
    go_wp2_with fail
    refine (Any.strconv_Atoi_syntax_var Tryz.laysC172 s (by omega) HA.out tp p _ hv).mono ?_
    rintro e w1 ⟨N, rfl, _, _, hb1⟩
    go_wp2
    go_ret2
    exact ⟨rfl, hb1⟩
  · obtain ⟨tp, p, hv⟩ := hV.ran
    have HA := Lib.hid ha
    clear ha h
    go_enter Tryz.func47, Tryz.ntmps47
    go_wp2_with fail
    refine (Any.strconv_Atoi_range_var Tryz.laysC172 s (by omega) HA.out tp p _ hv).mono ?_
    rintro e w1 ⟨N, rfl, _, _, hb1⟩
    go_wp2
    go_ret2
    exact ⟨rfl, hb1⟩

theorem byte_bd2 (c : UInt8) : 0 ≤ (c.toNat : Int) ∧ (c.toNat : Int) ≤ 255 := by have := c.toNat_lt; omega
theorem sTextNum_len (s : ByteArray) (w : World) (h : ¬ (1 ≤ s.size ∧ s.size ≤ 20)) (hs : s.size ≤ 1048576) :
    Calls Tryz.prog 20 #[.string s] w fun e w' => e = .returned (.tuple #[.int .i64 0, .bool false]) ∧ Below w.heap.size w w' := by
  by_cases h1 : 1 ≤ s.size
  · have h2 : ¬ s.size ≤ 20 := fun h2 => h ⟨h1, h2⟩
    clear h
    go_enter Tryz.func20, Tryz.ntmps20
    go_wp2
    go_ret2
    exact ⟨rfl, Below.refl _ _⟩
  · clear h
    go_enter Tryz.func20, Tryz.ntmps20
    go_wp2
    go_ret2
    exact ⟨rfl, Below.refl _ _⟩
theorem num_no (s : ByteArray) (h0 : 1 ≤ s.size) (h : ∀ v, ¬ TN s v) (n : Int) : (numL n == s.toList) = false := by
  rw [eq_list]
  simp only [decide_eq_false_iff_not]
  intro e
  unfold numL at e
  split at e
  · rename_i hw; exact h n ⟨hw, e⟩
  · have := congrArg List.length e
    have hl : s.data.toList.length = s.size := rfl
    simp at this; omega
set_option maxRecDepth 100000 in
set_option maxHeartbeats 1000000 in
theorem sTextNum_no (s : ByteArray) (w : World) (h1 : 1 ≤ s.size) (h2 : s.size ≤ 20) (h : ∀ v, ¬ TN s v) :
    Calls Tryz.prog 20 #[.string s] w fun e w' => e = .returned (.tuple #[.int .i64 0, .bool false]) ∧ Below w.heap.size w w' := by
  have hno := num_no s h1 h
  have HN := Lib.hid hno
  clear hno h
  have hb0 := byte_bd2 s[0]
  go_enter Tryz.func20, Tryz.ntmps20
  go_wp2
  go_loop [4, 5] (fun n i => ∃ k : Nat, ∃ x : Int, k ≤ s.size ∧ i = .int .i64 k ∧ n = .int .i64 x ∧ 0 ≤ x ∧ x ≤ 5000000000000000009) (fun _ i => s.size - (intOf i).toNat)
  case atStart => exact ⟨0, 0, Nat.zero_le _, rfl, rfl, by omega, by omega⟩
  case round =>
    obtain ⟨k, x, hk, rfl, rfl, hx0, hx1⟩ := hrel
    by_cases hlt : k < s.size
    · have hbk := byte_bd2 s[k]
      go_wp2
      all_goals
        first
        | (go_ret2; exact ⟨rfl, Below.refl _ _⟩)
        | (go_round
           case rel => exact ⟨k + 1, _, by omega, by go_num, rfl, by omega, by omega⟩
           case measure => simp [intOf]; omega)
        | (go_round
           case rel => exact ⟨1, _, by omega, by go_num, rfl, by omega, by omega⟩
           case measure => simp [intOf]; omega)
    · obtain rfl : k = s.size := by omega
      go_wp2_with (go_at_call 40; refine (sNumText _ _ (by omega)).mono ?_; rintro e w1 ⟨rfl, hb⟩; have hn := HN.out x; have hn2 := HN.out (-x))
      all_goals
        go_ret2
        exact ⟨rfl, hb⟩
theorem size_list (s : ByteArray) : s.data.toList.length = s.size := rfl
theorem get_list (s : ByteArray) (k : Nat) (h : k < s.size) : s.data.toList[k]'(by rw [size_list]; exact h) = s[k] := by simp [ByteArray.getElem_eq_getElem_data]
theorem take_snoc (s : ByteArray) (k : Nat) (h : k < s.size) : s.data.toList.take (k + 1) = s.data.toList.take k ++ [s[k]] := by
  rw [List.take_succ_eq_append_getElem (by simpa using h)]; rfl
/-- What the model reads of a numeral: the sign's width d, and the digits behind it. -/
structure Spelt (s : ByteArray) (v : Int) (d : Nat) : Prop where
  d1 : d ≤ 1
  size : d < s.size
  le20 : s.size ≤ 20
  sign : ∀ h : 0 < s.size, ((s[0].toNat : Int) = 45) ↔ d = 1
  dig : ∀ k (h : k < s.size), d ≤ k → 48 ≤ (s[k].toNat : Int) ∧ (s[k].toNat : Int) ≤ 57
  val : ((decV 0 (s.data.toList.drop d) : Nat) : Int) = if d = 1 then -v else v
theorem nDigits_le : ∀ (k u : Nat), u < 10 ^ (k + 1) → Lib.nDigits u ≤ k + 1
  | 0, u, h => by rw [Lib.nDigits_small (by simpa using h)]; omega
  | k + 1, u, h => by
    by_cases h10 : u < 10
    · rw [Lib.nDigits_small h10]; omega
    · rw [Lib.nDigits_big h10]
      have := nDigits_le k (u / 10) (by rw [Nat.pow_succ] at h; omega)
      omega
theorem digits_len19 (u : Nat) (h : u < 10000000000000000000) : (Lib.decDigits u).length ≤ 19 := by
  rw [Lib.decDigits_length]; exact nDigits_le 18 u (by simpa using h)
theorem spelt_of (s : ByteArray) (v : Int) (h : TN s v) : ∃ d, Spelt s v d := by
  have hr := W_range v
  rw [h.1] at hr
  have hl := h.2
  have hget : ∀ k (hk : k < s.size), s.data.toList[k]? = some s[k] := fun k hk => by
    rw [List.getElem?_eq_getElem (by rw [size_list]; exact hk), get_list s k hk]
  unfold Lib.itoa at hl
  by_cases hn : v < 0
  · rw [if_pos hn] at hl
    have hlen := digits_len19 v.natAbs (by omega)
    have hsz : s.size = (Lib.decDigits v.natAbs).length + 1 := by rw [← size_list, ← hl]; simp
    have hpos : 0 < (Lib.decDigits v.natAbs).length := List.length_pos_iff.2 (digits_ne v.natAbs)
    rw [← hl] at hget
    refine ⟨1, by omega, by omega, by omega, fun h0 => ?_, fun k hk hd => ?_, ?_⟩
    · have := hget 0 h0
      simp only [List.getElem?_cons_zero, Option.some.injEq] at this
      rw [← this]; simp
    · have := hget k hk
      obtain ⟨j, rfl⟩ : ∃ j, k = j + 1 := ⟨k - 1, by omega⟩
      rw [List.getElem?_cons_succ] at this
      have hm := digits_dig v.natAbs _ (List.mem_of_getElem? this)
      unfold isDig at hm; omega
    · rw [← hl, if_pos rfl, List.drop_one, List.tail_cons, decV_digits]; omega
  · rw [if_neg hn] at hl
    have hlen := digits_len v.toNat (by omega)
    have hsz : s.size = (Lib.decDigits v.toNat).length := by rw [← size_list, ← hl]
    have hpos : 0 < (Lib.decDigits v.toNat).length := List.length_pos_iff.2 (digits_ne v.toNat)
    rw [← hl] at hget
    have hdig : ∀ k (hk : k < s.size), 48 ≤ (s[k].toNat : Int) ∧ (s[k].toNat : Int) ≤ 57 := fun k hk => by
      have hm := digits_dig v.toNat _ (List.mem_of_getElem? (hget k hk))
      unfold isDig at hm; omega
    refine ⟨0, by omega, by omega, by omega, fun h0 => ?_, fun k hk _ => hdig k hk, ?_⟩
    · have := hdig 0 h0; constructor
      · intro e; omega
      · intro e; cases e
    · rw [← hl, if_neg (by decide), List.drop_zero, decV_digits]; omega
theorem step_val (s : ByteArray) (d k : Nat) (hk : k < s.size) (hd : d ≤ k) (hc : 48 ≤ (s[k].toNat : Int)) :
    ((decV 0 ((s.data.toList.take k).drop d) : Nat) : Int) * 10 + ((s[k].toNat : Int) - 48) = ((decV 0 ((s.data.toList.take (k + 1)).drop d) : Nat) : Int) := by
  rw [take_snoc s k hk, List.drop_append_of_le_length (by simp; omega), decV_snoc]; omega
theorem val_small (s : ByteArray) (v : Int) (d k : Nat) (hS : Spelt s v d) (hk : k < s.size) (hd : d ≤ k) (hv : -4611686018427387904 ≤ v ∧ v ≤ 4611686018427387903) :
    ((decV 0 ((s.data.toList.take k).drop d) : Nat) : Int) ≤ 500000000000000000 := by
  have h1 : (s.data.toList.take k).drop d = (s.data.toList.drop d).take (k - d) := by rw [List.drop_take]
  have h2 := decV_take (s.data.toList.drop d) (k - d) (by rw [List.length_drop, size_list]; omega)
  have h3 := hS.val
  rw [h1]
  split at h3 <;> omega
set_option maxRecDepth 100000 in
set_option maxHeartbeats 1000000 in
theorem sTextNum_yes (s : ByteArray) (v : Int) (w : World) (h : TN s v) :
    Calls Tryz.prog 20 #[.string s] w fun e w' => e = .returned (.tuple #[.int .i64 v, .bool true]) ∧ Below w.heap.size w w' := by
  have hr := W_range v
  rw [h.1] at hr
  have hn : numL v = s.data.toList := by rw [numL, if_pos h.1]; exact h.2
  have ht : (numL v == s.toList) = true := by rw [eq_list]; simpa using hn
  obtain ⟨d, hS⟩ := spelt_of s v h
  clear hn h
  have h1 : 1 ≤ s.size := by have := hS.size; omega
  have h2 := hS.le20
  have hd1 := hS.d1
  have hsg := hS.sign h1
  have hval := Lib.hid hS.val
  have HS := Lib.hid hS
  clear hS
  have hd : d = 0 ∨ d = 1 := by omega
  have t45 : ((s[0].toNat : Int) == 45) = decide (d = 1) := by rw [Bool.beq_eq_decide_eq]; simpa using hsg
  clear hsg
  go_enter Tryz.func20, Tryz.ntmps20
  go_wp2
  go_loop [4, 5] (fun n i => ∃ k : Nat, k ≤ s.size ∧ i = .int .i64 k ∧ n = .int .i64 ((decV 0 ((s.data.toList.take k).drop d) : Nat) : Int)) (fun _ i => s.size - (intOf i).toNat)
  case atStart => exact ⟨0, Nat.zero_le _, rfl, by simp [decV]⟩
  case round =>
    obtain ⟨k, hk, rfl, rfl⟩ := hrel
    by_cases hlt : k < s.size
    · by_cases hdk : d ≤ k
      · have hdg := HS.out.dig k hlt hdk
        have hsm := val_small s v d k HS.out hlt hdk hr
        have hst := Lib.hid (step_val s d k hlt hdk hdg.1)
        obtain ⟨x, hx⟩ : ∃ x : Nat, x = decV 0 ((s.data.toList.take k).drop d) := ⟨_, rfl⟩
        rw [← hx] at hsm hst ⊢
        have HX := Lib.hid hx
        clear hx
        by_cases hk0 : k = 0
        · subst hk0
          have t45' : ((s[0].toNat : Int) == 45) = false := by rw [t45]; simp; omega
          clear t45
          go_wp2
          go_round
          case rel => exact ⟨1, by omega, by go_num, by rw [← hst.out]⟩
          case measure => simp [intOf]; omega
        · clear t45
          go_wp2
          go_round
          case rel => exact ⟨k + 1, by omega, by go_num, by rw [← hst.out]⟩
          case measure => simp [intOf]; omega
      · obtain rfl : k = 0 := by omega
        obtain rfl : d = 1 := by omega
        have t45' : ((s[0].toNat : Int) == 45) = true := by rw [t45]; rfl
        clear t45
        go_wp2
        go_round
        case rel => exact ⟨1, by omega, by go_num, by simp [decV]⟩
        case measure => simp [intOf]; omega
    · obtain rfl : k = s.size := by omega
      have hv : (decV 0 ((s.data.toList.take s.size).drop d) : Int) = if d = 1 then -v else v := by
        rw [List.take_of_length_le (Nat.le_of_eq (size_list s))]; exact hval.out
      obtain ⟨x, hx⟩ : ∃ x : Int, x = (decV 0 ((s.data.toList.take s.size).drop d) : Int) := ⟨_, rfl⟩
      rw [← hx] at hv ⊢
      clear hx
      rcases hd with rfl | rfl
      · rw [if_neg (by decide)] at hv
        subst hv
        have t45' : ((s[0].toNat : Int) == 45) = false := by rw [t45]; rfl
        clear t45
        go_wp2_with (go_at_call 40; refine (sNumText _ _ (by omega)).mono ?_; rintro e w1 ⟨rfl, hb⟩)
        go_ret2
        exact ⟨rfl, hb⟩
      · rw [if_pos rfl] at hv
        subst hv
        have t45' : ((s[0].toNat : Int) == 45) = true := by rw [t45]; rfl
        clear t45
        go_wp2_with (go_at_call 40; refine (sNumText _ _ (by omega)).mono ?_; rintro e w1 ⟨rfl, hb⟩)
        go_ret2
        exact ⟨rfl, hb⟩
end Go.Proofs.YtjflnpcmjibcpaaGreatDoor
