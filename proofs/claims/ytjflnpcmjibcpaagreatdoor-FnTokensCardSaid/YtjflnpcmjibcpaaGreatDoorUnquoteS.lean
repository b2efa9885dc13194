/- The model's Unquote. -/
import Derived.Test.YtjflnpcmjibcpaaGreatDoorUnquoteI
import Derived.Test.YtjflnpcmjibcpaaGreatDoorRegionOwn
import Derived.Deep.QuietTactic
namespace Go.Proofs.YtjflnpcmjibcpaaGreatDoor
set_option linter.unusedVariables false
set_option maxRecDepth 100000
open Go.ChangeShapes Go.WideShapes Go.ChangeAt Go.RowKit

def HalfV (b x : Int) : Prop := 0 ≤ x ∧ x < 16 ∧ ∀ d : Nat, d < 16 → b = hexI d → x = d
theorem hexI_inj (a b : Nat) (ha : a < 16) (hb : b < 16) (h : hexI a = hexI b) : a = b := by
  unfold hexI at h; split at h <;> split at h <;> omega
def halfI (b : Int) : Int := match (List.range 16).find? (fun d : Nat => hexI (d : Int) == b) with | some d => (d : Int) | none => 0
theorem half_val (b : Int) : HalfV b (halfI b) := by
  unfold halfI
  cases h : (List.range 16).find? (fun d : Nat => hexI (d : Int) == b) with
  | none =>
    refine ⟨by simp, by simp, fun d hd e => ?_⟩
    have := List.find?_eq_none.1 h d (by simp; exact hd)
    simp [e] at this
  | some k =>
    have hk := List.mem_of_find?_eq_some h
    have hp := List.find?_some h
    simp only [List.mem_range] at hk
    simp only [beq_iff_eq] at hp
    refine ⟨by simp, by simp; omega, fun d hd e => by rw [hexI_inj k d hk hd (by rw [hp, e])]⟩
theorem half_zero (b : Int) (h : ∀ d : Nat, d < 16 → hexI d ≠ b) : halfI b = 0 := by
  unfold halfI
  have : (List.range 16).find? (fun d : Nat => hexI (d : Int) == b) = none := by
    rw [List.find?_eq_none]; intro d hd; simp only [List.mem_range] at hd; simpa using h d hd
  rw [this]
theorem l01Half (b : Int) (w : World) (hb : 0 ≤ b ∧ b ≤ 255) :
    Calls Tryz.prog 44 #[.int .u8 b] w fun e w' => e = .returned (.int .i64 (halfI b)) ∧ w = w' := by
  go_enter Tryz.func44, Tryz.ntmps44
  go_wp2
  go_loop [3] (fun d => ∃ k : Nat, k ≤ 16 ∧ d = .int .i64 k ∧ Hid (∀ j : Nat, j < k → hexI j ≠ b)) (fun d => 16 - (intOf d).toNat)
  case atStart => exact ⟨0, by omega, rfl, fun j hj => by omega⟩
  case round =>
    obtain ⟨k, hk, rfl, hno⟩ := hrel
    by_cases hlt : k < 16
    · by_cases he : hexI k = b
      · have HV : Hid (halfI b = k) := (half_val b).2.2 k hlt he.symm
        have t1 : (hexI k == b) = true := by simpa using he
        clear he hno
        go_wp2_with (go_at_call 55; refine (l01Hex _ _ (by omega)).mono ?_; rintro e w' ⟨rfl, rfl⟩)
        go_ret
        exact ⟨by rw [HV.out]; rfl, rfl⟩
      · have HN : Hid (∀ j : Nat, j < k + 1 → hexI j ≠ b) := fun j hj => by
          by_cases h : j = k
          · subst h; exact he
          · exact hno.out j (by omega)
        have t1 : (hexI k == b) = false := by simpa using he
        clear he hno
        go_wp2_with (go_at_call 55; refine (l01Hex _ _ (by omega)).mono ?_; rintro e w' ⟨rfl, rfl⟩)
        go_round
        case rel => exact ⟨k + 1, by omega, by go_num, HN⟩
        case measure => simp [intOf]; omega
    · obtain rfl : k = 16 := by omega
      have HV : Hid (halfI b = 0) := half_zero b hno.out
      clear hno
      go_wp2
      go_ret
      exact ⟨by rw [HV.out]; rfl, rfl⟩

theorem index_at (s : ByteArray) (i : Int) (j : Nat) (hj : j < s.size) (hi : i = j) (W : World) :
    (Instr.index 9 (.string s) (.int .i64 i)).run Tryz.prog W = .ok (.int .u8 (s[j].toNat : Int)) W := by
  subst hi
  have := run_index_string (P := Tryz.prog) W 9 s .i64 (j : Int) Tryz.underlying9
  simpa [hj] using this
/-- What the loop of the model's Unquote holds at a round's head: p is the index, t what has been read. -/
def InnerAt (s : ByteArray) (p : Nat) (t : List UInt8) : Prop := Val (innerOf s).data.toList (p - 1) t
theorem inner_get (s : ByteArray) (p : Nat) (h1 : 1 ≤ p) (h : p < s.size) (h' : p + 1 < s.size) : (innerOf s).data.toList[p - 1]? = some s[p] := by
  rw [inner_list, List.getElem?_take_of_lt (by omega), List.getElem?_drop, show 1 + (p - 1) = p by omega, get_some s p h]
theorem inner_len (s : ByteArray) (h2 : 2 ≤ s.size) : (innerOf s).data.toList.length = s.size - 2 := by
  rw [inner_list, List.length_take, List.length_drop, size_list]; omega
theorem at_plain (s : ByteArray) (p : Nat) (t : List UInt8) (h1 : 1 ≤ p) (h : p < s.size) (h' : p + 1 < s.size) (hA : InnerAt s p t) (hb : ¬ (s[p].toNat : Int) = 92) : InnerAt s (p + 1) (t ++ [s[p]]) := by
  have := read_plain _ t (p - 1) _ hA (inner_get s p h1 h h') (by omega)
  unfold InnerAt; rw [show p + 1 - 1 = p - 1 + 1 by omega]; exact this
theorem at_two (s : ByteArray) (p : Nat) (t : List UInt8) (b : UInt8) (h1 : 1 ≤ p) (h : p < s.size) (h' : p + 1 < s.size) (hA : InnerAt s p t) (hb : (s[p].toNat : Int) = 92)
    (hd : ((s[p + 1].toNat : Int) = 110 ∧ (b.toNat : Int) = 10) ∨ (¬ (s[p + 1].toNat : Int) = 110 ∧ b = s[p + 1])) (hx : (s[p + 1].toNat : Int) = 120 → s.size ≤ p + 3) : InnerAt s (p + 2) (t ++ [b]) := by
  have hl := inner_len s (by omega)
  unfold InnerAt at hA ⊢
  rw [show p + 2 - 1 = p - 1 + 2 by omega]
  have g0 := inner_get s p h1 h h'
  by_cases he : p + 2 < s.size
  · have g1 := inner_get s (p + 1) (by omega) h' (by omega)
    rw [show p + 1 - 1 = p - 1 + 1 by omega] at g1
    by_cases h3 : (s[p + 1].toNat : Int) = 120
    · exact read_bad _ t (p - 1) 2 _ b hA g0 (by omega) (.inr ⟨_, g1, by omega, by have := hx h3; omega⟩)
    · refine read_two _ t (p - 1) _ _ b hA g0 (by omega) g1 ?_ (fun e => by omega)
      rcases hd with ⟨a, c⟩ | ⟨a, c⟩
      · exact .inl ⟨by omega, by omega⟩
      · exact .inr ⟨by omega, c⟩
  · exact read_bad _ t (p - 1) 2 _ b hA g0 (by omega) (.inl (by omega))
theorem at_four (s : ByteArray) (p : Nat) (t : List UInt8) (b x y : Int) (h1 : 1 ≤ p) (h : p < s.size) (h' : p + 1 < s.size) (hp3 : p + 3 < s.size) (hA : InnerAt s p t) (hb : (s[p].toNat : Int) = 92)
    (hd : (s[p + 1].toNat : Int) = 120) (hx : HalfV (s[p + 2].toNat : Int) x) (hy : HalfV (s[p + 3].toNat : Int) y) (hbv : b = 16 * x + y) : InnerAt s (p + 4) (t ++ [u8 b]) := by
  have hl := inner_len s (by omega)
  have hb8 := u8_toNat b (by have := hx.1; have := hx.2.1; have := hy.1; have := hy.2.1; omega)
  unfold InnerAt at hA ⊢
  rw [show p + 4 - 1 = p - 1 + 4 by omega]
  have g0 := inner_get s p h1 h h'
  have g1 := inner_get s (p + 1) (by omega) h' (by omega)
  rw [show p + 1 - 1 = p - 1 + 1 by omega] at g1
  by_cases he : p + 4 < s.size
  · have g2 := inner_get s (p + 2) (by omega) (by omega) (by omega)
    have g3 := inner_get s (p + 3) (by omega) (by omega) (by omega)
    rw [show p + 2 - 1 = p - 1 + 2 by omega] at g2
    rw [show p + 3 - 1 = p - 1 + 3 by omega] at g3
    refine read_four _ t (p - 1) _ _ _ hA g0 (by omega) g1 (by omega) fun hi lo q1 q2 e1 e2 => ?_
    rw [g2] at e1
    rw [g3] at e2
    injection e1 with e1
    injection e2 with e2
    have r1 := hx.2.2 hi q1 (by rw [e1, hexB_toNat hi q1])
    have r2 := hy.2.2 lo q2 (by rw [e2, hexB_toNat lo q2])
    omega
  · exact read_bad _ t (p - 1) 4 _ _ hA g0 (by omega) (.inr ⟨_, g1, by omega, by omega⟩)
set_option maxRecDepth 100000 in
set_option maxHeartbeats 2000000 in
theorem sUnquote_loop (s : ByteArray) (w : World) (hs : s.size ≤ 1048576) (h2 : 2 ≤ s.size) :
    Calls Tryz.prog 23 #[.string s] w fun e w' => ∃ t : List UInt8, t.length ≤ s.size ∧ (∀ l, (innerOf s).data.toList = l.flatMap qb → t = l) ∧
      e = .returned (.tuple #[.string ⟨(if quoteL t = s.data.toList then t else []).toArray⟩, .bool (decide (quoteL t = s.data.toList))]) ∧ Below w.heap.size w w' := by
  obtain ⟨i0, hi, hz0, hz1, hz2⟩ := info_parts info_u8
  go_enter Tryz.func23, Tryz.ntmps23
  go_wp2
  go_loopw [4, 5] (fun v i wr => ∃ p : Nat, ∃ t : List UInt8, 1 ≤ p ∧ p ≤ s.size ∧ i = .int .i64 p ∧ wr.ownsRow w.heap.size 5 1 v t.length (bc t) ∧ v ≠ .slice none 0 0 ∧ t.length ≤ p - 1 ∧ Hid (InnerAt s p t) ∧ Below w.heap.size w wr ∧ w.heap.size ≤ wr.heap.size)
    (fun _ i _ => s.size - (intOf i).toNat)
  case atStart =>
    exact ⟨1, [], Nat.le_refl _, by omega, rfl, World.ownsRow_lit w #[] 0 (Nat.le_refl _) (by decide) rfl, by simp, Nat.zero_le _, val_start _, (Below.refl _ _).alloc (Nat.le_refl _) _, by simp⟩
  case round =>
    obtain ⟨p, t, hp1, hps, rfl, hown, hne, htk, hval, hbel, hBs⟩ := hrel
    by_cases hlt : p + 1 < s.size
    · have hpp : p < s.size := by omega
      have hkb := byte_bd2 s[p]
      by_cases h92 : (s[p].toNat : Int) = 92
      · have H92 := Lib.hid h92
        have t1 : ((s[p].toNat : Int) != 92) = false := by simpa using h92
        clear h92
        have hkb1 := byte_bd2 s[p + 1]
        by_cases h110 : (s[p + 1].toNat : Int) = 110
        · have HA : Hid (InnerAt s (p + 2) (t ++ [10])) := at_two s p t 10 hp1 hpp hlt hval.out H92.out (.inl ⟨h110, rfl⟩) (fun e => by omega)
          have t2 : ((s[p + 1].toNat : Int) == 110) = true := by simpa using h110
          clear h110 hval
          go_wp2_with (first
            | (at_builtin; refine wpList_append_own _ rfl (.tmp 30) (.tmp 31) 22 rfl w.heap.size 5 i0 (.int .u8 0) 1 1 Tryz.underlying22 hi hz0 hz1 hz2 rfl (by decide) _ t.length (bc t) rfl (hown.alloc _) ⟨wr.heap.size, 0, none⟩ 1 1 [.int .u8 10] rfl rfl (new_cells _ _ _ _ rfl) (bc_one [10]) (by unfold maxLen; omega) (by omega) (by simp; omega) ?_; intro v' w2 hown' hgrow _))
          have R := own_app hown hbel (Nat.le_refl _) hBs hgrow
          have O := own_bytes rfl rfl (l' := [10]) rfl rfl hown'
          have hne' := own_ne O (by simp)
          clear hown hown' hgrow hbel
          go_roundw
          case rel => exact ⟨p + 2, _, by omega, by omega, by go_num, O, hne', by simp; omega, HA, R.1, R.2⟩
          case measure => simp [intOf]; omega
        · have H110 := Lib.hid h110
          have t2 : ((s[p + 1].toNat : Int) == 110) = false := by simpa using h110
          clear h110
          by_cases h120 : (s[p + 1].toNat : Int) = 120 ∧ p + 3 < s.size
          · obtain ⟨h120a, hp3⟩ := h120
            have H120 := Lib.hid h120a
            have t3 : ((s[p + 1].toNat : Int) == 120) = true := by simpa using h120a
            clear h120a
            have hkb2 := byte_bd2 s[p + 2]
            have hkb3 := byte_bd2 s[p + 3]
            have hx := half_val (s[p + 2].toNat : Int)
            have hy := half_val (s[p + 3].toNat : Int)
            obtain ⟨x, hxx⟩ : ∃ x, x = halfI (s[p + 2].toNat : Int) := ⟨_, rfl⟩
            obtain ⟨y, hyy⟩ : ∃ y, y = halfI (s[p + 3].toNat : Int) := ⟨_, rfl⟩
            have hcx : ∀ W : World, Calls Tryz.prog 44 #[.int .u8 (s[p + 2].toNat : Int)] W fun e w' => e = .returned (.int .i64 x) ∧ W = w' := fun W => by rw [hxx]; exact l01Half _ W hkb2
            have hcy : ∀ W : World, Calls Tryz.prog 44 #[.int .u8 (s[p + 3].toNat : Int)] W fun e w' => e = .returned (.int .i64 y) ∧ W = w' := fun W => by rw [hyy]; exact l01Half _ W hkb3
            rw [← hxx] at hx
            rw [← hyy] at hy
            have HX := Lib.hid hx
            have HY := Lib.hid hy
            obtain ⟨hx0, hx1, _⟩ := hx
            obtain ⟨hy0, hy1, _⟩ := hy
            clear hxx hyy
            have HA : Hid (InnerAt s (p + 4) (t ++ [Go.Proofs.YtjflnpcmjibcpaaGreatDoor.u8 (16 * x + y)])) := at_four s p t _ x y hp1 hpp hlt hp3 hval.out H92.out H120.out HX.out HY.out rfl
            clear hval
            have e1 : IntKind.i64.wrap (16 * x) = 16 * x := IntWalk.i64_in _ (by omega)
            have e2 : IntKind.i64.wrap (16 * x + y) = 16 * x + y := IntWalk.i64_in _ (by omega)
            have e3 : IntKind.u8.wrap (16 * x + y) = 16 * x + y := IntWalk.u8_in _ (by omega)
            have f1 : IntKind.i64.wrap ((p : Int) + 1 + 1) = (p : Int) + 1 + 1 := IntWalk.i64_in _ (by omega)
            have f2 : IntKind.i64.wrap ((p : Int) + 1 + 2) = (p : Int) + 1 + 2 := IntWalk.i64_in _ (by omega)
            have f3 := index_at s ((p : Int) + 1 + 1) (p + 2) (by omega) (by omega)
            have f4 := index_at s ((p : Int) + 1 + 2) (p + 3) (by omega) (by omega)
            go_wp2_with fail
            go_region_law (first | (refine step_append_own rfl (.tmp 44) (.tmp 58) 22 rfl w.heap.size 5 i0 (.int .u8 0) 1 1 Tryz.underlying22 hi hz0 hz1 hz2 rfl (by decide) _ t.length (bc t) rfl (hown.drew.alloc _) ⟨wr.heap.size, 0, none⟩ 1 1 [.int .u8 (16 * x + y)] rfl rfl (new_cells _ _ _ _ rfl) (by rw [bc_u8 _ ⟨by omega, by omega⟩]; exact bc_one _) (by unfold maxLen; omega) (by omega) (by simp; omega) ?_; intro v' w2 hown' hgrow _) | (go_simp; go_at_call 44; first | ((with_reducible refine (hcx _).mono ?_); rintro e w' ⟨rfl, rfl⟩) | ((with_reducible refine (hcy _).mono ?_); rintro e w' ⟨rfl, rfl⟩)))
            all_goals
              go_wp2
              have R := own_app hown.drew hbel.drew (Nat.le_refl _) hBs hgrow
              have O := own_bytes rfl rfl (l' := [Go.Proofs.YtjflnpcmjibcpaaGreatDoor.u8 (16 * x + y)]) (bc_u8 _ ⟨by omega, by omega⟩) rfl hown'
              have hne' := own_ne O (by simp)
              clear hown hown' hgrow hbel
              go_roundw
              case rel => exact ⟨p + 4, _, by omega, by omega, by go_num, O, hne', by simp; omega, HA, R.1, R.2⟩
              case measure => simp [intOf]; omega
          · have HA : Hid (InnerAt s (p + 2) (t ++ [s[p + 1]])) := at_two s p t _ hp1 hpp hlt hval.out H92.out (.inr ⟨H110.out, rfl⟩) (fun e => by have : ¬ p + 3 < s.size := fun h3 => h120 ⟨e, h3⟩; omega)
            by_cases h3 : (s[p + 1].toNat : Int) = 120
            all_goals
              first
              | (have t3 : ((s[p + 1].toNat : Int) == 120) = true := by simpa using h3
                 have hp3 : ¬ p + 3 < s.size := fun h => h120 ⟨h3, h⟩
                 clear h3 h120 hval)
              | (have t3 : ((s[p + 1].toNat : Int) == 120) = false := by simpa using h3
                 clear h3 h120 hval)
              go_wp2_with (first
                | (at_builtin; refine wpList_append_own _ rfl (.tmp 62) (.tmp 66) 22 rfl w.heap.size 5 i0 (.int .u8 0) 1 1 Tryz.underlying22 hi hz0 hz1 hz2 rfl (by decide) _ t.length (bc t) rfl (hown.alloc _) ⟨wr.heap.size, 0, none⟩ 1 1 [.int .u8 (s[p + 1].toNat : Int)] rfl rfl (new_cells _ _ _ _ rfl) (bc_one [s[p + 1]]) (by unfold maxLen; omega) (by omega) (by simp; omega) ?_; intro v' w2 hown' hgrow _))
              have R := own_app hown hbel (Nat.le_refl _) hBs hgrow
              have O := own_bytes rfl rfl (l' := [s[p + 1]]) rfl rfl hown'
              have hne' := own_ne O (by simp)
              clear hown hown' hgrow hbel
              go_roundw
              case rel => exact ⟨p + 2, _, by omega, by omega, by go_num, O, hne', by simp; omega, HA, R.1, R.2⟩
              case measure => simp [intOf]; omega
      · have HA : Hid (InnerAt s (p + 1) (t ++ [s[p]])) := at_plain s p t hp1 hpp hlt hval.out h92
        have t1 : ((s[p].toNat : Int) != 92) = true := by simpa using h92
        clear h92 hval
        go_wp2_with (first
            | (at_builtin; refine wpList_append_own _ rfl (.tmp 18) (.tmp 22) 22 rfl w.heap.size 5 i0 (.int .u8 0) 1 1 Tryz.underlying22 hi hz0 hz1 hz2 rfl (by decide) _ t.length (bc t) rfl (hown.alloc _) ⟨wr.heap.size, 0, none⟩ 1 1 [.int .u8 (s[p].toNat : Int)] rfl rfl (new_cells _ _ _ _ rfl) (bc_one [s[p]]) (by unfold maxLen; omega) (by omega) (by simp; omega) ?_; intro v' w2 hown' hgrow _))
        have R := own_app hown hbel (Nat.le_refl _) hBs hgrow
        have O := own_bytes rfl rfl (l' := [s[p]]) rfl rfl hown'
        have hne' := own_ne O (by simp)
        clear hown hown' hgrow hbel
        go_roundw
        case rel => exact ⟨p + 1, _, by omega, by omega, by go_num, O, hne', by simp; omega, HA, R.1, R.2⟩
        case measure => simp [intOf]; omega
    · have hval2 := val_end' _ t _ hval.out (by rw [inner_len s h2]; omega)
      obtain ⟨g, cap, rfl, hconv⟩ := own_string' hown hne rfl rfl
      have HV := Lib.hid hval2
      have hll : t.length ≤ s.size := by omega
      have hll2 : t.length ≤ 1048576 := by omega
      have HQ := Lib.hid (sQuote ⟨t.toArray⟩ wr hll2)
      clear hval hval2
      by_cases hq : quoteL t = s.data.toList
      all_goals
        have HQE := Lib.hid hq
        first
        | (have ht : (quoteL t == s.toList) = true := by rw [eq_list]; exact decide_eq_true hq
           clear hq)
        | (have ht : (quoteL t == s.toList) = false := by rw [eq_list]; exact decide_eq_false hq
           clear hq)
        go_wp2_with fail
        refine HQ.out.mono ?_
        rintro e w2 ⟨rfl, hb2⟩
        have hown2 := own_below hown hb2
        obtain ⟨g2, cap2, hg2, hconv2⟩ := own_string' hown2 hne rfl rfl
        obtain ⟨rfl, rfl⟩ : g2 = g ∧ cap2 = cap := by injection hg2 with a b c; injection a with a; injection a with a; exact ⟨a.symm, c.symm⟩
        clear hg2 hown hown2 hconv
        go_wp2
        go_ret2
        refine ⟨t, hll, HV.out, ?_, hbel.trans (hb2.mono hBs)⟩
        first | (rw [if_pos HQE.out, decide_eq_true HQE.out]; rfl) | (rw [if_neg HQE.out, decide_eq_false HQE.out]; rfl)
theorem sUnquote_short (s : ByteArray) (w : World) (h2 : ¬ 2 ≤ s.size) :
    Calls Tryz.prog 23 #[.string s] w fun e w' => e = .returned (.tuple #[.string ⟨#[]⟩, .bool false]) ∧ Below w.heap.size w w' := by
  have ht : (quoteL [] == s.toList) = false := by
    rw [eq_list]
    refine decide_eq_false fun e => ?_
    have := congrArg List.length e
    rw [size_list] at this
    simp [quoteL] at this
    omega
  have hconv := own_string' (World.ownsRow_lit w #[] 0 (Nat.le_refl _) (by decide) rfl) (by simp) (l := []) rfl rfl
  obtain ⟨g, cap, hg, hconv⟩ := hconv
  obtain ⟨rfl, rfl⟩ : g = w.heap.size ∧ cap = 0 := by injection hg with a b c; injection a with a; injection a with a; exact ⟨a.symm, c.symm⟩
  clear hg
  have HQ := Lib.hid (sQuote ⟨#[]⟩ (w.alloc (.cells #[] 5)) (by decide))
  have hb0 := (Below.refl w.heap.size w).alloc (Nat.le_refl _) (.cells #[] 5)
  go_enter Tryz.func23, Tryz.ntmps23
  go_wp2
  go_loopw [4, 5] (fun v i wr => v = .slice (some ⟨w.heap.size, 0, none⟩) 0 0 ∧ i = .int .i64 1 ∧ wr = w.alloc (.cells #[] 5)) (fun _ _ _ => 0)
  case atStart => exact ⟨rfl, rfl, rfl⟩
  case round =>
    obtain ⟨rfl, rfl, rfl⟩ := hrel
    go_wp2_with fail
    refine HQ.out.mono ?_
    rintro e w2 ⟨rfl, hb2⟩
    go_wp2
    go_ret2
    exact ⟨rfl, hb0.trans (hb2.mono (by simp))⟩
end Go.Proofs.YtjflnpcmjibcpaaGreatDoor
