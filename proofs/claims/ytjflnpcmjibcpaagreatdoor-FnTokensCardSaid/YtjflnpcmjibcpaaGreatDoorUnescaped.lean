/- The program's unescaping loop. -/
import Derived.Test.YtjflnpcmjibcpaaGreatDoorEscaped
import Derived.Test.YtjflnpcmjibcpaaGreatDoorUnqMath
import Derived.Test.YtjflnpcmjibcpaaGreatDoorQuote
namespace Go.Proofs.YtjflnpcmjibcpaaGreatDoor
set_option linter.unusedVariables false
open Go.ChangeShapes Go.WideShapes Go.ChangeAt Go.RowKit

/-- What the unescaping loop answers: some text, no longer than what it read; what was written, where it was written so. -/
def UnescR (s : ByteArray) (w : World) (e : Ending) (w' : World) : Prop :=
  ∃ t : List UInt8, e = .returned (.string ⟨t.toArray⟩) ∧ t.length ≤ s.size ∧ Val s.data.toList s.size t ∧ Below w.heap.size w w'
theorem own_shape' {B e n : Nat} {w : World} {v : Value} {xs : List Value} (h : w.ownsRow B e 1 v n xs) (hn : v ≠ .slice none 0 0) :
    ∃ g cap, v = .slice (some ⟨g, 0, none⟩) n cap ∧ (∀ j, j < n → w.cell? ⟨g, j, none⟩ = xs[j]?) := by
  have h' := h
  obtain ⟨_, ⟨h0, _⟩ | ⟨g, cap, cur, rfl, h1, h2, h3, h4, h5, h6⟩⟩ := h
  · exact absurd h0 hn
  · exact ⟨g, cap, rfl, fun j hj => h'.cellAt j (by omega)⟩
theorem own_string' {B n : Nat} {w : World} {v : Value} {xs : List Value} {l : List UInt8} (h : w.ownsRow B 5 1 v n xs) (hne : v ≠ .slice none 0 0) (hn : n = l.length) (hx : xs = bc l) :
    ∃ g cap, v = .slice (some ⟨g, 0, none⟩) n cap ∧ (convert 22 9 (.slice (some ⟨g, 0, none⟩) n cap)).run Tryz.prog w = .ok (.string ⟨l.toArray⟩) w := by
  obtain ⟨g, cap, rfl, hc⟩ := own_shape' h hne
  subst hn hx
  refine ⟨g, cap, rfl, run_convert_bytes_back w 22 9 5 ⟨g, 0, none⟩ cap l Tryz.underlying22 Tryz.underlying5 Tryz.underlying9 fun j hj => ?_⟩
  rw [add_zero_off, hc j hj, bc_get l j hj]
theorem own_ne {B e n : Nat} {w : World} {v : Value} {xs : List Value} (h : w.ownsRow B e 1 v n xs) (hn : 0 < n) : v ≠ .slice none 0 0 := by
  obtain ⟨g, cap, rfl, _⟩ := own_shape h hn
  intro e; cases e
theorem get_some (s : ByteArray) (k : Nat) (h : k < s.size) : s.data.toList[k]? = some s[k] := by
  rw [List.getElem?_eq_getElem (by rw [size_list]; exact h), get_list s k h]
def u8 (b : Int) : UInt8 := UInt8.ofNat b.toNat
theorem u8_toNat (b : Int) (h : 0 ≤ b ∧ b ≤ 255) : ((u8 b).toNat : Int) = b := by
  unfold u8; rw [UInt8.toNat_ofNat']; omega
def EscD (s : ByteArray) (h : 0 < s.size) (b n : Int) : Prop :=
    (((s[0].toNat : Int) = 110 ∧ b = 10 ∧ n = 1) ∨ (¬ (s[0].toNat : Int) = 110 ∧ (s[0].toNat : Int) = 120 ∧ 3 ≤ s.size ∧ n = 3 ∧ HexV (s.extract 1 3) b) ∨
     (¬ (s[0].toNat : Int) = 110 ∧ ¬ ((s[0].toNat : Int) = 120 ∧ 3 ≤ s.size) ∧ b = (s[0].toNat : Int) ∧ n = 1))
theorem ext_list (s : ByteArray) (a b : Nat) : (s.extract a b).data.toList = (s.data.toList.drop a).take (b - a) := by
  rw [ByteArray.data_extract, Array.toList_extract]
/-- What the answer behind a backslash does to the reading. -/
theorem esc_val (s r : ByteArray) (k : Nat) (t : List UInt8) (hk : k + 1 < s.size) (hV : Val s.data.toList k t) (h92 : (s[k].toNat : Int) = 92) (b n : Int) (hb : 0 ≤ b ∧ b ≤ 255) (hr : r.data.toList = s.data.toList.drop (k + 1)) (hp : 0 < r.size)
    (hR : EscD r hp b n) :
    ∃ m : Nat, (k : Int) + n + 1 = m ∧ k + 1 ≤ m ∧ m ≤ s.size ∧ 0 ≤ n ∧ n ≤ 3 ∧ Val s.data.toList m (t ++ [u8 b]) := by
  have hb8 := u8_toNat b hb
  have hs : r.size = s.size - (k + 1) := by rw [← size_list, hr, List.length_drop, size_list]
  have g1 := get_some s (k + 1) hk
  have h0 : r[0] = s[k + 1] := by
    have h2 := get_some r 0 hp
    rw [hr, List.getElem?_drop, Nat.add_zero, g1] at h2
    simpa using h2.symm
  unfold EscD at hR
  rw [h0, hs] at hR
  have g0 := get_some s k (by omega)
  rcases hR with ⟨e1, e2, e3⟩ | ⟨e1, e2, e3, e4, e5⟩ | ⟨e1, e2, e3, e4⟩
  · subst e3
    exact ⟨k + 2, by omega, by omega, by omega, by omega, by omega, read_two _ t k _ _ _ hV g0 (by omega) g1 (.inl ⟨by omega, by omega⟩) (fun h => by omega)⟩
  · subst e4
    refine ⟨k + 4, by omega, by omega, by omega, by omega, by omega, read_four _ t k _ _ _ hV g0 (by omega) g1 (by omega) fun hi lo h1 h2 q1 q2 => ?_⟩
    have hl : (r.extract 1 3).data.toList = [hexB hi, hexB lo] := by
      rw [ext_list, hr, List.drop_drop]
      have d1 := List.drop_eq_getElem_cons (show k + 1 + 1 < s.data.toList.length by rw [size_list]; omega)
      have d2 := List.drop_eq_getElem_cons (show k + 1 + 1 + 1 < s.data.toList.length by rw [size_list]; omega)
      rw [d1, d2]
      rw [List.getElem?_eq_getElem (by rw [size_list]; omega)] at q1 q2
      injection q1 with q1
      injection q2 with q2
      simp [q1, q2]
    have := e5.2.2 hi lo h1 h2 hl
    omega
  · subst e4
    have e5 : u8 b = s[k + 1] := u8_eq (by omega)
    refine ⟨k + 2, by omega, by omega, by omega, by omega, by omega, read_two _ t k _ _ _ hV g0 (by omega) g1 (.inr ⟨by omega, e5⟩) (fun h => ?_)⟩
    rw [size_list]
    have : ¬ 3 ≤ s.size - (k + 1) := fun h3 => e2 ⟨by omega, h3⟩
    omega
theorem bc_u8 (b : Int) (h : 0 ≤ b ∧ b ≤ 255) : [Value.int .u8 b] = bc [u8 b] := by simp [bc, u8_toNat b h]
set_option maxRecDepth 100000 in
set_option maxHeartbeats 2000000 in
theorem unescaped (s : ByteArray) (w : World) (hs : s.size ≤ 1048576) (hV : Vars w) :
    Calls Tryz.prog 58 #[.string s] w (UnescR s w) := by
  obtain ⟨i0, hi, hz0, hz1, hz2⟩ := info_parts info_u8
  go_enter Tryz.func58, Tryz.ntmps58
  go_wp2
  go_loopw [3, 4] (fun v i wr => ∃ k : Nat, ∃ t : List UInt8, k ≤ s.size ∧ i = .int .i64 k ∧ wr.ownsRow w.heap.size 5 1 v t.length (bc t) ∧ v ≠ .slice none 0 0 ∧ t.length ≤ k ∧ Hid (Val s.data.toList k t) ∧ Below w.heap.size w wr ∧ w.heap.size ≤ wr.heap.size)
    (fun _ i _ => s.size - (intOf i).toNat)
  case atStart =>
    exact ⟨0, [], Nat.zero_le _, rfl, World.ownsRow_lit w #[] 0 (Nat.le_refl _) (by decide) rfl, by simp, Nat.zero_le _, val_start _, (Below.refl _ _).alloc (Nat.le_refl _) _, by simp⟩
  case round =>
    obtain ⟨k, t, hk, rfl, hown, hne, htk, hval, hbel, hBs⟩ := hrel
    by_cases hlt : k < s.size
    · have hkb := byte_bd2 s[k]
      have hg := Lib.hid (get_some s k hlt)
      by_cases h92 : (s[k].toNat : Int) = 92 ∧ k + 1 < s.size
      · obtain ⟨h92a, hk1⟩ := h92
        have H92 := Lib.hid h92a
        have t1 : ((s[k].toNat : Int) == 92) = true := by simpa using h92a
        have hr : Hid ((s.extract (k + 1) s.size).data.toList = s.data.toList.drop (k + 1)) := by
          show _ = _
          rw [ext_list, List.take_of_length_le (by rw [List.length_drop, size_list]; omega)]
        have hp : 0 < (s.extract (k + 1) s.size).size := by rw [ByteArray.size_extract]; omega
        have hpm : (s.extract (k + 1) s.size).size ≤ 1048576 := by rw [ByteArray.size_extract]; omega
        have HE := Lib.hid (escaped (s.extract (k + 1) s.size) wr hp hpm (hV.below hbel))
        clear h92a hpm
        go_wp2_with fail
        refine HE.out.mono ?_
        rintro e w1 ⟨b, n, rfl, hb0, hb1, hb, hR⟩
        obtain ⟨m, hm, hm1, hm2, hn0, hn3, hval'⟩ := esc_val s _ k t hk1 hval.out H92.out b n ⟨hb0, hb1⟩ hr.out hp hR
        have HV' := Lib.hid hval'
        have HM := Lib.hid hm
        have hown1 := own_below hown hb
        have hbel1 := hbel.trans (hb.mono hBs)
        have hBs1 := Nat.le_trans hBs hb.size
        clear hR hval' hm hown hbel HE hr hp hV hval
        go_wp2_with (first
          | (at_builtin; refine wpList_append_own _ rfl (.tmp 39) (.tmp 41) 22 rfl w.heap.size 5 i0 (.int .u8 0) 1 1 Tryz.underlying22 hi hz0 hz1 hz2 rfl (by decide) _ t.length (bc t) rfl (hown1.alloc _) ⟨w1.heap.size, 0, none⟩ 1 1 [.int .u8 b] rfl rfl (new_cells _ _ _ _ rfl) (by rw [bc_u8 b ⟨hb0, hb1⟩]; exact bc_one _) (by unfold maxLen; omega) (by omega) (by simp; omega) ?_; intro v' w2 hown' hgrow _))
        have R := own_app hown1 hbel1 (Nat.le_refl _) hBs1 hgrow
        have O := own_bytes rfl rfl (l' := [u8 b]) (bc_u8 b ⟨hb0, hb1⟩) rfl hown'
        have hne' := own_ne O (by simp)
        clear hown1 hown' hgrow hbel1
        go_roundw
        case rel => exact ⟨m, t ++ [u8 b], hm2, by have := HM.out; go_num, O, hne', by simp; omega, HV', R.1, R.2⟩
        case measure => have := HM.out; simp [intOf]; omega
      · have HK : ∃ v' : Int, True := ⟨0, trivial⟩
        have HV1 : Hid (Val s.data.toList (k + 1) (t ++ [s[k]])) := by
          by_cases h : (s[k].toNat : Int) = 92
          · exact read_lone _ t k _ _ hval.out hg.out (by omega) (by rw [size_list]; have : ¬ k + 1 < s.size := fun h2 => h92 ⟨h, h2⟩; omega)
          · exact read_plain _ t k _ hval.out hg.out (by omega)
        by_cases hbs : (s[k].toNat : Int) = 92
        all_goals
          first
          | (have t1 : ((s[k].toNat : Int) == 92) = true := by simpa using hbs
             have hend : ¬ k + 1 < s.size := fun h2 => h92 ⟨hbs, h2⟩
             clear hbs h92 hV hval HK)
          | (have t1 : ((s[k].toNat : Int) == 92) = false := by simpa using hbs
             clear hbs h92 hV hval HK)
          go_wp2_with (first
            | (at_builtin; refine wpList_append_own _ rfl (.tmp 39) (.tmp 41) 22 rfl w.heap.size 5 i0 (.int .u8 0) 1 1 Tryz.underlying22 hi hz0 hz1 hz2 rfl (by decide) _ t.length (bc t) rfl (hown.alloc _) ⟨wr.heap.size, 0, none⟩ 1 1 [.int .u8 (s[k].toNat : Int)] rfl rfl (new_cells _ _ _ _ rfl) (bc_one [s[k]]) (by unfold maxLen; omega) (by omega) (by simp; omega) ?_; intro v' w2 hown' hgrow _))
          have R := own_app hown hbel (Nat.le_refl _) hBs hgrow
          have O := own_bytes rfl rfl (l' := [s[k]]) rfl rfl hown'
          have hne' := own_ne O (by simp)
          clear hown hown' hgrow hbel
          go_roundw
          case rel => exact ⟨k + 1, t ++ [s[k]], by omega, by go_num, O, hne', by simp; omega, HV1, R.1, R.2⟩
          case measure => simp [intOf]; omega
    · obtain rfl : k = s.size := by omega
      obtain ⟨g, cap, rfl, hconv⟩ := own_string' hown hne rfl rfl
      go_wp2
      go_ret
      exact ⟨t, rfl, htk, hval.out, hbel⟩
end Go.Proofs.YtjflnpcmjibcpaaGreatDoor
