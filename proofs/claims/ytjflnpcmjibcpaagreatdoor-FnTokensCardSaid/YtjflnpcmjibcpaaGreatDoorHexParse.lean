/- The library's ParseUint at base 16, 8 bits, of two bytes: their value where both are hexadecimal digits, else 0 and an error. -/
import Derived.Test.YtjflnpcmjibcpaaGreatDoorRows
import Derived.Test.YtjflnpcmjibcpaaGreatDoorNumMath
import Derived.Test.YtjflnpcmjibcpaaGreatDoorQuoteMath
import Derived.Test.YtjflnpcmjibcpaaGreatDoorShelf
import Derived.WalkKit
import Derived.ProofKit
import Derived.OpenShut
import Derived.Lib.Hide
import Derived.Lib.AtoiAllMem
import Derived.Lib.AtoiErrMem
namespace Go.Proofs.YtjflnpcmjibcpaaGreatDoor
set_option linter.unusedVariables false
open Go.ChangeShapes Go.WideShapes Go.ChangeAt Go.RowKit


/-- x is the value of the two bytes, where the model's quoting wrote them. -/
def HexV (s : ByteArray) (x : Int) : Prop := 0 ≤ x ∧ x ≤ 255 ∧ ∀ hi lo : Nat, hi < 16 → lo < 16 → s.data.toList = [hexB hi, hexB lo] → x = 16 * (hi : Int) + lo
def HexR (s : ByteArray) (w : World) (e : Ending) (w' : World) : Prop :=
  ∃ x err, e = .returned (.tuple #[.int .u64 x, err]) ∧ HexV s x ∧ (err = .nilIface ∨ err = .iface 72 (.int .i64 2)) ∧ Below w.heap.size w w'
theorem hexB_val (d : Nat) (h : d < 16) : (d < 10 → (hexB d).toNat = 48 + d) ∧ (¬ d < 10 → (hexB d).toNat = 87 + d) := by
  have h1 := hexB_toNat d h
  unfold hexI at h1
  split at h1 <;> constructor <;> intro <;> omega
theorem lo_id (c : Int) (h : 97 ≤ c ∧ c ≤ 102) : bits .or .u8 c 32 = c := by
  have : c = 97 ∨ c = 98 ∨ c = 99 ∨ c = 100 ∨ c = 101 ∨ c = 102 := by omega
  rcases this with rfl | rfl | rfl | rfl | rfl | rfl <;> decide
/-- What is known of the k-th byte in the written case. -/
theorem hex_byte (s : ByteArray) (k : Nat) (c : UInt8) (hk : k = 0 ∨ k = 1) (hc : s.data.toList.getD k 0 = c) (hi lo : Nat) (h1 : hi < 16) (h2 : lo < 16) (e : s.data.toList = [hexB hi, hexB lo]) :
    (48 ≤ c.toNat ∧ c.toNat ≤ 57 ∧ c.toNat - 48 = if k = 0 then hi else lo) ∨ (97 ≤ c.toNat ∧ c.toNat ≤ 102 ∧ c.toNat - 87 = if k = 0 then hi else lo) := by
  have a1 := hexB_val hi h1
  have a2 := hexB_val lo h2
  rw [e] at hc
  rcases hk with rfl | rfl
  · simp at hc; subst hc; simp only [if_true]
    by_cases h : hi < 10
    · have := a1.1 h; omega
    · have := a1.2 h; omega
  · simp at hc; subst hc; simp only [Nat.one_ne_zero, if_false]
    by_cases h : lo < 10
    · have := a2.1 h; omega
    · have := a2.2 h; omega
theorem hexv_no (s : ByteArray) (k : Nat) (c : UInt8) (hk : k = 0 ∨ k = 1) (hc : s.data.toList.getD k 0 = c) (h : ¬ (48 ≤ c.toNat ∧ c.toNat ≤ 57)) (h' : ¬ (97 ≤ c.toNat ∧ c.toNat ≤ 102)) : HexV s 0 :=
  ⟨by omega, by omega, fun hi lo h1 h2 e => by rcases hex_byte s k c hk hc hi lo h1 h2 e with ⟨a, b, _⟩ | ⟨a, b, _⟩ <;> omega⟩
/-- The number gathered behind k bytes. -/
def HexA (s : ByteArray) (k : Nat) (a : Int) : Prop := ∀ hi lo : Nat, hi < 16 → lo < 16 → s.data.toList = [hexB hi, hexB lo] → a = if k = 0 then 0 else if k = 1 then (hi : Int) else 16 * (hi : Int) + lo
theorem hexa_step (s : ByteArray) (k : Nat) (c : UInt8) (a d : Int) (hk : k = 0 ∨ k = 1) (hc : s.data.toList.getD k 0 = c) (hA : HexA s k a) (hd : (48 ≤ c.toNat ∧ c.toNat ≤ 57 ∧ d = c.toNat - 48) ∨ (¬ (48 ≤ c.toNat ∧ c.toNat ≤ 57) ∧ (97 ≤ c.toNat ∧ c.toNat ≤ 102 → d = c.toNat - 87))) :
    HexA s (k + 1) (a * 16 + d) := by
  intro hi lo h1 h2 e
  have hb := hex_byte s k c hk hc hi lo h1 h2 e
  have ha := hA hi lo h1 h2 e
  rcases hk with rfl | rfl
  · simp only [if_true] at ha hb
    simp only [Nat.zero_add, Nat.one_ne_zero, if_false, if_true]
    omega
  · simp only [Nat.one_ne_zero, if_false, if_true] at ha hb
    simp only [Nat.reduceAdd, Nat.reduceEqDiff, if_false]
    omega
set_option maxHeartbeats 4000000 in
set_option maxRecDepth 100000 in
theorem innerParse (s : ByteArray) (w : World) (h2 : s.size = 2) :
    Calls Tryz.prog 76 #[.string s, .int .i64 16, .int .i64 8] w (HexR s w) := by
  have hl : s.data.toList.length = 2 := h2
  have he2 : s.toList.isEmpty = false := by
    rw [ByteArray.toList_eq]
    cases hl' : s.data.toList with
    | nil => rw [hl'] at hl; cases hl
    | cons c r => rfl
  have he : (s.toList == []) = false := by
    cases hl' : s.toList with
    | nil => rw [hl'] at he2; cases he2
    | cons c r => rfl
  have hcv := Lib.run_convert_string_bytes (P := Tryz.prog) w 9 22 5 s (u := .string) Tryz.underlying9 Tryz.underlying22 Tryz.underlying5
  have hB : ∀ j, j < 2 → (Lib.bytesWorld w 5 s).cell? ⟨w.heap.size, j, none⟩ = some (.int .u8 (s.data.toList.getD j 0).toNat) := fun j hj => Lib.bytesWorld_cell w 5 s j (by omega)
  have hbel := Lib.bytesWorld_below w 5 s
  obtain ⟨W1, hW1⟩ : ∃ W1, W1 = Lib.bytesWorld w 5 s := ⟨_, rfl⟩
  rw [← hW1] at hcv hB hbel
  clear hW1 hl
  rw [h2] at hcv
  have H2 := Lib.hid h2
  clear h2
  have hmv : IntKind.u64.wrap (IntKind.u64.wrap 256 - 1) = 255 := by
    rw [IntKind.wrap_u64, IntKind.wrap_u64]
    decide
  go_enter Tryz.func76, Tryz.ntmps76
  go_wp2
  go_loop [12, 13, 101] (fun vu vn vi => ∃ (k : Nat) (a : Int), vu = .bool false ∧ vn = .int .u64 a ∧ vi = .int .i64 k ∧ k ≤ 2 ∧ 0 ≤ a ∧ (k = 0 → a = 0) ∧ (k = 1 → a ≤ 15) ∧ a ≤ 255 ∧ Hid (HexA s k a))
    (fun _ _ vi => 2 - (intOf vi).toNat)
  case atStart => exact ⟨0, 0, rfl, rfl, rfl, by omega, by omega, fun _ => rfl, fun _ => by omega, by omega, Lib.hid (fun _ _ _ _ _ => rfl)⟩
  case round =>
    obtain ⟨k, a, rfl, rfl, rfl, hk, ha0, hak0, hak1, ha255, hA⟩ := hrel
    by_cases hkn : k < 2
    · have hc := hB k hkn
      have hkk : k = 0 ∨ k = 1 := by omega
      have ha15 : a ≤ 15 := by rcases hkk with rfl | rfl; have := hak0 rfl; omega; exact hak1 rfl
      have HK0 := Lib.hid hak0
      clear hak0 hak1 ha255 hB
      obtain ⟨c, hcc⟩ : ∃ c, s.data.toList.getD k 0 = c := ⟨_, rfl⟩
      rw [hcc] at hc
      have HC := Lib.hid hcc
      clear hcc
      have hc256 : c.toNat < 256 := c.toNat_lt
      by_cases hdig : 48 ≤ c.toNat ∧ c.toNat ≤ 57
      · obtain ⟨hd0, hd1⟩ := hdig
        have HN := Lib.hid (hexa_step s k c a ((c.toNat : Int) - 48) hkk HC.out hA.out (.inl ⟨hd0, hd1, rfl⟩))
        have n1 : a * 16 + ((c.toNat : Int) - 48) ≤ 255 := by omega
        clear hA
        go_wp2
        go_round
        case rel => exact ⟨k + 1, _, rfl, rfl, by go_num, by omega, by omega, by omega, fun h => by have := HK0.out (by omega); omega, by omega, HN⟩
        case measure => simp [intOf]; omega
      · have HD := Lib.hid hdig
        have hlo := Lib.hid (fun h => lo_id (c.toNat : Int) h)
        have hv0 := bits_lo_u8 .or (c.toNat : Int) 32
        have hv1 := bits_hi_u8 .or (c.toNat : Int) 32
        obtain ⟨v, hv⟩ : ∃ v, v = bits .or .u8 (c.toNat : Int) 32 := ⟨_, rfl⟩
        have hlow : ∀ W : World, Calls Tryz.prog 83 #[.int .u8 (c.toNat : Int)] W fun e w' => e = .returned (.int .u8 v) ∧ W = w' := fun W =>
          (Tryz.internal_strconv_lower _ W).mono fun e w' ⟨he, hw⟩ => ⟨by rw [he, hv], hw.symm⟩
        rw [← hv] at hv0 hv1
        have HV := Lib.hid hv
        clear hv
        by_cases h95 : (c.toNat : Int) = 95
        · have hno : HexV s 0 := hexv_no s k c hkk HC.out hdig (fun h => by omega)
          have HNO := Lib.hid hno
          have hlow95 : ∀ W : World, Calls Tryz.prog 83 #[.int .u8 95] W fun e w' => e = .returned (.int .u8 127) ∧ W = w' := fun W =>
            (Tryz.internal_strconv_lower 95 W).mono fun e w' ⟨he, hw⟩ => ⟨by rw [he]; rfl, hw.symm⟩
          clear hno hA hdig hlow hv0 hv1
          go_wp2_with (go_at_call 83; refine (hlow95 _).mono ?_; rintro e w' ⟨rfl, rfl⟩)
          go_ret2
          exact ⟨0, _, rfl, HNO.out, .inr rfl, hbel⟩
        have t95 : ((c.toNat : Int) == 95) = false := by simpa using h95
        clear h95
        by_cases hin : 97 ≤ v ∧ v ≤ 102
        · have HN := Lib.hid (hexa_step s k c a (v - 87) hkk HC.out hA.out (.inr ⟨hdig, fun h => by rw [HV.out, hlo.out (by omega)]⟩))
          obtain ⟨hi1, hi2⟩ := hin
          have n1 : a * 16 + (v - 97 + 10) ≤ 255 := by omega
          have he : a * 16 + (v - 97 + 10) = a * 16 + (v - 87) := by omega
          have HE := Lib.hid he
          by_cases hd48 : 48 ≤ c.toNat
          all_goals
            first | (have hd57 : 57 < c.toNat := by omega
                     clear hA hdig he) | clear hA hdig he
            go_wp2_with (go_at_call 83; refine (hlow _).mono ?_; rintro e w' ⟨rfl, rfl⟩)
            go_round
            case rel => exact ⟨k + 1, _, rfl, rfl, by go_num, by omega, by omega, by omega, fun h => by have := HK0.out (by omega); omega, by omega, Lib.hid (by rw [HE.out]; exact HN.out)⟩
            case measure => simp [intOf]; omega
        · have hno : HexV s 0 := hexv_no s k c hkk HC.out hdig (fun h => hin (by rw [HV.out, hlo.out (by omega)]; omega))
          have HNO := Lib.hid hno
          clear hno hA
          by_cases hd48 : 48 ≤ c.toNat
          all_goals
            by_cases h97 : 97 ≤ v
            all_goals
              by_cases h122 : v ≤ 122
              all_goals
                first | (have hd57 : 57 < c.toNat := by omega
                         clear hdig) | clear hdig
                first | (have h103 : 103 ≤ v := by omega
                         clear hin) | clear hin
                go_wp2_with (go_at_call 83; refine (hlow _).mono ?_; rintro e w' ⟨rfl, rfl⟩)
                all_goals
                  go_ret2
                  exact ⟨0, _, rfl, HNO.out, .inr rfl, hbel⟩
    · obtain rfl : k = 2 := by omega
      go_wp2
      go_ret2
      exact ⟨a, _, rfl, ⟨ha0, ha255, fun hi lo h1 h2 e => hA.out hi lo h1 h2 e⟩, .inl rfl, hbel⟩
end Go.Proofs.YtjflnpcmjibcpaaGreatDoor
