/- The text that the law lays in place of the k-th string. -/
import Derived.Test.YtdhpmblhejcehaaRows
import Derived.Test.YtdhpmblhejcehaaBs
import Derived.Test.YtdhpmblhejcehaaOwn
import Derived.WalkKit
import Derived.ProofKit
import Derived.OpenShut
import Derived.Lib.Hide
import Derived.Lib.SmallJoins
namespace Go.Proofs.Ytdhpmblhejcehaa
set_option linter.unusedVariables false
set_option maxRecDepth 100000
open Go.ChangeShapes Go.WideShapes Go.ChangeAt Go.RowKit

/-- What the law lays in place of the k-th text. -/
def digC (k : Nat) : UInt8 := UInt8.ofNat (48 + k % 10)
theorem digC_v (k : Nat) : ((digC k).toNat : Int) = 48 + (k : Int) % 10 := by rw [digC, UInt8.toNat_ofNat']; omega
def mkF : Nat → Nat → List UInt8 → List UInt8
  | 0, _, out => out
  | f + 1, k, out => if k = 0 then out else mkF f (k / 10) (digC k :: out)
def markS (k : Nat) : ByteArray := bs (109 :: mkF k k [])
theorem mkF_step (f k : Nat) (out : List UInt8) (h : 0 < k) (hf : k ≤ f) : mkF f k out = mkF (f - 1) (k / 10) (digC k :: out) := by
  cases f with
  | zero => omega
  | succ f => rw [mkF, if_neg (by omega)]; rfl
theorem mkF_end (f : Nat) (out : List UInt8) : mkF f 0 out = out := by cases f <;> rfl
theorem cat_bs (a b : List UInt8) : bs a ++ bs b = bs (a ++ b) := by
  have := Joins.data_append (bs a) (bs b)
  rw [← bs_eta (bs a ++ bs b), this, bs_list, bs_list]
theorem conv_digit (j n : Nat) (wr : World) (hn : n = wr.heap.size) :
    (convert 22 9 (.slice (some ⟨n, 0, none⟩) 1 1)).run Try.prog (wr.alloc (.cells #[.int .u8 (48 + (j : Int) % 10)] 5)) = .ok (.string (bs [digC j])) (wr.alloc (.cells #[.int .u8 (48 + (j : Int) % 10)] 5)) := by
  subst hn
  refine run_convert_bytes_back _ 22 9 5 ⟨wr.heap.size, 0, none⟩ 1 [digC j] Try.underlying22 Try.underlying5 Try.underlying9 fun i hi => ?_
  obtain rfl : i = 0 := by simp at hi; exact hi
  have hv : ((digC j).toNat : Int) = 48 + (j : Int) % 10 := digC_v j
  rw [add_zero_off, World.cell?_alloc_new]
  show some (Value.int .u8 (48 + (j : Int) % 10)) = some (Value.int .u8 ((digC j).toNat : Int))
  rw [hv]
theorem markText (k : Nat) (w : World) (h0 : 0 < k) (h1 : k ≤ 1000000000000) :
    Calls Try.prog 50 #[.int .i64 k] w fun e w' => e = .returned (.string (markS k)) ∧ Below w.heap.size w w' := by
  have hk0 : ¬ k = 0 := by omega
  go_enter Try.func50, Try.ntmps50
  go_wp2
  go_loopw [0, 3] (fun n o wr => ∃ (j f : Nat) (out : List UInt8), n = .int .i64 j ∧ o = .string (bs out) ∧ j ≤ f ∧ f ≤ k ∧ out.length + f ≤ k ∧ mkF f j out = mkF k k [] ∧ Below w.heap.size w wr ∧ w.heap.size ≤ wr.heap.size) (fun n _ _ => (intOf n).toNat)
  case atStart => exact ⟨k, k, [], rfl, rfl, Nat.le_refl _, Nat.le_refl _, by simp, rfl, Below.refl _ _, Nat.le_refl _⟩
  case round =>
    obtain ⟨j, f, out, rfl, rfl, hjf, hfk, hol, hm, hbel, hBs⟩ := hrel
    have HE := Lib.hid hm
    clear hm
    by_cases hlt : 0 < j
    · have hcv := conv_digit j _ wr rfl
      have hz : ¬ 9223372036854775807 < (bs [digC j]).size + (bs out).size := by rw [bs_size, bs_size]; simp; omega
      have hm2 := mkF_step f j out hlt hjf
      rw [HE.out] at hm2
      have HM2 := Lib.hid hm2.symm
      clear hm2
      go_wp2
      go_roundw
      case rel => exact ⟨j / 10, f - 1, digC j :: out, by go_num, congrArg Value.string (cat_bs _ _), by omega, by omega, by simp; omega, HM2.out, hbel.alloc hBs _, by simp; omega⟩
      case measure => simp [intOf]; omega
    · obtain rfl : j = 0 := by omega
      have hfin : mkF k k [] = out := by rw [← HE.out, mkF_end]
      have HF := Lib.hid hfin
      clear hfin
      go_wp2
      · have h9 := ‹9223372036854775807 < 1 + (bs out).size›
        rw [bs_size] at h9
        omega
      · go_ret
        exact ⟨by rw [markS, HF.out]; exact congrArg (fun b => Ending.returned (.string b)) (cat_bs [109] out), hbel⟩
theorem markTextI (a : Int) (k : Nat) (w : World) (ha : a = k) (h0 : 0 < a) (h1 : a ≤ 1000000000000) :
    Calls Try.prog 50 #[.int .i64 a] w fun e w' => e = .returned (.string (markS k)) ∧ Below w.heap.size w w' := by
  subst ha; exact markText k w (by omega) (by omega)
end Go.Proofs.Ytdhpmblhejcehaa
