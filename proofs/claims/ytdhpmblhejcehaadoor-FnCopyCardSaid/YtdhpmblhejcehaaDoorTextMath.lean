/- Plain mathematics of bytes, words and keywords. -/
import Derived.WalkKit
namespace Go.Proofs.YtdhpmblhejcehaaDoor
set_option linter.unusedVariables false
open Go.RowKit

def lowB (c : Int) : Bool := decide (97 ≤ c) && decide (c ≤ 122)
def upB (c : Int) : Bool := decide (65 ≤ c) && decide (c ≤ 90)
def digB (c : Int) : Bool := decide (48 ≤ c) && decide (c ≤ 57)
def wbB (c : Int) : Bool := lowB c || (upB c || (digB c || c == 95))
def clsI (c : Int) : Int := if lowB c = true then 1 else if upB c = true then 2 else if (digB c || c == 95) = true then 3 else 0

theorem cls_if (c : Int) : clsI c = if 97 ≤ c ∧ c ≤ 122 then 1 else if 65 ≤ c ∧ c ≤ 90 then 2 else if (48 ≤ c ∧ c ≤ 57) ∨ c = 95 then 3 else 0 := by
  simp [clsI, lowB, upB, digB]
theorem cls_zero (c : Int) : (clsI c == 0) = !wbB c := by
  unfold clsI wbB
  cases lowB c <;> cases upB c <;> cases (digB c || c == 95) <;> simp
theorem cls_one (c : Int) : (clsI c == 1) = lowB c := by
  unfold clsI
  cases lowB c <;> cases upB c <;> cases (digB c || c == 95) <;> simp
theorem cls_two (c : Int) : (clsI c == 2) = upB c := by
  unfold clsI
  cases h : lowB c <;> cases h2 : upB c <;> cases (digB c || c == 95) <;> simp_all
  all_goals (unfold lowB at h; unfold upB at h2; simp at h h2; omega)

def allB (l : List UInt8) : Bool := l.all fun c => wbB (c.toNat : Int)
theorem allB_snoc (l : List UInt8) (c : UInt8) : allB (l ++ [c]) = (allB l && wbB (c.toNat : Int)) := by
  simp [allB]
theorem allB_take (l : List UInt8) (k : Nat) (h : allB l = true) : allB (l.take k) = true := by
  simp only [allB, List.all_eq_true] at *
  exact fun x hx => h x (List.mem_of_mem_take hx)
theorem take_snocT (s : ByteArray) (k : Nat) (h : k < s.size) : s.data.toList.take (k + 1) = s.data.toList.take k ++ [s[k]] := by
  rw [List.take_succ_eq_append_getElem (by simpa using h)]; rfl

theorem allB_no (s : ByteArray) (k : Nat) (hk : k < s.size) (h : wbB (s[k].toNat : Int) = false) : allB s.data.toList = false := by
  simp only [allB, List.all_eq_false]
  exact ⟨s[k], by exact List.getElem_mem (l := s.data.toList) (n := k) (by simpa using hk), by simp [h]⟩
theorem allB_step (s : ByteArray) (k : Nat) (hk : k < s.size) (h0 : allB (s.data.toList.take k) = true) (h : wbB (s[k].toNat : Int) = true) : allB (s.data.toList.take (k + 1)) = true := by
  rw [take_snocT s k hk, allB_snoc, h0, h]; rfl
theorem allB_end (s : ByteArray) (h0 : allB (s.data.toList.take s.size) = true) : allB s.data.toList = true := by
  rwa [List.take_of_length_le (by simp)] at h0
def fst (s : ByteArray) : Int := match s.data.toList with | c :: _ => (c.toNat : Int) | [] => 0
theorem fst_get (s : ByteArray) (h : 0 < s.size) : fst s = (s[0].toNat : Int) := by
  obtain ⟨⟨l⟩⟩ := s
  cases l with
  | nil => simp [ByteArray.size] at h
  | cons c t => rfl
def lenB (s : ByteArray) : Bool := decide (1 ≤ s.size) && decide (s.size ≤ 12)
def wordB (s : ByteArray) : Bool := lenB s && allB s.data.toList

def kws : List (List UInt8) := [[108, 101, 116], [114, 101, 99], [105, 110], [102, 117, 110], [105, 102], [116, 104, 101, 110], [101, 108, 115, 101], [109, 97, 116, 99, 104], [119, 105, 116, 104], [101, 110, 100],
  [116, 121, 112, 101], [111, 102], [114, 97, 105, 115, 101], [116, 114, 121], [114, 101, 102], [116, 114, 117, 101], [102, 97, 108, 115, 101]]
def kwB (s : ByteArray) : Bool := kws.any fun k => s.toList == k
theorem kw_yes (s : ByteArray) (x : List UInt8) (hx : x ∈ kws) (h : (s.toList == x) = true) : true = kwB s := by
  symm; rw [kwB, List.any_eq_true]; exact ⟨x, hx, h⟩
theorem kw_step (s : ByteArray) (k : Nat) (x : List UInt8) (hx : kws[k]? = some x) (h0 : (kws.take k).any (fun x => s.toList == x) = false) (h : (s.toList == x) = false) :
    (kws.take (k + 1)).any (fun x => s.toList == x) = false := by
  rw [List.take_add_one, hx, List.any_append, h0]; simp [h]
def nameB (s : ByteArray) : Bool := wordB s && (lowB (fst s) && !kwB s)
def conB (s : ByteArray) : Bool := wordB s && upB (fst s)
end Go.Proofs.YtdhpmblhejcehaaDoor
