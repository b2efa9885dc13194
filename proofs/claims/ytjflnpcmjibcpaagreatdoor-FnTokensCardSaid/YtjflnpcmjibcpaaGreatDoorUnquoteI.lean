/- The program's Unquote. -/
import Derived.Test.YtjflnpcmjibcpaaGreatDoorUnescaped
import Derived.Test.YtjflnpcmjibcpaaGreatDoorQuoteI
namespace Go.Proofs.YtjflnpcmjibcpaaGreatDoor
set_option linter.unusedVariables false
set_option maxRecDepth 100000
open Go.ChangeShapes Go.WideShapes Go.ChangeAt Go.RowKit

/-- s is how l is written in quotes. -/
def UQ (s : ByteArray) (l : List UInt8) : Prop := quoteL l = s.data.toList
def innerOf (s : ByteArray) : ByteArray := s.extract 1 (s.size - 1)
theorem inner_list (s : ByteArray) : (innerOf s).data.toList = (s.data.toList.drop 1).take (s.size - 1 - 1) := ext_list _ _ _
theorem uq_inner (s : ByteArray) (l : List UInt8) (h : UQ s l) : 2 ≤ s.size ∧ (innerOf s).data.toList = l.flatMap qb := by
  unfold UQ quoteL at h
  have hl := congrArg List.length h
  rw [size_list] at hl
  simp only [List.length_cons, List.length_append, List.length_nil] at hl
  refine ⟨by omega, ?_⟩
  rw [inner_list, ← h, List.drop_one, List.tail_cons, List.take_append_of_le_length (by omega), List.take_of_length_le (by omega)]
theorem slice_inner (s : ByteArray) (h2 : 2 ≤ s.size) (W : World) :
    (Instr.slice 9 (.string s) (some (.int .i64 1)) (some (.int .i64 ((s.size : Int) - 1))) none).run Tryz.prog W = .ok (.string (innerOf s)) W := by
  have hc : ((s.size : Int) - 1).toNat = s.size - 1 := by omega
  have := run_slice_string (P := Tryz.prog) W 9 s .i64 .i64 1 ((s.size : Int) - 1) Tryz.underlying9 (by omega) (by omega) (by omega)
  rw [hc] at this
  exact this
theorem iUnquote_yes (s : ByteArray) (l : List UInt8) (w : World) (hs : s.size ≤ 1048576) (hV : Vars w) (h : UQ s l) :
    Calls Tryz.prog 50 #[.string s] w fun e w' => e = .returned (.tuple #[.string ⟨l.toArray⟩, .bool true]) ∧ Below w.heap.size w w' := by
  obtain ⟨h2, hin⟩ := uq_inner s l h
  have hisz : (innerOf s).size = s.size - 1 - 1 := by unfold innerOf; rw [ByteArray.size_extract]; omega
  have HU := Lib.hid (unescaped (innerOf s) w (by omega) hV)
  have ht : (quoteL l == s.toList) = true := by rw [eq_list]; exact decide_eq_true h
  have hll : l.length ≤ 1048576 := by
    have := congrArg List.length h
    rw [size_list] at this
    unfold quoteL at this
    have h3 : l.length ≤ (l.flatMap qb).length := by
      clear this h hin ht
      induction l with
      | nil => simp
      | cons c r ih => have := qb_pos c; simp only [List.flatMap_cons, List.length_append, List.length_cons]; omega
    simp only [List.length_cons, List.length_append, List.length_nil] at this
    omega
  have hsl := slice_inner s h2
  have HIN := Lib.hid hin
  have HIS := Lib.hid hisz
  clear hin hisz h
  go_enter Tryz.func50, Tryz.ntmps50
  go_wp2_with fail
  refine HU.out.mono ?_
  rintro e w1 ⟨t, rfl, htl, hval, hb⟩
  obtain rfl : t = l := val_end' _ t _ hval (Nat.le_of_eq (size_list _)) l HIN.out
  have HQ := Lib.hid (iQuote ⟨t.toArray⟩ w1 hll)
  clear HU hval htl
  go_wp2_with fail
  refine HQ.out.mono ?_
  rintro e w2 ⟨rfl, hb2⟩
  go_wp2
  go_ret2
  exact ⟨rfl, hb.trans (hb2.mono hb.size)⟩
theorem iUnquote_no (s : ByteArray) (w : World) (hs : s.size ≤ 1048576) (hV : Vars w) (h : ∀ l, ¬ UQ s l) :
    Calls Tryz.prog 50 #[.string s] w fun e w' => e = .returned (.tuple #[.string ⟨#[]⟩, .bool false]) ∧ Below w.heap.size w w' := by
  by_cases h2 : 2 ≤ s.size
  · have hisz : (innerOf s).size = s.size - 1 - 1 := by unfold innerOf; rw [ByteArray.size_extract]; omega
    have HU := Lib.hid (unescaped (innerOf s) w (by omega) hV)
    have hsl := slice_inner s h2
    have HN := Lib.hid h
    have HIS := Lib.hid hisz
    clear hisz h
    go_enter Tryz.func50, Tryz.ntmps50
    go_wp2_with fail
    refine HU.out.mono ?_
    rintro e w1 ⟨t, rfl, htl, hval, hb⟩
    have ht : (quoteL t == s.toList) = false := by rw [eq_list]; exact decide_eq_false (HN.out t)
    have hll : t.length ≤ 1048576 := by have := HIS.out; omega
    have HQ := Lib.hid (iQuote ⟨t.toArray⟩ w1 hll)
    clear HU hval htl hll
    go_wp2_with fail
    refine HQ.out.mono ?_
    rintro e w2 ⟨rfl, hb2⟩
    go_wp2
    go_ret2
    exact ⟨rfl, hb.trans (hb2.mono hb.size)⟩
  · clear h
    go_enter Tryz.func50, Tryz.ntmps50
    go_wp2
    go_ret2
    exact ⟨rfl, Below.refl _ _⟩
end Go.Proofs.YtjflnpcmjibcpaaGreatDoor
