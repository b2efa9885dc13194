/- The program's reading of what stands behind a backslash. -/
import Derived.Test.YtjflnpcmjibcpaaGreatDoorHexParse
import Derived.Test.YtjflnpcmjibcpaaGreatDoorTextNum
namespace Go.Proofs.YtjflnpcmjibcpaaGreatDoor
set_option linter.unusedVariables false
open Go.ChangeShapes Go.WideShapes Go.ChangeAt Go.RowKit

theorem synCell {w : World} (hV : Vars w) : ∃ tp p, w.cell? ⟨0, 0, none⟩ = some (.iface tp p) := by
  obtain ⟨tp, p, h⟩ := hV.syn
  exact ⟨tp, p, by simpa using World.var?_cell (show Tryz.prog.globalNamed "strconv.ErrSyntax" = some 0 by kernel_rfl) h 0⟩
def HexP (s : ByteArray) (w : World) (e : Ending) (w' : World) : Prop :=
  ∃ x err, e = .returned (.tuple #[.int .u64 x, err]) ∧ HexV s x ∧ Below w.heap.size w w'
theorem parseUint (s : ByteArray) (w : World) (h2 : s.size = 2) (hV : Vars w) :
    Calls Tryz.prog 74 #[.string s, .int .i64 16, .int .i64 8] w (HexP s w) := by
  have HI := Lib.hid (innerParse s w h2)
  have hsz : s.size ≤ 281474976710656 := by omega
  clear h2
  go_enter Tryz.func74, Tryz.ntmps74
  go_wp2_with fail
  refine HI.out.mono ?_
  rintro e w1 ⟨x, err, rfl, hx, herr, hb⟩
  rcases herr with rfl | rfl
  · go_wp2
    go_ret2
    exact ⟨x, _, rfl, hx, hb⟩
  · obtain ⟨tp, p, hc⟩ := synCell (hV.below hb)
    go_wp2_with fail
    refine (Tryz.strconv_toError_syntax _ s _ _ _ _ hsz hc (.inr ⟨tp, p, rfl⟩)).mono ?_
    rintro e w2 ⟨N, rfl, _, _, hb2⟩
    go_wp2
    go_ret2
    exact ⟨x, _, rfl, hx, hb.trans (hb2.mono hb.size)⟩

/-- What 'escaped' answers. -/
def EscR (s : ByteArray) (h : 0 < s.size) (w : World) (e : Ending) (w' : World) : Prop :=
  ∃ b n : Int, e = .returned (.tuple #[.int .u8 b, .int .i64 n]) ∧ 0 ≤ b ∧ b ≤ 255 ∧ Below w.heap.size w w' ∧
    (((s[0].toNat : Int) = 110 ∧ b = 10 ∧ n = 1) ∨ (¬ (s[0].toNat : Int) = 110 ∧ (s[0].toNat : Int) = 120 ∧ 3 ≤ s.size ∧ n = 3 ∧ HexV (s.extract 1 3) b) ∨
     (¬ (s[0].toNat : Int) = 110 ∧ ¬ ((s[0].toNat : Int) = 120 ∧ 3 ≤ s.size) ∧ b = (s[0].toNat : Int) ∧ n = 1))
theorem escaped (s : ByteArray) (w : World) (h : 0 < s.size) (hm : s.size ≤ 1048576) (hV : Vars w) :
    Calls Tryz.prog 64 #[.string s] w (EscR s h w) := by
  have hb0 := byte_bd2 s[0]
  by_cases h110 : (s[0].toNat : Int) = 110
  · have H110 := Lib.hid h110
    have t1 : ((s[0].toNat : Int) == 110) = true := by simpa using h110
    clear h110
    go_enter Tryz.func64, Tryz.ntmps64
    go_wp2
    go_ret2
    exact ⟨10, 1, rfl, by omega, by omega, Below.refl _ _, .inl ⟨H110.out, rfl, rfl⟩⟩
  have H110 := Lib.hid h110
  have t1 : ((s[0].toNat : Int) == 110) = false := by simpa using h110
  clear h110
  by_cases h120 : (s[0].toNat : Int) = 120
  · have H120 := Lib.hid h120
    have t2 : ((s[0].toNat : Int) == 120) = true := by simpa using h120
    clear h120
    by_cases h3 : 3 ≤ s.size
    · have hx : (s.extract 1 3).size = 2 := by simp [ByteArray.size_extract]; omega
      have HP := Lib.hid (parseUint (s.extract 1 3) w hx hV)
      clear hx
      go_enter Tryz.func64, Tryz.ntmps64
      go_wp2_with fail
      refine HP.out.mono ?_
      rintro e w1 ⟨x, err, rfl, hx, hb⟩
      have hx0 := hx.1
      have hx1 := hx.2.1
      go_wp2
      go_ret2
      exact ⟨x, 3, rfl, hx0, hx1, hb, .inr (.inl ⟨H110.out, H120.out, h3, rfl, hx⟩)⟩
    · go_enter Tryz.func64, Tryz.ntmps64
      go_wp2
      go_ret2
      exact ⟨_, 1, rfl, hb0.1, hb0.2, Below.refl _ _, .inr (.inr ⟨H110.out, fun h => h3 h.2, rfl, rfl⟩)⟩
  · have H120 := Lib.hid h120
    have t2 : ((s[0].toNat : Int) == 120) = false := by simpa using h120
    clear h120
    go_enter Tryz.func64, Tryz.ntmps64
    go_wp2
    go_ret2
    exact ⟨_, 1, rfl, hb0.1, hb0.2, Below.refl _ _, .inr (.inr ⟨H110.out, fun h => H120.out h.1, rfl, rfl⟩)⟩
end Go.Proofs.YtjflnpcmjibcpaaGreatDoor
