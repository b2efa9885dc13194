/- The program's check of type declarations: constructors that repeat, the whole. -/
import Derived.Test.YthghgbdpokplhaaGreatDoorCtI
import Derived.RegionTactic
import Derived.BigRegion
namespace Go.Proofs.YthghgbdpokplhaaGreatDoor
set_option linter.unusedVariables false
set_option maxRecDepth 100000
open Go.ChangeShapes Go.WideShapes Go.ChangeAt Go.RowKit

/-- What findCon hands back: a type, a constructor, whether there is one. -/
def FindPost (r : Bool) (w : World) (e : Ending) (w' : World) : Prop := ∃ (s1 : ByteArray) (n1 : Int) (p1 : Option Addr) (l1 k1 : Nat) (s2 : ByteArray) (h2 : Bool) (p2 : Option Addr) (l2 k2 : Nat),
  e = .returned (.tuple #[.agg #[.string s1, .int .i64 n1, .slice p1 l1 k1], .agg #[.string s2, .bool h2, .slice p2 l2 k2], .bool r]) ∧ Below w.heap.size w w'
theorem six0 (wr : World) (n : Nat) (a0 a1 a2 b0 b1 b2 o0 o1 o2 r0 r1 r2 : Value) (h0 : wr.cell? ⟨n, 0, none⟩ = some o0) (h1 : wr.cell? ⟨n, 1, none⟩ = some o1) (h2 : wr.cell? ⟨n, 2, none⟩ = some o2) (k0 : wr.cell? ⟨n + 1, 0, none⟩ = some r0) (k1 : wr.cell? ⟨n + 1, 1, none⟩ = some r1) (k2 : wr.cell? ⟨n + 1, 2, none⟩ = some r2) :
    ((((((wr.setCell ⟨n, 0, none⟩ a0).setCell ⟨n, 1, none⟩ a1).setCell ⟨n, 2, none⟩ a2).setCell ⟨n + 1, 0, none⟩ b0).setCell ⟨n + 1, 1, none⟩ b1).setCell ⟨n + 1, 2, none⟩ b2).cell? ⟨n, 0, none⟩ = some a0 ∧ ((((((wr.setCell ⟨n, 0, none⟩ a0).setCell ⟨n, 1, none⟩ a1).setCell ⟨n, 2, none⟩ a2).setCell ⟨n + 1, 0, none⟩ b0).setCell ⟨n + 1, 1, none⟩ b1).setCell ⟨n + 1, 2, none⟩ b2).cell? ⟨n, 1, none⟩ = some a1 ∧ ((((((wr.setCell ⟨n, 0, none⟩ a0).setCell ⟨n, 1, none⟩ a1).setCell ⟨n, 2, none⟩ a2).setCell ⟨n + 1, 0, none⟩ b0).setCell ⟨n + 1, 1, none⟩ b1).setCell ⟨n + 1, 2, none⟩ b2).cell? ⟨n, 2, none⟩ = some a2 ∧ ((((((wr.setCell ⟨n, 0, none⟩ a0).setCell ⟨n, 1, none⟩ a1).setCell ⟨n, 2, none⟩ a2).setCell ⟨n + 1, 0, none⟩ b0).setCell ⟨n + 1, 1, none⟩ b1).setCell ⟨n + 1, 2, none⟩ b2).cell? ⟨n + 1, 0, none⟩ = some b0 ∧ ((((((wr.setCell ⟨n, 0, none⟩ a0).setCell ⟨n, 1, none⟩ a1).setCell ⟨n, 2, none⟩ a2).setCell ⟨n + 1, 0, none⟩ b0).setCell ⟨n + 1, 1, none⟩ b1).setCell ⟨n + 1, 2, none⟩ b2).cell? ⟨n + 1, 1, none⟩ = some b1 ∧ ((((((wr.setCell ⟨n, 0, none⟩ a0).setCell ⟨n, 1, none⟩ a1).setCell ⟨n, 2, none⟩ a2).setCell ⟨n + 1, 0, none⟩ b0).setCell ⟨n + 1, 1, none⟩ b1).setCell ⟨n + 1, 2, none⟩ b2).cell? ⟨n + 1, 2, none⟩ = some b2 := by
  refine ⟨?_, ?_, ?_, ?_, ?_, ?_⟩ <;> simp [World.cell?_setCell_same', World.cell?_setCell_other, h0, h1, h2, k0, k1, k2]
theorem six_size (wr : World) (n : Nat) (a0 a1 a2 b0 b1 b2 : Value) : ((((((wr.setCell ⟨n, 0, none⟩ a0).setCell ⟨n, 1, none⟩ a1).setCell ⟨n, 2, none⟩ a2).setCell ⟨n + 1, 0, none⟩ b0).setCell ⟨n + 1, 1, none⟩ b1).setCell ⟨n + 1, 2, none⟩ b2).heap.size = wr.heap.size := by simp [World.setCell]
theorem six_below {B : Nat} {w wr : World} (n : Nat) (a0 a1 a2 b0 b1 b2 : Value) (hB : B ≤ n) (h : Below B w wr) : Below B w ((((((wr.setCell ⟨n, 0, none⟩ a0).setCell ⟨n, 1, none⟩ a1).setCell ⟨n, 2, none⟩ a2).setCell ⟨n + 1, 0, none⟩ b0).setCell ⟨n + 1, 1, none⟩ b1).setCell ⟨n + 1, 2, none⟩ b2) :=
  (((((h.setCell hB _).setCell hB _).setCell hB _).setCell (Nat.le_succ_of_le hB) _).setCell (Nat.le_succ_of_le hB) _).setCell (Nat.le_succ_of_le hB) _
theorem ad_cell (W : World) (O : Obj) (b j : Nat) (v : Value) (h : W.cell? ⟨b, j, none⟩ = some v) : (W.alloc O).drew.cell? ⟨b, j, none⟩ = some v := by
  have hb : b < W.heap.size := World.block_lt_of_cell? _ _ h
  show (W.alloc O).cell? ⟨b, j, none⟩ = _
  rw [World.cell?_alloc_lt _ _ ⟨b, j, none⟩ hb]; exact h
theorem as_drew {B : Nat} {a w : World} (h : Below B a w) : Below B a w.drew := ⟨h.os, h.tape, h.output, h.size, h.block⟩
theorem find_post {r : Bool} {w w' : World} {s1 s2 : ByteArray} {n1 : Int} {p1 p2 : Option Addr} {l1 k1 l2 k2 : Nat} {h2 b : Bool} (hr : r = b) (hb : Below w.heap.size w w') :
    FindPost r w (.returned (.tuple #[.agg #[.string s1, .int .i64 n1, .slice p1 l1 k1], .agg #[.string s2, .bool h2, .slice p2 l2 k2], .bool b])) w' := ⟨s1, n1, p1, l1, k1, s2, h2, p2, l2, k2, by rw [hr], hb⟩
set_option maxHeartbeats 4000000 in
theorem iFindCon (ts : List Tp) (v : Value) (s : ByteArray) (w : World) (hR : RowRd 3 TpEl w v ts) :
    Calls Tryz.prog 104 #[v, .string s] w (FindPost (conInB ts s) w) := by
  rw [conIn_is]
  obtain ⟨p, cap, rfl, hm, hRf⟩ := hR.form
  unfold maxLen at hm
  clear hR
  obtain ⟨O1, hO1⟩ : ∃ O, O = (Obj.cells #[.string ⟨#[]⟩, .int .i64 0, .slice none 0 0] 41) := ⟨_, rfl⟩
  obtain ⟨O2, hO2⟩ : ∃ O, O = (Obj.cells #[.string ⟨#[]⟩, .bool false, .slice none 0 0] 48) := ⟨_, rfl⟩
  have zb : ((w.alloc O1).alloc O2).heap.size = w.heap.size + 2 := by simp
  have B0 : Below w.heap.size w ((w.alloc O1).alloc O2) := Joins.below_alloc2 w O1 O2
  have q00 : ((w.alloc O1).alloc O2).cell? ⟨w.heap.size, 0, none⟩ = some (.string ⟨#[]⟩) := by rw [World.cell?_alloc_lt _ _ ⟨w.heap.size, 0, none⟩ (by simp), hO1]; simp
  have q01 : ((w.alloc O1).alloc O2).cell? ⟨w.heap.size, 1, none⟩ = some (.int .i64 0) := by rw [World.cell?_alloc_lt _ _ ⟨w.heap.size, 1, none⟩ (by simp), hO1]; simp
  have q02 : ((w.alloc O1).alloc O2).cell? ⟨w.heap.size, 2, none⟩ = some (.slice none 0 0) := by rw [World.cell?_alloc_lt _ _ ⟨w.heap.size, 2, none⟩ (by simp), hO1]; simp
  have q10 : ((w.alloc O1).alloc O2).cell? ⟨w.heap.size + 1, 0, none⟩ = some (.string ⟨#[]⟩) := by rw [hO2, World.cell?_alloc_at _ _ _ _ (by simp)]; rfl
  have q11 : ((w.alloc O1).alloc O2).cell? ⟨w.heap.size + 1, 1, none⟩ = some (.bool false) := by rw [hO2, World.cell?_alloc_at _ _ _ _ (by simp)]; rfl
  have q12 : ((w.alloc O1).alloc O2).cell? ⟨w.heap.size + 1, 2, none⟩ = some (.slice none 0 0) := by rw [hO2, World.cell?_alloc_at _ _ _ _ (by simp)]; rfl
  have g0 : ∀ j, ((w.alloc O1).alloc O2).frozen? ⟨w.heap.size, j, none⟩ = false := fun j => by rw [hO1, hO2]; simp
  have g1 : ∀ j, ((w.alloc O1).alloc O2).frozen? ⟨w.heap.size + 1, j, none⟩ = false := fun j => by rw [hO1, hO2]; simp
  go_enter Tryz.func104, Tryz.ntmps104
  go_wp2
  rw [← hO1, ← hO2]
  clear hO1 hO2
  generalize (w.alloc O1).alloc O2 = wb at *
  go_loopw [13] (fun ii wr => ∃ k : Nat, ii = .int .i64 k ∧ k ≤ ts.length ∧ ((ts.take k).any fun u => u.cons.any fun d => sameNB s d.name) = false ∧ Below wb.heap.size wb wr) (fun ii _ => ts.length - (intOf ii).toNat)
  case atStart => exact ⟨0, rfl, Nat.zero_le _, rfl, Below.refl _ _⟩
  case round =>
    obtain ⟨k, rfl, hk, hno, hbel⟩ := hrel
    generalize wr = wo at *
    have HN := Lib.hid hno
    clear hno
    have zo := hbel.size
    have BB : Below w.heap.size w wo := below_tr B0 hbel
    by_cases hlt : k < ts.length
    · obtain ⟨b, o, rfl, hbw, hc⟩ := hRf (by omega)
      have ex := TpEl.st w wo b _ _ (Kept.of_below BB) hbw (hc k hlt)
      have HY := Lib.hid (fun h => any_yes (fun u : Tp => u.cons.any fun d => sameNB s d.name) ts k hlt h)
      have HS := Lib.hid (fun h => any_snoc (fun u : Tp => u.cons.any fun d => sameNB s d.name) ts k hlt HN.out h)
      clear hc hRf
      generalize ts[k] = x at *
      obtain ⟨⟨e0, i0⟩, ⟨e1, i1⟩, ⟨v2, e2, r2⟩⟩ := ex
      obtain ⟨p2, c2, rfl, m2, hr2⟩ := r2.form
      unfold maxLen at m2
      have hAl := hbel.alloc zo (.cells #[.string x.name, .int .i64 x.params, .slice p2 x.cons.length c2] 41)
      obtain ⟨OX, hOX⟩ : ∃ O, O = (Obj.cells #[.string x.name, .int .i64 x.params, .slice p2 x.cons.length c2] 41) := ⟨_, rfl⟩
      rw [← hOX] at hAl
      have x0 : (wo.alloc OX).cell? ⟨wo.heap.size, 0, none⟩ = some (.string x.name) := by rw [hOX]; simp
      have x1 : (wo.alloc OX).cell? ⟨wo.heap.size, 1, none⟩ = some (.int .i64 x.params) := by rw [hOX]; simp
      have x2 : (wo.alloc OX).cell? ⟨wo.heap.size, 2, none⟩ = some (.slice p2 x.cons.length c2) := by rw [hOX]; simp
      have zx : wo.heap.size < (wo.alloc OX).heap.size := by simp
      have Bx : Below wo.heap.size wo (wo.alloc OX) := Joins.below_alloc1 _ _
      clear r2
      go_wp2
      rw [← hOX]
      clear hOX e0 e1 e2
      generalize wo.alloc OX = wx at *
      go_loopw [20] (fun jj wr => ∃ j : Nat, jj = .int .i64 j ∧ j ≤ x.cons.length ∧ ((x.cons.take j).any fun d => sameNB s d.name) = false ∧ Below wx.heap.size wx wr) (fun jj _ => x.cons.length - (intOf jj).toNat)
      case atStart => exact ⟨0, rfl, Nat.zero_le _, rfl, Below.refl _ _⟩
      case round =>
        obtain ⟨j, rfl, hj, hno2, hbx⟩ := hrel
        have HN2 := Lib.hid hno2
        clear hno2
        have zw := hbx.size
        have Bo : Below wo.heap.size wo wr := below_tr Bx hbx
        have Bb : Below wb.heap.size wb wr := below_tr hbel Bo
        have y0 := (hbx.cell (p := ⟨wo.heap.size, 0, none⟩) zx).trans x0
        have y1 := (hbx.cell (p := ⟨wo.heap.size, 1, none⟩) zx).trans x1
        have y2 := (hbx.cell (p := ⟨wo.heap.size, 2, none⟩) zx).trans x2
        by_cases hjl : j < x.cons.length
        · obtain ⟨b3, o3, rfl, hb3, hc3⟩ := hr2 (by omega)
          have ec := CnEl.st wo wr b3 _ _ (Kept.of_below Bo) hb3 (hc3 j hjl)
          have HY2 := Lib.hid (fun h => any_yes (fun d : Cn => sameNB s d.name) x.cons j hjl h)
          have HS2 := Lib.hid (fun h => any_snoc (fun d : Cn => sameNB s d.name) x.cons j hjl HN2.out h)
          clear hc3 hr2
          generalize x.cons[j] = c at *
          obtain ⟨⟨f0, l0⟩, f1, ⟨v5, f2, r5⟩⟩ := ec
          unfold BoolEl at f1
          obtain ⟨p5, c5, rfl, m5, -⟩ := r5.form
          have hA2 := hbx.alloc zw (.cells #[.string c.name, .bool c.has, .slice p5 c.arg.length c5] 48)
          have nw0 : wo.heap.size ≠ wr.heap.size := by omega
          have nw1 : wr.heap.size ≠ wo.heap.size := by omega
          cases q1 : c.name.toList == s.toList
          · have HS3 := Lib.hid (HS2.out (by simp only [sameNB, q1]))
            go_wp2
            go_roundw
            case rel => exact ⟨j + 1, by go_num, by omega, HS3.out, hA2⟩
            case measure => simp [intOf]; omega
          · have HY3 := Lib.hid (HY.out (HY2.out (by simp only [sameNB, q1])))
            have zwb : w.heap.size + 1 < wr.heap.size := by omega
            have u00 := (Bb.cell (p := ⟨w.heap.size, 0, none⟩) (by show w.heap.size < _; omega)).trans q00
            have u01 := (Bb.cell (p := ⟨w.heap.size, 1, none⟩) (by show w.heap.size < _; omega)).trans q01
            have u02 := (Bb.cell (p := ⟨w.heap.size, 2, none⟩) (by show w.heap.size < _; omega)).trans q02
            have u10 := (Bb.cell (p := ⟨w.heap.size + 1, 0, none⟩) (by show w.heap.size + 1 < _; omega)).trans q10
            have u11 := (Bb.cell (p := ⟨w.heap.size + 1, 1, none⟩) (by show w.heap.size + 1 < _; omega)).trans q11
            have u12 := (Bb.cell (p := ⟨w.heap.size + 1, 2, none⟩) (by show w.heap.size + 1 < _; omega)).trans q12
            have h00 := (Bb.frozen (p := ⟨w.heap.size, 0, none⟩) (by show w.heap.size < _; omega)).trans (g0 0)
            have h01 := (Bb.frozen (p := ⟨w.heap.size, 1, none⟩) (by show w.heap.size < _; omega)).trans (g0 1)
            have h02 := (Bb.frozen (p := ⟨w.heap.size, 2, none⟩) (by show w.heap.size < _; omega)).trans (g0 2)
            have h10 := (Bb.frozen (p := ⟨w.heap.size + 1, 0, none⟩) (by show w.heap.size + 1 < _; omega)).trans (g1 0)
            have h11 := (Bb.frozen (p := ⟨w.heap.size + 1, 1, none⟩) (by show w.heap.size + 1 < _; omega)).trans (g1 1)
            have h12 := (Bb.frozen (p := ⟨w.heap.size + 1, 2, none⟩) (by show w.heap.size + 1 < _; omega)).trans (g1 2)
            have B6 : Below w.heap.size w wr := below_tr B0 Bb
            have n1 : w.heap.size ≠ wr.heap.size := by omega
            have n2 : w.heap.size + 1 ≠ wr.heap.size := by omega
            have n3 : wr.heap.size ≠ w.heap.size := by omega
            have n4 : wr.heap.size ≠ w.heap.size + 1 := by omega
            have n5 : wo.heap.size ≠ w.heap.size := by omega
            have n6 : wo.heap.size ≠ w.heap.size + 1 := by omega
            have n7 : w.heap.size < wr.heap.size := by omega
            have n8 : wo.heap.size < wr.heap.size := by omega
            clear q00 q01 q02 q10 q11 q12 g0 g1
            go_wp2
            go_region
            go_wp2
            obtain ⟨t0, t1, t2, t3, t4, t5⟩ := six0 wr w.heap.size (.string x.name) (.int .i64 x.params) (.slice (some ⟨b3, o3, none⟩) x.cons.length c2) (.string c.name) (.bool c.has) (.slice p5 c.arg.length c5) _ _ _ _ _ _ u00 u01 u02 u10 u11 u12
            have t0' := ad_cell _ (.cells #[.string c.name, .bool c.has, .slice p5 c.arg.length c5] 48) _ _ _ t0
            have t1' := ad_cell _ (.cells #[.string c.name, .bool c.has, .slice p5 c.arg.length c5] 48) _ _ _ t1
            have t2' := ad_cell _ (.cells #[.string c.name, .bool c.has, .slice p5 c.arg.length c5] 48) _ _ _ t2
            have t3' := ad_cell _ (.cells #[.string c.name, .bool c.has, .slice p5 c.arg.length c5] 48) _ _ _ t3
            have t4' := ad_cell _ (.cells #[.string c.name, .bool c.has, .slice p5 c.arg.length c5] 48) _ _ _ t4
            have t5' := ad_cell _ (.cells #[.string c.name, .bool c.has, .slice p5 c.arg.length c5] 48) _ _ _ t5
            refine bodyPost_ret (v := .tuple #[.agg #[.string x.name, .int .i64 x.params, .slice (some ⟨b3, o3, none⟩) x.cons.length c2], .agg #[.string c.name, .bool c.has, .slice p5 c.arg.length c5], .bool true]) (by simp [results, Tryz.results104, go_sem, t0', t1', t2', t3', t4', t5']) rfl (find_post HY3.out (as_drew ((six_below _ _ _ _ _ _ _ (Nat.le_refl _) B6).alloc (by rw [six_size]; exact B6.size) _)))
        · obtain rfl : j = x.cons.length := by omega
          rw [List.take_length] at HN2
          have HS3 := Lib.hid (HS.out HN2.out)
          go_wp2
          go_roundw
          case rel => exact ⟨k + 1, by go_num, by omega, HS3.out, Bb⟩
          case measure => simp [intOf]; omega
    · obtain rfl : k = ts.length := by omega
      rw [List.take_length] at HN
      have u00 := (hbel.cell (p := ⟨w.heap.size, 0, none⟩) (by show w.heap.size < _; omega)).trans q00
      have u01 := (hbel.cell (p := ⟨w.heap.size, 1, none⟩) (by show w.heap.size < _; omega)).trans q01
      have u02 := (hbel.cell (p := ⟨w.heap.size, 2, none⟩) (by show w.heap.size < _; omega)).trans q02
      have u10 := (hbel.cell (p := ⟨w.heap.size + 1, 0, none⟩) (by show w.heap.size + 1 < _; omega)).trans q10
      have u11 := (hbel.cell (p := ⟨w.heap.size + 1, 1, none⟩) (by show w.heap.size + 1 < _; omega)).trans q11
      have u12 := (hbel.cell (p := ⟨w.heap.size + 1, 2, none⟩) (by show w.heap.size + 1 < _; omega)).trans q12
      have h00 := (hbel.frozen (p := ⟨w.heap.size, 0, none⟩) (by show w.heap.size < _; omega)).trans (g0 0)
      have h01 := (hbel.frozen (p := ⟨w.heap.size, 1, none⟩) (by show w.heap.size < _; omega)).trans (g0 1)
      have h02 := (hbel.frozen (p := ⟨w.heap.size, 2, none⟩) (by show w.heap.size < _; omega)).trans (g0 2)
      have h10 := (hbel.frozen (p := ⟨w.heap.size + 1, 0, none⟩) (by show w.heap.size + 1 < _; omega)).trans (g1 0)
      have h11 := (hbel.frozen (p := ⟨w.heap.size + 1, 1, none⟩) (by show w.heap.size + 1 < _; omega)).trans (g1 1)
      have h12 := (hbel.frozen (p := ⟨w.heap.size + 1, 2, none⟩) (by show w.heap.size + 1 < _; omega)).trans (g1 2)
      clear q00 q01 q02 q10 q11 q12 g0 g1
      go_wp2
      obtain ⟨t0, t1, t2, t3, t4, t5⟩ := six0 wo w.heap.size (.string ⟨#[]⟩) (.int .i64 0) (.slice none 0 0) (.string ⟨#[]⟩) (.bool false) (.slice none 0 0) _ _ _ _ _ _ u00 u01 u02 u10 u11 u12
      refine bodyPost_ret (v := .tuple #[.agg #[.string ⟨#[]⟩, .int .i64 0, .slice none 0 0], .agg #[.string ⟨#[]⟩, .bool false, .slice none 0 0], .bool false]) (by simp [results, Tryz.results104, go_sem, t0, t1, t2, t3, t4, t5]) rfl (find_post HN.out (six_below _ _ _ _ _ _ _ (Nat.le_refl _) BB))

set_option maxHeartbeats 4000000 in
theorem iRepeats (ts : List Tp) (k : Nat) (x : Tp) (v v2 : Value) (w : World) (hR : RowRd 3 TpEl w v (ts.take k)) (hR2 : RowRd 3 CnEl w v2 x.cons) :
    Calls Tryz.prog 67 #[v, v2] w fun e w' => e = .returned (.bool (twiceCB ts k x)) ∧ Below w.heap.size w w' := by
  have hF := fun (s : ByteArray) (W : World) (hW : Below w.heap.size w W) => iFindCon (ts.take k) v s W (hR.kept TpEl.st (Kept.of_below hW))
  have hC := fun (j : Nat) (hj : j ≤ x.cons.length) (s : ByteArray) (bc : Nat) (va : Value) (hva : RowRd 3 CnEl w va (x.cons.take j)) (W : World) (hW : Below w.heap.size w W) (q : W.cell? ⟨bc, 0, none⟩ = some (.string s)) (hb : bc < W.heap.size) =>
    iContainsCn 103 #[.pointer (some ⟨bc, 0, none⟩)] e_iHasNameC (fun d => sameNB s d.name) (x.cons.take j) va W (hva.kept CnEl.st (Kept.of_below hW))
      (fun i hi u W' hW' hu => iHasNameC s bc (x.cons.take j)[i] u W' ((hW'.cell (p := ⟨bc, 0, none⟩) hb).trans q) (Nat.lt_of_lt_of_le hb hW'.size) hu)
  have hrep := rep_is ts k x
  have hyes := fun j hj h => twc_yes (ts := ts) (i := k) (t := x) (k := j) hj h
  have hno := fun h => twc_no (ts := ts) (i := k) (t := x) h
  have hR20 := hR2
  obtain ⟨p, n, cap, rfl⟩ : ∃ a n c, v = .slice a n c := by obtain ⟨p, cap, e, _⟩ := hR.form; exact ⟨_, _, _, e⟩
  obtain ⟨p2, c2, rfl, hm2, hRf⟩ := hR2.form
  have hcap := fun h => hR20.cap h
  have hTk := fun j hj => RowRd.take hR20 j hj
  have HRep := Lib.hid hrep
  have HYes := Lib.hid hyes
  have HNo := Lib.hid hno
  unfold maxLen at hm2
  clear hrep hyes hno hR hR2 hR20
  go_enter Tryz.func67, Tryz.ntmps67
  go_wp2
  go_loopw [13] (fun jj wr => ∃ j : Nat, jj = .int .i64 j ∧ j ≤ x.cons.length ∧ (∀ i, i < j → repB ts k x i = false) ∧ Below w.heap.size w wr) (fun jj _ => x.cons.length - (intOf jj).toNat)
  case atStart => exact ⟨0, rfl, Nat.zero_le _, fun i h => absurd h (by omega), Below.refl _ _⟩
  case round =>
    obtain ⟨j, rfl, hj, hz, hbel⟩ := hrel
    have HZ := Lib.hid hz
    clear hz
    have zw := hbel.size
    by_cases hjl : j < x.cons.length
    · obtain ⟨b, o, rfl, hb, hc⟩ := hRf (by omega)
      have ec := CnEl.st w wr b _ _ (Kept.of_below hbel) hb (hc j hjl)
      have hcp := hcap (by omega)
      have hva := hTk j hj
      have hrj := HRep.out j hjl
      have HYj := Lib.hid (HYes.out j hjl)
      have hFj := hF x.cons[j].name
      have hCj := hC j hj x.cons[j].name
      clear hc hRf hF hC hTk
      generalize x.cons[j] = c at *
      obtain ⟨⟨f0, l0⟩, f1, ⟨v5, f2, r5⟩⟩ := ec
      unfold BoolEl at f1
      obtain ⟨p5, c5, rfl, m5, -⟩ := r5.form
      have HRj := Lib.hid hrj
      clear hrj
      have hjc : (j : Int) ≤ (c2 : Int) := by omega
      have hjc2 : j ≤ c2 := by omega
      have BA : Below w.heap.size w (wr.alloc (.cells #[.string c.name, .bool c.has, .slice p5 c.arg.length c5] 48)) := hbel.alloc zw _
      have y0 : (wr.alloc (.cells #[.string c.name, .bool c.has, .slice p5 c.arg.length c5] 48)).cell? ⟨wr.heap.size, 0, none⟩ = some (.string c.name) := by simp
      have zy : wr.heap.size < (wr.alloc (.cells #[.string c.name, .bool c.has, .slice p5 c.arg.length c5] 48)).heap.size := by simp
      go_wp2_with fail
      refine (hFj _ BA).mono ?_
      rintro e w1 ⟨s1, n1, q1, l1, k1, s2, h2, q2, l2, k2, rfl, hb1⟩
      have B1 := below_tr BA hb1
      have y1 := (hb1.cell (p := ⟨wr.heap.size, 0, none⟩) zy).trans y0
      have z1 := Nat.lt_of_lt_of_le zy hb1.size
      clear y0
      cases hcn : conInB (ts.take k) c.name
      · rw [hcn] at HRj
        have B2 := fun (O1 O2 : Obj) => ((B1.alloc (by omega) O1).alloc (by simp; omega) O2 : Below w.heap.size w ((w1.alloc O1).alloc O2))
        have y2 : ∀ O1 O2 : Obj, ((w1.alloc O1).alloc O2).cell? ⟨wr.heap.size, 0, none⟩ = some (.string c.name) := fun O1 O2 => by
          rw [World.cell?_alloc_lt _ _ ⟨wr.heap.size, 0, none⟩ (by simp; omega), World.cell?_alloc_lt _ _ ⟨wr.heap.size, 0, none⟩ z1]; exact y1
        have hD := fun (O1 O2 : Obj) => hCj wr.heap.size _ hva _ (B2 O1 O2) (y2 O1 O2) (by simp; omega)
        clear hFj hCj hcn y2
        go_wp2_with fail
        refine (hD _ _).mono ?_
        rintro e w2 ⟨rfl, hb2⟩
        have B3 := below_tr (B2 _ _) hb2
        cases ha : (x.cons.take j).any fun d => sameNB c.name d.name
        · have HS := Lib.hid (show ∀ i, i < j + 1 → repB ts k x i = false from fun i hi => by
            by_cases e : i = j
            · subst e; rw [HRj.out, ha]; rfl
            · exact HZ.out i (by omega))
          clear ha
          go_wp2
          go_roundw
          case rel => exact ⟨j + 1, by go_num, by omega, HS.out, B3⟩
          case measure => simp [intOf]; omega
        · have HT := Lib.hid (HYj.out (by rw [HRj.out, ha]; rfl))
          clear ha
          go_wp2
          go_ret
          exact ⟨ret_bool HT.out.symm, B3⟩
      · rw [hcn] at HRj
        have HT := Lib.hid (HYj.out (by rw [HRj.out]; simp))
        have B2 := fun (O1 O2 : Obj) => ((B1.alloc (by omega) O1).alloc (by simp; omega) O2 : Below w.heap.size w ((w1.alloc O1).alloc O2))
        clear hcn hFj hCj
        go_wp2
        go_ret
        exact ⟨ret_bool HT.out.symm, B2 _ _⟩
    · obtain rfl : j = x.cons.length := by omega
      have HF := Lib.hid (HNo.out HZ.out)
      go_wp2
      go_ret
      exact ⟨ret_bool HF.out.symm, hbel⟩
end Go.Proofs.YthghgbdpokplhaaGreatDoor
