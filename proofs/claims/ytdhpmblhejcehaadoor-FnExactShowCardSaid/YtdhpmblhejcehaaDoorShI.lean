/- The program's showing of a value. -/
import Derived.Test.YtdhpmblhejcehaaDoorShS
import Derived.Test.YtdhpmblhejcehaaDoorShTab
import Derived.Test.YtdhpmblhejcehaaDoorHqI
import Derived.Test.YtdhpmblhejcehaaDoorQuoteI
namespace Go.Proofs.YtdhpmblhejcehaaDoor
set_option linter.unusedVariables false
set_option maxRecDepth 100000
open Go.ChangeShapes Go.WideShapes Go.ChangeAt Go.RowKit

/-- A text out of pieces, joined: the new literal's block, the pieces. -/
theorem joined_new (xs : List ByteArray) (C : Array Value) (n : Nat) (W : World) (hC : C.toList = xs.map Value.string) (hn : n = W.heap.size) (hx : xs.length ≤ 10) (hl : (cat xs).length ≤ 140737488355328) :
    Calls Tryd.prog 52 #[.slice (some ⟨n, 0, none⟩) xs.length xs.length] (W.alloc (.cells C 9)) fun e w' => e = .returned (.string ⟨(cat xs).toArray⟩) ∧ Below W.heap.size W w' := by
  subst hn
  exact (joined W.heap.size 0 xs.length xs _ (strs_new W C _ xs hC) (by simp) (by omega) (Nat.le_refl _) hl).mono fun e w' h => ⟨h.1, below_tr (Joins.below_alloc1 W _) h.2⟩
theorem sh_data (s : ByteArray) : s.toList = s.data.toList := by rw [pr_toList]
set_option maxHeartbeats 2000000 in
theorem iShCell (pa : Option Addr) (m ca : Nat) (deep : Int) (c : Ce) (A B : List UInt8) (w : World) (E : TabS w) (hk : 1 ≤ c.kind ∧ c.kind ≤ 6) (hn : I64 c.n) (hs : c.s.size ≤ 1048576) (hA : A.length ≤ 40000000000) (hB : B.length ≤ 40000000000)
    (HA : ∀ W, Below w.heap.size w W → Calls Tryd.prog 32 #[.slice pa m ca, .agg #[.int .i64 c.a.kind, .int .i64 c.a.n, .string c.a.s], .int .i64 deep] W fun e w' => e = .returned (.string ⟨A.toArray⟩) ∧ Below W.heap.size W w')
    (HB : (c.kind = 2 ∨ c.kind = 6) → ∀ W, Below w.heap.size w W → Calls Tryd.prog 32 #[.slice pa m ca, .agg #[.int .i64 c.b.kind, .int .i64 c.b.n, .string c.b.s], .int .i64 deep] W fun e w' => e = .returned (.string ⟨B.toArray⟩) ∧ Below W.heap.size W w') :
    Calls Tryd.prog 53 #[.slice pa m ca, .agg #[.int .i64 c.kind, .int .i64 c.n, .string c.s, .int .i64 c.a.kind, .int .i64 c.a.n, .string c.a.s, .int .i64 c.b.kind, .int .i64 c.b.n, .string c.b.s], .int .i64 deep] w fun e w' => e = .returned (.string ⟨(ceT c A B).toArray⟩) ∧ Below w.heap.size w w' := by
  obtain ⟨k, n, s, ⟨ak, an, sa⟩, ⟨bk, bn, sb⟩⟩ := c
  simp only at hk hn hs HA HB
  have HAH := fun W hW => Lib.hid (HA W hW)
  have HBH := fun h W hW => Lib.hid (HB h W hW)
  have HT := fun (W : World) (hW : Below w.heap.size w W) => Lib.hid (iNumText n W (by have := hn.1; have := hn.2; omega) (E.below hW).tab)
  have HNL := Lib.hid (sh_num n)
  obtain ⟨O, hO⟩ : ∃ O, O = Obj.cells #[.int .i64 k, .int .i64 n, .string s, .int .i64 ak, .int .i64 an, .string sa, .int .i64 bk, .int .i64 bn, .string sb] 53 := ⟨_, rfl⟩
  have bO : Below w.heap.size w (w.alloc O) := Joins.below_alloc1 w O
  have z : w.heap.size < (w.alloc O).heap.size := by simp
  have d : ∀ W, Below (w.alloc O).heap.size (w.alloc O) W → (W.cell? ⟨w.heap.size, 0, none⟩ = some (.int .i64 k) ∧ W.cell? ⟨w.heap.size, 1, none⟩ = some (.int .i64 n) ∧ W.cell? ⟨w.heap.size, 2, none⟩ = some (.string s)) ∧ (W.cell? ⟨w.heap.size, 6, none⟩ = some (.int .i64 bk) ∧ W.cell? ⟨w.heap.size, 7, none⟩ = some (.int .i64 bn) ∧ W.cell? ⟨w.heap.size, 8, none⟩ = some (.string sb)) := by
    intro W hW
    have q : ∀ i, W.cell? ⟨w.heap.size, i, none⟩ = (w.alloc O).cell? ⟨w.heap.size, i, none⟩ := fun i => hW.cell (p := ⟨w.heap.size, i, none⟩) z
    simp only [q, hO]
    simp
  have hkk : k = 1 ∨ k = 2 ∨ k = 3 ∨ k = 4 ∨ k = 5 ∨ k = 6 := by omega
  clear HA HB hk hn E
  rcases hkk with rfl | rfl | rfl | rfl | rfl | rfl
  · have HC := Lib.hid (show ceT ⟨1, n, s, ⟨ak, an, sa⟩, ⟨bk, bn, sb⟩⟩ A B = cat [⟨#[40]⟩, s, ⟨#[32]⟩, ⟨A.toArray⟩, ⟨#[41]⟩] from by simp [ceT, cat, sh_data])
    have hl : (cat [⟨#[40]⟩, s, ⟨#[32]⟩, ⟨A.toArray⟩, ⟨#[41]⟩]).length ≤ 140737488355328 := by simp [cat]; omega
    go_enter Tryd.func53, Tryd.ntmps53
    go_wp2_with fail
    rw [← hO]
    refine (HAH _ bO).out.mono ?_
    rintro e w1 ⟨rfl, hb1⟩
    obtain ⟨⟨d0, d1, d2⟩, d6, d7, d8⟩ := d w1 hb1
    have bb1 := below_tr bO hb1
    clear hO d
    go_wp2_with (go_at_call 52; refine (joined_new [⟨#[40]⟩, s, ⟨#[32]⟩, ⟨A.toArray⟩, ⟨#[41]⟩] _ w1.heap.size w1 rfl rfl (by simp) hl).mono ?_; rintro e w2 ⟨rfl, hb2⟩)
    go_ret
    exact ⟨by rw [HC.out]; rfl, below_tr bb1 hb2⟩
  · have HC := Lib.hid (show ceT ⟨2, n, s, ⟨ak, an, sa⟩, ⟨bk, bn, sb⟩⟩ A B = cat [⟨#[40]⟩, ⟨A.toArray⟩, ⟨#[44, 32]⟩, ⟨B.toArray⟩, ⟨#[41]⟩] from by simp [ceT, cat])
    have hl : (cat [⟨#[40]⟩, ⟨A.toArray⟩, ⟨#[44, 32]⟩, ⟨B.toArray⟩, ⟨#[41]⟩]).length ≤ 140737488355328 := by simp [cat]; omega
    go_enter Tryd.func53, Tryd.ntmps53
    go_wp2_with fail
    rw [← hO]
    refine (HAH _ bO).out.mono ?_
    rintro e w1 ⟨rfl, hb1⟩
    obtain ⟨⟨d0, d1, d2⟩, d6, d7, d8⟩ := d w1 hb1
    have bb1 := below_tr bO hb1
    clear hO d
    go_wp2_with fail
    refine (HBH (by simp) _ bb1).out.mono ?_
    rintro e w2 ⟨rfl, hb2⟩
    have bb2 := below_tr bb1 hb2
    go_wp2_with (go_at_call 52; refine (joined_new [⟨#[40]⟩, ⟨A.toArray⟩, ⟨#[44, 32]⟩, ⟨B.toArray⟩, ⟨#[41]⟩] _ w2.heap.size w2 rfl rfl (by simp) hl).mono ?_; rintro e w3 ⟨rfl, hb3⟩)
    go_ret
    exact ⟨by rw [HC.out]; rfl, below_tr bb2 hb3⟩
  · have HC := Lib.hid (show ceT ⟨3, n, s, ⟨ak, an, sa⟩, ⟨bk, bn, sb⟩⟩ A B = cat [⟨#[60, 102, 117, 110, 32]⟩, ⟨(numL n).toArray⟩, ⟨#[32]⟩, ⟨A.toArray⟩, ⟨#[62]⟩] from by simp [ceT, cat])
    have hl : (cat [⟨#[60, 102, 117, 110, 32]⟩, ⟨(numL n).toArray⟩, ⟨#[32]⟩, ⟨A.toArray⟩, ⟨#[62]⟩]).length ≤ 140737488355328 := by have := HNL.out; simp [cat]; omega
    go_enter Tryd.func53, Tryd.ntmps53
    go_wp2_with fail
    rw [← hO]
    refine (HAH _ bO).out.mono ?_
    rintro e w1 ⟨rfl, hb1⟩
    obtain ⟨⟨d0, d1, d2⟩, d6, d7, d8⟩ := d w1 hb1
    have bb1 := below_tr bO hb1
    clear hO d
    go_wp2_with fail
    refine (HT _ bb1).out.mono ?_
    rintro e w2 ⟨rfl, hb2⟩
    have bb2 := below_tr bb1 hb2
    go_wp2_with (go_at_call 52; refine (joined_new [⟨#[60, 102, 117, 110, 32]⟩, ⟨(numL n).toArray⟩, ⟨#[32]⟩, ⟨A.toArray⟩, ⟨#[62]⟩] _ w2.heap.size w2 rfl rfl (by simp) hl).mono ?_; rintro e w3 ⟨rfl, hb3⟩)
    go_ret
    exact ⟨by rw [HC.out]; rfl, below_tr bb2 hb3⟩
  · have HC := Lib.hid (show ceT ⟨4, n, s, ⟨ak, an, sa⟩, ⟨bk, bn, sb⟩⟩ A B = cat [⟨#[60, 114, 101, 99, 32]⟩, ⟨(numL n).toArray⟩, ⟨#[32]⟩, ⟨A.toArray⟩, ⟨#[62]⟩] from by simp [ceT, cat])
    have hl : (cat [⟨#[60, 114, 101, 99, 32]⟩, ⟨(numL n).toArray⟩, ⟨#[32]⟩, ⟨A.toArray⟩, ⟨#[62]⟩]).length ≤ 140737488355328 := by have := HNL.out; simp [cat]; omega
    go_enter Tryd.func53, Tryd.ntmps53
    go_wp2_with fail
    rw [← hO]
    refine (HAH _ bO).out.mono ?_
    rintro e w1 ⟨rfl, hb1⟩
    obtain ⟨⟨d0, d1, d2⟩, d6, d7, d8⟩ := d w1 hb1
    have bb1 := below_tr bO hb1
    clear hO d
    go_wp2_with fail
    refine (HT _ bb1).out.mono ?_
    rintro e w2 ⟨rfl, hb2⟩
    have bb2 := below_tr bb1 hb2
    go_wp2_with (go_at_call 52; refine (joined_new [⟨#[60, 114, 101, 99, 32]⟩, ⟨(numL n).toArray⟩, ⟨#[32]⟩, ⟨A.toArray⟩, ⟨#[62]⟩] _ w2.heap.size w2 rfl rfl (by simp) hl).mono ?_; rintro e w3 ⟨rfl, hb3⟩)
    go_ret
    exact ⟨by rw [HC.out]; rfl, below_tr bb2 hb3⟩
  · have HC := Lib.hid (show ceT ⟨5, n, s, ⟨ak, an, sa⟩, ⟨bk, bn, sb⟩⟩ A B = cat [⟨#[123]⟩, ⟨A.toArray⟩, ⟨#[125]⟩] from by simp [ceT, cat])
    have hl : (cat [⟨#[123]⟩, ⟨A.toArray⟩, ⟨#[125]⟩]).length ≤ 140737488355328 := by simp [cat]; omega
    go_enter Tryd.func53, Tryd.ntmps53
    go_wp2_with fail
    rw [← hO]
    refine (HAH _ bO).out.mono ?_
    rintro e w1 ⟨rfl, hb1⟩
    obtain ⟨⟨d0, d1, d2⟩, d6, d7, d8⟩ := d w1 hb1
    have bb1 := below_tr bO hb1
    clear hO d
    go_wp2_with (go_at_call 52; refine (joined_new [⟨#[123]⟩, ⟨A.toArray⟩, ⟨#[125]⟩] _ w1.heap.size w1 rfl rfl (by simp) hl).mono ?_; rintro e w2 ⟨rfl, hb2⟩)
    go_ret
    exact ⟨by rw [HC.out]; rfl, below_tr bb1 hb2⟩
  · have HC := Lib.hid (show ceT ⟨6, n, s, ⟨ak, an, sa⟩, ⟨bk, bn, sb⟩⟩ A B = cat [⟨#[91]⟩, ⟨A.toArray⟩, ⟨#[32]⟩, ⟨B.toArray⟩, ⟨#[93]⟩] from by simp [ceT, cat])
    have hl : (cat [⟨#[91]⟩, ⟨A.toArray⟩, ⟨#[32]⟩, ⟨B.toArray⟩, ⟨#[93]⟩]).length ≤ 140737488355328 := by simp [cat]; omega
    go_enter Tryd.func53, Tryd.ntmps53
    go_wp2_with fail
    rw [← hO]
    refine (HAH _ bO).out.mono ?_
    rintro e w1 ⟨rfl, hb1⟩
    obtain ⟨⟨d0, d1, d2⟩, d6, d7, d8⟩ := d w1 hb1
    have bb1 := below_tr bO hb1
    clear hO d
    go_wp2_with fail
    refine (HBH (by simp) _ bb1).out.mono ?_
    rintro e w2 ⟨rfl, hb2⟩
    have bb2 := below_tr bb1 hb2
    go_wp2_with (go_at_call 52; refine (joined_new [⟨#[91]⟩, ⟨A.toArray⟩, ⟨#[32]⟩, ⟨B.toArray⟩, ⟨#[93]⟩] _ w2.heap.size w2 rfl rfl (by simp) hl).mono ?_; rintro e w3 ⟨rfl, hb3⟩)
    go_ret
    exact ⟨by rw [HC.out]; rfl, below_tr bb2 hb3⟩
end Go.Proofs.YtdhpmblhejcehaaDoor
