/- The law's own readers and markers of tokens. -/
import Derived.Test.YtjflnpcmjibcpaaDoorRows
import Derived.Test.YtjflnpcmjibcpaaDoorToks
import Derived.Test.YtjflnpcmjibcpaaDoorQuote
import Derived.WalkKit
import Derived.ProofKit
import Derived.OpenShut
import Derived.Lib.Hide
import Derived.Lib.SmallJoins
import Derived.StillTailTactics
import Derived.Deep.RegionHeld3
import Derived.Outline
namespace Go.Proofs.YtjflnpcmjibcpaaDoor
set_option linter.unusedVariables false
set_option maxRecDepth 100000
open Go.ChangeShapes Go.WideShapes Go.ChangeAt Go.RowKit

/-- What the law lays in place of the k-th text. -/
def digC (k : Nat) : UInt8 := UInt8.ofNat (48 + k % 10)
theorem digC_v (k : Nat) : ((digC k).toNat : Int) = 48 + (k : Int) % 10 := by rw [digC, UInt8.toNat_ofNat']; omega
def mkF : Nat → Nat → List UInt8 → List UInt8
  | 0, _, out => out
  | f + 1, k, out => if k = 0 then out else mkF f (k / 10) (digC k :: out)
def markS (k : Nat) : ByteArray := bs (109 :: mkF k k [])
theorem mkF_step (f k : Nat) (out : List UInt8) (h : 0 < k) (hf : k ≤ f) : mkF f k out = mkF (f - 1) (k / 10) (digC k :: out) := by
  cases f with
  | zero => omega
  | succ f => rw [mkF, if_neg (by omega)]; rfl
theorem mkF_end (f : Nat) (out : List UInt8) : mkF f 0 out = out := by cases f <;> rfl
theorem cat_bs (a b : List UInt8) : bs a ++ bs b = bs (a ++ b) := by
  have := Joins.data_append (bs a) (bs b)
  rw [← bs_eta (bs a ++ bs b), this, bs_list, bs_list]
theorem conv_digit (j n : Nat) (wr : World) (hn : n = wr.heap.size) :
    (convert 46 9 (.slice (some ⟨n, 0, none⟩) 1 1)).run Tryd.prog (wr.alloc (.cells #[.int .u8 (48 + (j : Int) % 10)] 5)) = .ok (.string (bs [digC j])) (wr.alloc (.cells #[.int .u8 (48 + (j : Int) % 10)] 5)) := by
  subst hn
  refine run_convert_bytes_back _ 46 9 5 ⟨wr.heap.size, 0, none⟩ 1 [digC j] Tryd.underlying46 Tryd.underlying5 Tryd.underlying9 fun i hi => ?_
  obtain rfl : i = 0 := by simp at hi; exact hi
  have hv : ((digC j).toNat : Int) = 48 + (j : Int) % 10 := digC_v j
  rw [add_zero_off, World.cell?_alloc_new]
  show some (Value.int .u8 (48 + (j : Int) % 10)) = some (Value.int .u8 ((digC j).toNat : Int))
  rw [hv]
theorem markText (k : Nat) (w : World) (h0 : 0 < k) (h1 : k ≤ 1000000) :
    Calls Tryd.prog 22 #[.int .i64 k] w fun e w' => e = .returned (.string (markS k)) ∧ Below w.heap.size w w' := by
  have hk0 : ¬ k = 0 := by omega
  go_enter Tryd.func22, Tryd.ntmps22
  go_wp2
  go_loopw [0, 3] (fun n o wr => ∃ (j f : Nat) (out : List UInt8), n = .int .i64 j ∧ o = .string (bs out) ∧ j ≤ f ∧ f ≤ k ∧ out.length + f ≤ k ∧ mkF f j out = mkF k k [] ∧ Below w.heap.size w wr ∧ w.heap.size ≤ wr.heap.size) (fun n _ _ => (intOf n).toNat)
  case atStart => exact ⟨k, k, [], rfl, rfl, Nat.le_refl _, Nat.le_refl _, by simp, rfl, Below.refl _ _, Nat.le_refl _⟩
  case round =>
    obtain ⟨j, f, out, rfl, rfl, hjf, hfk, hol, hm, hbel, hBs⟩ := hrel
    have HE := Lib.hid hm
    clear hm
    by_cases hlt : 0 < j
    · have hcv := conv_digit j _ wr rfl
      have hz : ¬ 9223372036854775807 < (bs [digC j]).size + (bs out).size := by rw [bs_size, bs_size]; simp; omega
      have hm2 := mkF_step f j out hlt hjf
      rw [HE.out] at hm2
      have HM2 := Lib.hid hm2.symm
      clear hm2
      go_wp2
      go_roundw
      case rel => exact ⟨j / 10, f - 1, digC j :: out, by go_num, congrArg Value.string (cat_bs _ _), by omega, by omega, by simp; omega, HM2.out, hbel.alloc hBs _, by simp; omega⟩
      case measure => simp [intOf]; omega
    · obtain rfl : j = 0 := by omega
      have hfin : mkF k k [] = out := by rw [← HE.out, mkF_end]
      have HF := Lib.hid hfin
      clear hfin
      go_wp2
      · have h9 := ‹9223372036854775807 < 1 + (bs out).size›
        rw [bs_size] at h9
        omega
      · go_ret
        exact ⟨by rw [markS, HF.out]; exact congrArg (fun b => Ending.returned (.string b)) (cat_bs [109] out), hbel⟩
theorem markTextI (a : Int) (k : Nat) (w : World) (ha : a = k) (h0 : 0 < a) (h1 : a ≤ 1000000) :
    Calls Tryd.prog 22 #[.int .i64 a] w fun e w' => e = .returned (.string (markS k)) ∧ Below w.heap.size w w' := by
  subst ha; exact markText k w (by omega) (by omega)
theorem eqTok (k n p : Int) (s : ByteArray) (w : World) :
    Calls Tryd.prog 21 #[.agg #[.int .i64 k, .int .i64 n, .string s, .int .i64 p], .agg #[.int .i64 k, .int .i64 n, .string s, .int .i64 p]] w fun e w' => e = .returned (.bool true) ∧ Below w.heap.size w w' := by
  go_enter Tryd.func21, Tryd.ntmps21
  go_wp2
  go_ret
  exact ⟨rfl, Joins.below_alloc2 w _ _⟩
/-- The slice at a holds the tokens l. -/
def TokRow (w : World) (a : Option Addr) (l : List Tk) : Prop :=
  l = [] ∨ ∃ g, a = some ⟨g, 0, none⟩ ∧ g < w.heap.size ∧ ∀ i (h : i < l.length), w.cell? ⟨g, i * 4, none⟩ = some (.int .i64 l[i].k) ∧ w.cell? ⟨g, i * 4 + 1, none⟩ = some (.int .i64 l[i].n) ∧ w.cell? ⟨g, i * 4 + 2, none⟩ = some (.string (bs l[i].s)) ∧ w.cell? ⟨g, i * 4 + 3, none⟩ = some (.int .i64 ((l[i].at_ : Nat) : Int))
theorem TokRow.below {w w' : World} {a : Option Addr} {l : List Tk} (h : TokRow w a l) (hb : Below w.heap.size w w') : TokRow w' a l := by
  rcases h with h | ⟨g, h1, h2, h3⟩
  · exact .inl h
  · refine .inr ⟨g, h1, Nat.lt_of_lt_of_le h2 hb.size, fun i hi => ?_⟩
    obtain ⟨c0, c1, c2, c3⟩ := h3 i hi
    exact ⟨by rw [hb.cell h2]; exact c0, by rw [hb.cell h2]; exact c1, by rw [hb.cell h2]; exact c2, by rw [hb.cell h2]; exact c3⟩
theorem eqTokS (a b : Option Addr) (cap cap' : Nat) (l : List Tk) (w : World) (hl : l.length ≤ 4000) (ha : TokRow w a l) (hb : TokRow w b l) :
    Calls Tryd.prog 6 #[.slice a l.length cap, .slice b l.length cap'] w fun e w' => e = .returned (.bool true) ∧ Below w.heap.size w w' := by
  go_enter Tryd.func6, Tryd.ntmps6
  go_wp2
  go_loopw [5] (fun i wr => ∃ j : Nat, i = .int .i64 j ∧ j ≤ l.length ∧ Below w.heap.size w wr) (fun i _ => l.length - (intOf i).toNat)
  case atStart => exact ⟨0, rfl, Nat.zero_le _, Below.refl _ _⟩
  case round =>
    obtain ⟨j, rfl, hj, hbel⟩ := hrel
    by_cases hlt : j < l.length
    · rcases ha with ha | ⟨g, rfl, hg, hca⟩
      · rw [ha] at hlt; simp at hlt
      rcases hb with hb | ⟨g', rfl, hg', hcb⟩
      · rw [hb] at hlt; simp at hlt
      obtain ⟨a0, a1, a2, a3⟩ := hca j hlt
      obtain ⟨b0, b1, b2, b3⟩ := hcb j hlt
      rw [← hbel.cell hg] at a0 a1 a2 a3
      rw [← hbel.cell hg'] at b0 b1 b2 b3
      clear hca hcb
      go_wp2_with fail
      go_still_tail 8, (by kernel_rfl)
      change wpList _ _ _ _ _ wr.drew
      have hbd : Below w.heap.size w wr.drew := hbel.drew
      generalize wr.drew = w2 at *
      clear a0 a1 a2 a3 b0 b1 b2 b3 hbel
      go_wp2_with fail
      refine (eqTok _ _ _ _ _).mono ?_
      rintro e w' ⟨rfl, hb1⟩
      go_wp2
      go_roundw
      case rel => exact ⟨j + 1, by go_num, by omega, hbd.trans (hb1.mono hbd.size)⟩
      case measure => simp [intOf]; omega
    · go_wp2
      go_ret
      exact ⟨rfl, hbel⟩
theorem cell_set (w : World) (g o i : Nat) (v : Value) (h : ∃ u, w.cell? ⟨g, o, none⟩ = some u) : (w.setCell ⟨g, o, none⟩ v).cell? ⟨g, i, none⟩ = if i = o then some v else w.cell? ⟨g, i, none⟩ := by
  split
  · rename_i e; subst e; obtain ⟨u, hu⟩ := h; exact World.cell?_setCell_same _ _ _ hu
  · rename_i e; exact World.cell?_setCell_other _ _ _ _ (fun h => e (by cases h; rfl))
/-- The cells of the tokens that the law has marked, from k on. -/
def mkAt (k i : Nat) : Value := if i % 4 = 2 then .string (markS (k + i)) else .int .i64 ((k + i : Nat) : Int)
/-- In block g the first m of the n cells are marked, from k on; all are there. -/
def Marked (w : World) (g n k m : Nat) : Prop :=
  g < w.heap.size ∧ (∀ i, w.frozen? ⟨g, i, none⟩ = false) ∧ (∀ i, i < n → ∃ v, w.cell? ⟨g, i, none⟩ = some v) ∧ ∀ i, i < m → w.cell? ⟨g, i, none⟩ = some (mkAt k i)
theorem Marked.step {w : World} {g n k m : Nat} (h : Marked w g n k m) (hm : m < n) (v : Value) (hv : v = mkAt k m) : Marked (w.setCell ⟨g, m, none⟩ v) g n k (m + 1) := by
  obtain ⟨h1, h2, h3, h4⟩ := h
  subst hv
  refine ⟨by simpa [World.setCell] using h1, fun i => by simp [h2 i], fun i hi => ?_, fun i hi => ?_⟩
  · rw [cell_set _ _ _ _ _ (h3 m hm)]; split
    · exact ⟨_, rfl⟩
    · exact h3 i hi
  · rw [cell_set _ _ _ _ _ (h3 m hm)]; split
    · rename_i e; rw [e]
    · exact h4 i (by omega)
theorem Marked.below {w w' : World} {g n k m : Nat} (h : Marked w g n k m) (hb : Below w.heap.size w w') : Marked w' g n k m :=
  ⟨Nat.lt_of_lt_of_le h.1 hb.size, fun i => by rw [hb.frozen h.1]; exact h.2.1 i, fun i hi => by rw [hb.cell h.1]; exact h.2.2.1 i hi, fun i hi => by rw [hb.cell h.1]; exact h.2.2.2 i hi⟩
/-- Nothing but block g has turned of what was there. -/
def But (g : Nat) (w w' : World) : Prop := w.grownBy w' (some g)
theorem But.refl (g : Nat) (w : World) : But g w w := ⟨rfl, rfl, rfl, Nat.le_refl _, fun _ _ _ => rfl⟩
theorem But.set {g o : Nat} {w w' : World} (h : But g w w') (v : Value) : But g w (w'.setCell ⟨g, o, none⟩ v) :=
  ⟨h.os, h.tape, h.output, by simpa [World.setCell] using h.size, fun k hk hn => by rw [Below.heap_setCell _ _ _ _ (fun e => hn (by rw [e]))]; exact h.block k hk hn⟩
theorem But.below {g : Nat} {w w' w2 : World} (h : But g w w') (hb : Below w'.heap.size w' w2) : But g w w2 :=
  ⟨hb.os.trans h.os, hb.tape.trans h.tape, hb.output.trans h.output, Nat.le_trans h.size hb.size, fun k hk hn => by rw [hb.block k (by have := h.size; omega)]; exact h.block k hk hn⟩
theorem mkAt_int (k i : Nat) (h : i % 4 ≠ 2) : mkAt k i = .int .i64 ((k + i : Nat) : Int) := if_neg h
theorem mkAt_str (k i : Nat) (h : i % 4 = 2) : mkAt k i = .string (markS (k + i)) := if_pos h
theorem markTokS (g cap n k : Nat) (w : World) (hn : n ≤ 4000) (hk : 0 < k) (hk2 : k ≤ 1000) (hM : Marked w g (n * 4) k 0) :
    Calls Tryd.prog 7 #[.slice (some ⟨g, 0, none⟩) n cap, .int .i64 k] w fun e w' => e = .returned (.int .i64 ((k + n * 4 : Nat) : Int)) ∧ Marked w' g (n * 4) k (n * 4) ∧ But g w w' := by
  go_enter Tryd.func7, Tryd.ntmps7
  go_wp2
  go_loopw [1, 5] (fun m i wr => ∃ j : Nat, i = .int .i64 j ∧ m = .int .i64 ((k + j * 4 : Nat) : Int) ∧ j ≤ n ∧ Marked wr g (n * 4) k (j * 4) ∧ But g w wr) (fun _ i _ => n - (intOf i).toNat)
  case atStart => exact ⟨0, rfl, by go_num, Nat.zero_le _, by simpa using hM, But.refl _ _⟩
  case round =>
    obtain ⟨j, rfl, rfl, hj, hMj, hbut⟩ := hrel
    by_cases hlt : j < n
    · have M1 := hMj.step (by omega) (.int .i64 ((k : Int) + (j : Int) * 4)) (by rw [mkAt_int _ _ (by omega)]; go_num)
      have M2 := M1.step (by omega) (.int .i64 ((k : Int) + (j : Int) * 4 + 1)) (by rw [mkAt_int _ _ (by omega)]; go_num)
      have B2 := (hbut.set (o := j * 4) (.int .i64 ((k : Int) + (j : Int) * 4))).set (o := j * 4 + 1) (.int .i64 ((k : Int) + (j : Int) * 4 + 1))
      obtain ⟨v0, c0⟩ := hMj.2.2.1 (j * 4) (by omega)
      obtain ⟨v1, c1⟩ := hMj.2.2.1 (j * 4 + 1) (by omega)
      have hfr := hMj.2.1
      have HM2 := Lib.hid M2
      clear hMj hM M1 M2
      go_wp2_with fail
      refine (markTextI _ (k + (j * 4 + 1 + 1)) _ (by omega) (by omega) (by omega)).mono ?_
      rintro e w1 ⟨rfl, hb1⟩
      have M3 := HM2.out.below hb1
      have B3 := B2.below hb1
      have M4 := M3.step (by omega) (.string (markS (k + (j * 4 + 1 + 1)))) (by rw [mkAt_str _ _ (by omega)])
      have M5 := M4.step (by omega) (.int .i64 ((k : Int) + (j : Int) * 4 + 1 + 1 + 1)) (by rw [mkAt_int _ _ (by omega)]; go_num)
      have B5 := (B3.set (o := j * 4 + 1 + 1) (.string (markS (k + (j * 4 + 1 + 1))))).set (o := j * 4 + 1 + 1 + 1) (.int .i64 ((k : Int) + (j : Int) * 4 + 1 + 1 + 1))
      obtain ⟨v2, c2⟩ := M3.2.2.1 (j * 4 + 2) (by omega)
      obtain ⟨v3, c3⟩ := M3.2.2.1 (j * 4 + 3) (by omega)
      have hfr1 := M3.2.1
      have HM5 := Lib.hid M5
      clear c0 c1 hfr M3 M4 M5 HM2 B2 B3 hb1
      go_wp2
      go_roundw
      case rel => exact ⟨j + 1, by go_num, by go_num, by omega, by rw [show (j + 1) * 4 = j * 4 + 1 + 1 + 1 + 1 from by omega]; exact HM5.out, B5⟩
      case measure => simp [intOf]; omega
    · obtain rfl : j = n := by omega
      go_wp2
      go_ret
      exact ⟨rfl, hMj, hbut⟩
theorem heldTokS (g cap n k : Nat) (w : World) (hn : n ≤ 4000) (hk : 0 < k) (hk2 : k ≤ 1000) (hM : Marked w g (n * 4) k (n * 4)) :
    Calls Tryd.prog 8 #[.slice (some ⟨g, 0, none⟩) n cap, .int .i64 k] w fun e w' => e = .returned (.int .i64 ((k + n * 4 : Nat) : Int)) ∧ Below w.heap.size w w' := by
  go_enter Tryd.func8, Tryd.ntmps8
  go_wp2
  go_loopw [1, 5] (fun m i wr => ∃ j : Nat, i = .int .i64 j ∧ m = .int .i64 ((k + j * 4 : Nat) : Int) ∧ j ≤ n ∧ Below w.heap.size w wr) (fun _ i _ => n - (intOf i).toNat)
  case atStart => exact ⟨0, rfl, by go_num, Nat.zero_le _, Below.refl _ _⟩
  case round =>
    obtain ⟨j, rfl, rfl, hj, hbel⟩ := hrel
    by_cases hlt : j < n
    · have hg := hM.1
      have c0 := hM.2.2.2 (j * 4) (by omega)
      have c1 := hM.2.2.2 (j * 4 + 1) (by omega)
      have c2 := hM.2.2.2 (j * 4 + 2) (by omega)
      have c3 := hM.2.2.2 (j * 4 + 3) (by omega)
      rw [← hbel.cell hg, mkAt_int _ _ (by omega)] at c0 c1 c3
      rw [← hbel.cell hg, mkAt_str _ _ (by omega)] at c2
      rw [show ((k + (j * 4 + 1) : Nat) : Int) = (k : Int) + (j : Int) * 4 + 1 from by omega] at c1
      rw [show ((k + (j * 4 + 3) : Nat) : Int) = (k : Int) + (j : Int) * 4 + 1 + 1 + 1 from by omega] at c3
      have hgr : g < wr.heap.size := Nat.lt_of_lt_of_le hg hbel.size
      have HMk := fun W => Lib.hid (markTextI ((k : Int) + (j : Int) * 4 + 1 + 1) (k + (j * 4 + 2)) W (by omega) (by omega) (by omega))
      clear hM
      go_wp2_with fail
      go_region_held3 (fun w' => w'.cell? ⟨g, j * 4 + 2, none⟩ = some (.string (markS (k + (j * 4 + 2)))))
        (first | go_keep | (rw [hb9.cell hgr]; assumption))
        ((go_at_call 22; refine (HMk _).out.mono ?_; rintro e w' ⟨rfl, hb9⟩))
      have hbel2 := hbel.drew.trans (hb9.mono hbel.size)
      have d3 := (hb9.cell (p := ⟨g, j * 4 + 3, none⟩) hgr).trans c3
      clear c0 c1 c2 c3 hb9
      go_wp2
      go_roundw
      case rel => exact ⟨j + 1, by go_num, by go_num, by omega, hbel2⟩
      case measure => simp [intOf]; omega
    · obtain rfl : j = n := by omega
      go_wp2
      go_ret
      exact ⟨rfl, hbel⟩
end Go.Proofs.YtjflnpcmjibcpaaDoor
