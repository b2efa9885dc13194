/- The cursor of the model's draws: a struct of three cells in a block of the call's own; what its readers do to memory. -/
import Derived.Test.YtdhpmblhejcehaaDoorRows
import Derived.Test.YtdhpmblhejcehaaDoorNumMath
import Derived.WalkKit
import Derived.ProofKit
import Derived.OpenShut
import Derived.Lib.Hide
namespace Go.Proofs.YtdhpmblhejcehaaDoor
set_option linter.unusedVariables false
open Go.ChangeShapes Go.WideShapes Go.ChangeAt Go.RowKit

/-- A slice of bytes that came in, below block B. -/
def Bytes (B : Nat) (w : World) (a : Option Addr) (len cap : Nat) (zs : List Int) : Prop :=
  (len = 0 ∧ cap = 0) ∨
  ∃ b off, a = some ⟨b, off, none⟩ ∧ b < B ∧ len ≤ cap ∧ cap ≤ maxLen ∧ zs.length = cap ∧ (∀ i, i < zs.length → w.cell? ⟨b, off + i, none⟩ = some (.int .u8 (zs.getD i 0))) ∧ ∀ i, 0 ≤ zs.getD i 0 ∧ zs.getD i 0 ≤ 255

theorem Bytes.mono {B : Nat} {w w' : World} {a : Option Addr} {len cap : Nat} {zs : List Int} (h : Bytes B w a len cap zs) (hb : ∀ p : Addr, p.block < B → w'.cell? p = w.cell? p) : Bytes B w' a len cap zs := by
  rcases h with h | ⟨b, off, h1, h2, h3, h4, h5, h6, h7⟩
  · exact .inl h
  · exact .inr ⟨b, off, h1, h2, h3, h4, h5, fun i hi => by rw [hb ⟨b, off + i, none⟩ h2]; exact h6 i hi, h7⟩
/-- From the words in which a proof's frame speaks of a slice of bytes that came in. -/
theorem bytes_of {w : World} {a : Option Addr} {len cap : Nat} {zs : List Int}
    (h : (a = none ∧ len = 0 ∧ cap = 0 ∧ zs = []) ∨ ∃ x, a = some x ∧ len ≤ cap ∧ cap ≤ maxLen ∧ zs.length = cap ∧ (∀ i, i < zs.length → w.cell? (x.add i) = some (.int .u8 (zs.getD i 0))) ∧ ∀ n ∈ zs, (Lit.int .u8 n).wf = true) :
    Bytes w.heap.size w a len cap zs := by
  rcases h with ⟨_, h, h', _⟩ | ⟨x, rfl, h1, h2, h3, h4, h5⟩
  · exact .inl ⟨h, h'⟩
  · by_cases h0 : 0 < zs.length
    · obtain ⟨b, off, rfl, hc⟩ := ints_at h4 h0
      exact .inr ⟨b, off, rfl, World.block_lt_of_cell? w _ (hc 0 h0), h1, h2, h3, hc, fun i => by have := range_u8 h5 i; simpa using this⟩
    · exact .inl ⟨by omega, by omega⟩
theorem Bytes.keep {B : Nat} {w w' : World} {a : Option Addr} {len cap : Nat} {zs : List Int} (h : Bytes B w a len cap zs) (hb : Below B w w') (hs : B ≤ w'.heap.size) : Bytes w'.heap.size w' a len cap zs := by
  rcases h with h | ⟨b, off, h1, h2, h3, h4, h5, h6, h7⟩
  · exact .inl h
  · exact .inr ⟨b, off, h1, by omega, h3, h4, h5, fun i hi => by rw [hb.cell (p := ⟨b, off + i, none⟩) h2]; exact h6 i hi, h7⟩
theorem Bytes.len_le {B : Nat} {w : World} {a : Option Addr} {len cap : Nat} {zs : List Int} (h : Bytes B w a len cap zs) : len ≤ 9223372036854775807 := by
  rcases h with ⟨h, _⟩ | ⟨b, off, h1, h2, h3, h4, _⟩
  · omega
  · unfold maxLen at h4; omega

theorem far {w : World} {p q : Addr} {v : Value} (h : p.block ≠ q.block) : (w.setCell p v).cell? q = w.cell? q :=
  World.cell?_setCell_other _ _ _ _ (fun e => h (by rw [e]))
theorem off {w : World} {b i j : Nat} {v : Value} (h : i ≠ j) : (w.setCell ⟨b, i, none⟩ v).cell? ⟨b, j, none⟩ = w.cell? ⟨b, j, none⟩ :=
  World.cell?_setCell_other _ _ _ _ (fun e => h (by injection e))
structure Cur (B P : Nat) (a : Option Addr) (len cap : Nat) (zs : List Int) (w : World) : Prop where
  lt : B ≤ P
  sz : P < w.heap.size
  row : Bytes B w a len cap zs
  c0 : w.cell? ⟨P, 0, none⟩ = some (.slice a len cap)
  c1 : ∃ k : Nat, k ≤ len ∧ w.cell? ⟨P, 1, none⟩ = some (.int .i64 k)
  c2 : ∃ h : Int, w.cell? ⟨P, 2, none⟩ = some (.int .i64 h)
  f : ∀ j, w.frozen? ⟨P, j, none⟩ = false

theorem Cur.drew {B P : Nat} {a : Option Addr} {len cap : Nat} {zs : List Int} {w : World} (h : Cur B P a len cap zs w) : Cur B P a len cap zs w.drew :=
  ⟨h.lt, h.sz, h.row, h.c0, h.c1, h.c2, h.f⟩
theorem Cur.set1 {B P : Nat} {a : Option Addr} {len cap : Nat} {zs : List Int} {w : World} (h : Cur B P a len cap zs w) (k : Nat) (hk : k ≤ len) : Cur B P a len cap zs (w.setCell ⟨P, 1, none⟩ (.int .i64 k)) := by
  obtain ⟨k0, _, e1⟩ := h.c1
  obtain ⟨h0, e2⟩ := h.c2
  refine ⟨h.lt, by simpa [World.setCell] using h.sz, h.row.mono fun p hp => far (by have := h.lt; simp; omega), ?_, ⟨k, hk, World.cell?_setCell_same _ _ _ e1⟩, ⟨h0, ?_⟩, fun j => by rw [World.frozen?_setCell]; exact h.f j⟩
  · rw [off (by decide)]; exact h.c0
  · rw [off (by decide)]; exact e2
theorem Cur.set2 {B P : Nat} {a : Option Addr} {len cap : Nat} {zs : List Int} {w : World} (h : Cur B P a len cap zs w) (x : Int) : Cur B P a len cap zs (w.setCell ⟨P, 2, none⟩ (.int .i64 x)) := by
  obtain ⟨k0, hk, e1⟩ := h.c1
  obtain ⟨h0, e2⟩ := h.c2
  refine ⟨h.lt, by simpa [World.setCell] using h.sz, h.row.mono fun p hp => far (by have := h.lt; simp; omega), ?_, ⟨k0, hk, ?_⟩, ⟨x, World.cell?_setCell_same _ _ _ e2⟩, fun j => by rw [World.frozen?_setCell]; exact h.f j⟩
  · rw [off (by decide)]; exact h.c0
  · rw [off (by decide)]; exact e1
theorem Cur.keep {B P : Nat} {a : Option Addr} {len cap : Nat} {zs : List Int} {w w' : World} (h : Cur B P a len cap zs w) (hb : Below w.heap.size w w') : Cur B P a len cap zs w' := by
  have hs := h.sz
  have hl := h.lt
  have hc : ∀ p : Addr, p.block < w.heap.size → w'.cell? p = w.cell? p := fun p hp => hb.cell hp
  refine ⟨h.lt, Nat.lt_of_lt_of_le h.sz hb.size, h.row.mono fun p hp => hc p (by omega), by rw [hc _ hs]; exact h.c0, ?_, ?_, fun j => by rw [hb.frozen (p := ⟨P, j, none⟩) hs]; exact h.f j⟩
  · obtain ⟨k, hk, e⟩ := h.c1; exact ⟨k, hk, by rw [hc _ hs]; exact e⟩
  · obtain ⟨k, e⟩ := h.c2; exact ⟨k, by rw [hc _ hs]; exact e⟩

/-- Of the blocks that were there none but P has turned; the streams are as they were. -/
structure Only (P : Nat) (w w' : World) : Prop where
  os : w'.os = w.os
  tape : w'.tape = w.tape
  output : w'.output = w.output
  size : w.heap.size ≤ w'.heap.size
  block : ∀ k, k < w.heap.size → k ≠ P → w'.heap[k]? = w.heap[k]?
theorem Only.refl (P : Nat) (w : World) : Only P w w := ⟨rfl, rfl, rfl, Nat.le_refl _, fun _ _ _ => rfl⟩
theorem Only.trans {P : Nat} {w w1 w2 : World} (h : Only P w w1) (k : Only P w1 w2) : Only P w w2 :=
  ⟨k.os.trans h.os, k.tape.trans h.tape, k.output.trans h.output, Nat.le_trans h.size k.size, fun i hi hn => (k.block i (Nat.lt_of_lt_of_le hi h.size) hn).trans (h.block i hi hn)⟩
theorem Only.drew {P : Nat} {w w1 : World} (h : Only P w w1) : Only P w w1.drew := ⟨h.os, h.tape, h.output, h.size, h.block⟩
theorem Only.setCell {P : Nat} {w w1 : World} (h : Only P w w1) (j : Nat) (v : Value) : Only P w (w1.setCell ⟨P, j, none⟩ v) :=
  h.trans ⟨rfl, rfl, rfl, by simp [World.setCell], fun k _ hn => Below.heap_setCell _ _ _ _ (by simpa using hn)⟩
theorem Only.of_below {P : Nat} {w w1 : World} (h : Below w.heap.size w w1) : Only P w w1 := ⟨h.os, h.tape, h.output, h.size, fun k hk _ => h.block k hk⟩
theorem Only.alloc {P : Nat} {w w1 : World} (h : Only P w w1) (o : Obj) : Only P w (w1.alloc o) :=
  h.trans (Only.of_below ((Below.refl _ _).alloc (Nat.le_refl _) _))
theorem Only.below {B P : Nat} {w w1 : World} (h : Only P w w1) (hP : B ≤ P) (hB : B ≤ w.heap.size) : Below B w w1 :=
  ⟨h.os, h.tape, h.output, h.size, fun k hk => h.block k (by omega) (by omega)⟩
theorem Only.cell {P : Nat} {w w1 : World} (h : Only P w w1) {p : Addr} (hp : p.block < w.heap.size) (hn : p.block ≠ P) : w1.cell? p = w.cell? p := World.cell?_of_block (w := w) (h.block p.block hp hn)
theorem Only.frozen {P : Nat} {w w1 : World} (h : Only P w w1) {p : Addr} (hp : p.block < w.heap.size) (hn : p.block ≠ P) : w1.frozen? p = w.frozen? p := World.frozen?_of_block (w := w) (h.block p.block hp hn)

/-- What every reader of the cursor leaves: the cursor stands, and no block but the cursor's has turned. -/
def Moved (B P : Nat) (a : Option Addr) (len cap : Nat) (zs : List Int) (w w' : World) : Prop := Cur B P a len cap zs w' ∧ Only P w w'
theorem Moved.refl {B P : Nat} {a : Option Addr} {len cap : Nat} {zs : List Int} {w : World} (h : Cur B P a len cap zs w) : Moved B P a len cap zs w w := ⟨h, Only.refl _ _⟩
theorem Moved.trans {B P : Nat} {a : Option Addr} {len cap : Nat} {zs : List Int} {w w1 w2 : World} (h : Moved B P a len cap zs w w1) (k : Moved B P a len cap zs w1 w2) : Moved B P a len cap zs w w2 := ⟨k.1, h.2.trans k.2⟩
theorem Moved.drew {B P : Nat} {a : Option Addr} {len cap : Nat} {zs : List Int} {w w' : World} (h : Moved B P a len cap zs w w') : Moved B P a len cap zs w w'.drew := ⟨h.1.drew, h.2.drew⟩
theorem Moved.set1 {B P : Nat} {a : Option Addr} {len cap : Nat} {zs : List Int} {w w' : World} (h : Moved B P a len cap zs w w') (x : Int) (k : Nat) (hk : k ≤ len) (hx : x = k) : Moved B P a len cap zs w (w'.setCell ⟨P, 1, none⟩ (.int .i64 x)) := by
  subst hx; exact ⟨h.1.set1 k hk, h.2.setCell _ _⟩
theorem Moved.set2 {B P : Nat} {a : Option Addr} {len cap : Nat} {zs : List Int} {w w' : World} (h : Moved B P a len cap zs w w') (x : Int) : Moved B P a len cap zs w (w'.setCell ⟨P, 2, none⟩ (.int .i64 x)) := ⟨h.1.set2 x, h.2.setCell _ _⟩
theorem Moved.alloc {B P : Nat} {a : Option Addr} {len cap : Nat} {zs : List Int} {w w' : World} (h : Moved B P a len cap zs w w') (o : Obj) : Moved B P a len cap zs w (w'.alloc o) :=
  ⟨h.1.keep ((Below.refl _ _).alloc (Nat.le_refl _) _), h.2.alloc o⟩

/-- A number between lo and hi is returned, and the cursor has moved. -/
def Drawn (lo hi : Int) (B P : Nat) (a : Option Addr) (len cap : Nat) (zs : List Int) (w : World) (e : Ending) (w' : World) : Prop :=
  ∃ x : Int, lo ≤ x ∧ x ≤ hi ∧ e = .returned (.int .i64 x) ∧ Moved B P a len cap zs w w'

theorem and255 (n : Int) : bits .and .i64 n 255 = n % 256 := and_pow n 8 255 (by decide) (by decide)
theorem and255_bd (n : Int) : 0 ≤ bits .and .i64 n 255 ∧ bits .and .i64 n 255 ≤ 255 := by rw [and255]; omega

theorem l01Byte_end (B P : Nat) (a : Option Addr) (len cap : Nat) (zs : List Int) (w : World) (k : Nat) (h : Int) (hC : Cur B P a len cap zs w)
   (c1 : w.cell? ⟨P, 1, none⟩ = some (.int .i64 k)) (c2 : w.cell? ⟨P, 2, none⟩ = some (.int .i64 h)) (hl : ¬ k < len) :
    Calls Tryd.prog 58 #[.pointer (some ⟨P, 0, none⟩)] w (Drawn 0 255 B P a len cap zs w) := by
  have c0 := hC.c0
  have f1 := hC.f 1
  have f2 := hC.f 2
  have HC := Lib.hid hC
  clear hC
  go_enter Tryd.func58, Tryd.ntmps58
  go_wp2
  go_region
  go_wp2
  go_region
  go_wp2
  go_ret
  exact ⟨_, (and255_bd _).1, (and255_bd _).2, rfl, by repeat (first | exact Moved.refl HC.out | apply Moved.drew | apply Moved.set2)⟩
theorem l01Byte_more (B P : Nat) (a : Option Addr) (len cap : Nat) (zs : List Int) (w : World) (k : Nat) (h : Int) (hC : Cur B P a len cap zs w)
   (c1 : w.cell? ⟨P, 1, none⟩ = some (.int .i64 k)) (c2 : w.cell? ⟨P, 2, none⟩ = some (.int .i64 h)) (hl : k < len) :
    Calls Tryd.prog 58 #[.pointer (some ⟨P, 0, none⟩)] w (Drawn 0 255 B P a len cap zs w) := by
  have hr := hC.row
  have hle := hr.len_le
  rcases hr with ⟨h0, _⟩ | ⟨b, off, rfl, hbB, h3, h4, h5, h6, h7⟩
  · omega
  have c0 := hC.c0
  have f1 := hC.f 1
  have f2 := hC.f 2
  have hz := h6 k (by omega)
  have hlt := hC.lt
  have hne : b ≠ P := by omega
  have hzb := h7 k
  clear h6 h7
  have HC := Lib.hid hC
  clear hC
  go_enter Tryd.func58, Tryd.ntmps58
  go_wp2
  go_region
  go_wp2
  go_region
  go_wp2
  go_region
  go_wp2
  go_ret
  exact ⟨_, (and255_bd _).1, (and255_bd _).2, rfl, by repeat (first | exact Moved.refl HC.out | apply Moved.drew | apply Moved.set2 | refine Moved.set1 ?_ _ (k + 1) (by omega) (by omega))⟩
theorem l01Byte (B P : Nat) (a : Option Addr) (len cap : Nat) (zs : List Int) (w : World) (hC : Cur B P a len cap zs w) :
    Calls Tryd.prog 58 #[.pointer (some ⟨P, 0, none⟩)] w (Drawn 0 255 B P a len cap zs w) := by
  obtain ⟨k, _, c1⟩ := hC.c1
  obtain ⟨h, c2⟩ := hC.c2
  by_cases hl : k < len
  · exact l01Byte_more B P a len cap zs w k h hC c1 c2 hl
  · exact l01Byte_end B P a len cap zs w k h hC c1 c2 hl

theorem l01Below_no (n : Int) (B P : Nat) (a : Option Addr) (len cap : Nat) (zs : List Int) (w : World) (hC : Cur B P a len cap zs w) (hn : n ≤ 0) :
    Calls Tryd.prog 38 #[.pointer (some ⟨P, 0, none⟩), .int .i64 n] w (Drawn 0 0 B P a len cap zs w) := by
  go_enter Tryd.func38, Tryd.ntmps38
  go_wp2
  go_ret
  exact ⟨0, by omega, by omega, rfl, Moved.refl hC⟩
theorem l01Below (n : Int) (B P : Nat) (a : Option Addr) (len cap : Nat) (zs : List Int) (w : World) (hC : Cur B P a len cap zs w) (hn : 1 ≤ n) (hn2 : n ≤ 9223372036854775807) :
    Calls Tryd.prog 38 #[.pointer (some ⟨P, 0, none⟩), .int .i64 n] w (Drawn 0 (n - 1) B P a len cap zs w) := by
  by_cases h256 : n ≤ 256
  · go_enter Tryd.func38, Tryd.ntmps38
    go_wp2_with fail
    refine (l01Byte _ _ _ _ _ _ _ hC).mono ?_
    rintro e w1 ⟨x, hx0, hx1, rfl, hM⟩
    go_wp2
    go_ret
    exact ⟨x % n, Int.emod_nonneg _ (by omega), by have := Int.emod_lt_of_pos x (b := n) (by omega); omega, rfl, hM⟩
  · go_enter Tryd.func38, Tryd.ntmps38
    go_wp2_with fail
    refine (l01Byte _ _ _ _ _ _ _ hC).mono ?_
    rintro e w1 ⟨x, hx0, hx1, rfl, hM⟩
    go_wp2_with fail
    refine (l01Byte _ _ _ _ _ _ _ hM.1).mono ?_
    rintro e w2 ⟨y, hy0, hy1, rfl, hM2⟩
    go_wp2_with fail
    refine (l01Byte _ _ _ _ _ _ _ hM2.1).mono ?_
    rintro e w3 ⟨z, hz0, hz1, rfl, hM3⟩
    go_wp2_with fail
    refine (l01Byte _ _ _ _ _ _ _ hM3.1).mono ?_
    rintro e w4 ⟨v, hv0, hv1, rfl, hM4⟩
    go_wp2
    go_ret
    exact ⟨_, Int.emod_nonneg _ (by omega), by have := Int.emod_lt_of_pos (x * 16777216 + y * 65536 + z * 256 + v) (b := n) (by omega); omega, rfl, ((hM.trans hM2).trans hM3).trans hM4⟩
end Go.Proofs.YtdhpmblhejcehaaDoor
