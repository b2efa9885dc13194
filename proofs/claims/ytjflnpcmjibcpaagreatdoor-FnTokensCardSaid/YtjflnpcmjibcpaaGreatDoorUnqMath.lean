/- Plain mathematics of reading a quoted text back: whatever reads chunk after chunk as it was written has read the text. -/
import Derived.Test.YtjflnpcmjibcpaaGreatDoorQuoteMath
namespace Go.Proofs.YtjflnpcmjibcpaaGreatDoor
set_option linter.unusedVariables false
open Go.RowKit

/-- Behind k bytes of the inner text the bytes t have been read: if the inner text was written from l, t is a prefix of l, and k its length as written. -/
def Val (inner : List UInt8) (k : Nat) (t : List UInt8) : Prop :=
  ∀ l : List UInt8, inner = l.flatMap qb → ∃ j, j ≤ l.length ∧ t = l.take j ∧ k = ((l.take j).flatMap qb).length
theorem val_start (inner : List UInt8) : Val inner 0 [] := fun l _ => ⟨0, Nat.zero_le _, rfl, rfl⟩
/-- The four shapes of a chunk by its first bytes. -/
theorem chunk (c : UInt8) : (c.toNat = 10 ∧ qb c = [92, 110]) ∨ ((c.toNat = 34 ∨ c.toNat = 92) ∧ qb c = [92, c]) ∨ (c.toNat ≠ 92 ∧ c.toNat ≠ 10 ∧ qb c = [c]) ∨ (qb c = [92, 120, hexB (c.toNat / 16), hexB (c.toNat % 16)]) := by
  unfold qb
  split
  · left; exact ⟨by assumption, rfl⟩
  · split
    · right; left; exact ⟨by assumption, rfl⟩
    · split
      · right; right; left; exact ⟨by omega, by omega, rfl⟩
      · right; right; right; rfl
theorem qb_pos (c : UInt8) : 0 < (qb c).length := by
  rcases chunk c with ⟨_, q⟩ | ⟨_, q⟩ | ⟨_, _, q⟩ | q <;> rw [q] <;> simp
theorem val_end (inner t : List UInt8) (h : Val inner inner.length t) (l : List UInt8) (hl : inner = l.flatMap qb) : t = l := by
  obtain ⟨j, hj, ht, hk⟩ := h l hl
  have h1 : l.flatMap qb = (l.take j).flatMap qb ++ (l.drop j).flatMap qb := by rw [← List.flatMap_append, List.take_append_drop]
  have h2 := congrArg List.length h1
  rw [← hl, List.length_append, ← hk] at h2
  cases hd : l.drop j with
  | nil =>
    rw [List.drop_eq_nil_iff] at hd
    rw [ht, List.take_of_length_le hd]
  | cons c r => rw [hd, List.flatMap_cons, List.length_append] at h2; have := qb_pos c; omega
/-- One chunk: what stands at a chunk's head, and what reading it rightly gives. -/
theorem val_step (inner t : List UInt8) (k n : Nat) (b : UInt8) (h : Val inner k t) (hlt : k < inner.length)
    (hb : ∀ c r, inner.drop k = qb c ++ r → b = c ∧ n = (qb c).length) : Val inner (k + n) (t ++ [b]) := by
  intro l hl
  obtain ⟨j, hj, ht, hk⟩ := h l hl
  have h1 : inner = (l.take j).flatMap qb ++ (l.drop j).flatMap qb := by rw [hl, ← List.flatMap_append, List.take_append_drop]
  have h2 : inner.drop k = (l.drop j).flatMap qb := by rw [h1, hk, List.drop_left']; rfl
  cases hd : l.drop j with
  | nil =>
    rw [hd] at h2
    have := congrArg List.length h2
    simp at this; omega
  | cons c r =>
    rw [hd, List.flatMap_cons] at h2
    obtain ⟨e1, e2⟩ := hb c _ h2
    have hlj : j < l.length := by
      have := congrArg List.length hd
      simp at this; omega
    have hget : l[j] = c := by
      have := List.drop_eq_getElem_cons hlj
      rw [hd] at this; injection this with a _; exact a.symm
    have hs : l.take (j + 1) = l.take j ++ [c] := by rw [List.take_succ_eq_append_getElem hlj, hget]
    refine ⟨j + 1, by omega, by rw [hs, ht, e1], ?_⟩
    rw [hs, List.flatMap_append, List.length_append, ← hk, e2]; simp
theorem u8_eq {a b : UInt8} (h : a.toNat = b.toNat) : a = b := UInt8.toNat_inj.1 h
/-- A byte that is no backslash stands for itself. -/
theorem read_plain (inner t : List UInt8) (k : Nat) (b : UInt8) (h : Val inner k t) (hg : inner[k]? = some b) (hb : b.toNat ≠ 92) : Val inner (k + 1) (t ++ [b]) := by
  have hlt : k < inner.length := (List.getElem?_eq_some_iff.1 hg).1
  refine val_step inner t k 1 b h hlt fun c r e => ?_
  have h0 : inner[k]? = (qb c ++ r)[0]? := by rw [← e, List.getElem?_drop]; rfl
  rw [hg] at h0
  rcases chunk c with ⟨_, q⟩ | ⟨_, q⟩ | ⟨_, _, q⟩ | q
  all_goals
    rw [q] at h0 ⊢
    simp at h0
    subst h0
    first | exact ⟨rfl, rfl⟩ | exact absurd rfl hb
/-- A backslash at the end: no text was written so. -/
theorem read_lone (inner t : List UInt8) (k : Nat) (b b' : UInt8) (h : Val inner k t) (hg : inner[k]? = some b) (hb : b.toNat = 92) (hend : inner.length ≤ k + 1) : Val inner (k + 1) (t ++ [b']) := by
  have hlt : k < inner.length := (List.getElem?_eq_some_iff.1 hg).1
  refine val_step inner t k 1 b' h hlt fun c r e => ?_
  have h0 : inner[k]? = (qb c ++ r)[0]? := by rw [← e, List.getElem?_drop]; rfl
  have hl := congrArg List.length e
  rw [List.length_drop, List.length_append] at hl
  rw [hg] at h0
  rcases chunk c with ⟨_, q⟩ | ⟨_, q⟩ | ⟨hn, _, q⟩ | q
  all_goals
    rw [q] at h0 hl
    simp at h0 hl
  all_goals first | omega | (subst h0; exact absurd hb hn)
/-- A backslash and a byte behind it, other than x: read in two bytes. -/
theorem read_two (inner t : List UInt8) (k : Nat) (b d b' : UInt8) (h : Val inner k t) (hg : inner[k]? = some b) (hb : b.toNat = 92) (hg2 : inner[k + 1]? = some d)
    (hd : (d.toNat = 110 ∧ b'.toNat = 10) ∨ (d.toNat ≠ 110 ∧ b' = d)) (hx : d.toNat = 120 → inner.length ≤ k + 3) : Val inner (k + 2) (t ++ [b']) := by
  have hlt : k < inner.length := (List.getElem?_eq_some_iff.1 hg).1
  refine val_step inner t k 2 b' h hlt fun c r e => ?_
  have h0 : inner[k]? = (qb c ++ r)[0]? := by rw [← e, List.getElem?_drop]; rfl
  have h1 : inner[k + 1]? = (qb c ++ r)[1]? := by rw [← e, List.getElem?_drop]
  have hl := congrArg List.length e
  rw [List.length_drop, List.length_append] at hl
  rw [hg] at h0
  rw [hg2] at h1
  rcases chunk c with ⟨hc, q⟩ | ⟨hc, q⟩ | ⟨hn, _, q⟩ | q
  · rw [q] at h0 h1 ⊢
    simp at h0 h1
    subst h1
    rcases hd with ⟨_, e2⟩ | ⟨e2, _⟩
    · exact ⟨u8_eq (by omega), rfl⟩
    · exact absurd rfl e2
  · rw [q] at h0 h1 ⊢
    simp at h0 h1
    subst h1
    rcases hd with ⟨e2, _⟩ | ⟨_, e2⟩
    · omega
    · exact ⟨e2, rfl⟩
  · rw [q] at h0
    simp at h0
    subst h0
    exact absurd hb hn
  · rw [q] at h0 h1 hl
    simp at h0 h1 hl
    subst h1
    have := hx rfl
    omega
/-- A backslash, x and two bytes: read in four. -/
theorem read_four (inner t : List UInt8) (k : Nat) (b d b' : UInt8) (h : Val inner k t) (hg : inner[k]? = some b) (hb : b.toNat = 92) (hg2 : inner[k + 1]? = some d) (hd : d.toNat = 120)
    (hv : ∀ hi lo : Nat, hi < 16 → lo < 16 → inner[k + 2]? = some (hexB hi) → inner[k + 3]? = some (hexB lo) → b'.toNat = 16 * hi + lo) : Val inner (k + 4) (t ++ [b']) := by
  have hlt : k < inner.length := (List.getElem?_eq_some_iff.1 hg).1
  refine val_step inner t k 4 b' h hlt fun c r e => ?_
  have h0 : inner[k]? = (qb c ++ r)[0]? := by rw [← e, List.getElem?_drop]; rfl
  have h1 : inner[k + 1]? = (qb c ++ r)[1]? := by rw [← e, List.getElem?_drop]
  have h2 : inner[k + 2]? = (qb c ++ r)[2]? := by rw [← e, List.getElem?_drop]
  have h3 : inner[k + 3]? = (qb c ++ r)[3]? := by rw [← e, List.getElem?_drop]
  rw [hg] at h0
  rw [hg2] at h1
  rcases chunk c with ⟨hc, q⟩ | ⟨hc, q⟩ | ⟨hn, _, q⟩ | q
  · rw [q] at h1
    simp at h1
    subst h1
    cases hd
  · rw [q] at h1
    simp at h1
    subst h1
    omega
  · rw [q] at h0
    simp at h0
    subst h0
    exact absurd hb hn
  · rw [q] at h2 h3 ⊢
    simp at h2 h3
    have hc := c.toNat_lt
    have := hv (c.toNat / 16) (c.toNat % 16) (by omega) (by omega) h2 h3
    exact ⟨u8_eq (by omega), rfl⟩
theorem val_end' (inner t : List UInt8) (k : Nat) (h : Val inner k t) (hk : inner.length ≤ k) (l : List UInt8) (hl : inner = l.flatMap qb) : t = l := by
  obtain ⟨j, hj, ht, hk'⟩ := h l hl
  have h1 : l.flatMap qb = (l.take j).flatMap qb ++ (l.drop j).flatMap qb := by rw [← List.flatMap_append, List.take_append_drop]
  have h2 := congrArg List.length h1
  rw [← hl, List.length_append, ← hk'] at h2
  have : k = inner.length := by omega
  subst this
  exact val_end inner t h l hl
/-- Two shapes in which no text was written: then whatever is read will do. -/
theorem read_bad (inner t : List UInt8) (k n : Nat) (b b' : UInt8) (h : Val inner k t) (hg : inner[k]? = some b) (hb : b.toNat = 92)
    (hbad : inner.length ≤ k + 1 ∨ (∃ d, inner[k + 1]? = some d ∧ d.toNat = 120 ∧ inner.length ≤ k + 3)) : Val inner (k + n) (t ++ [b']) := by
  have hlt : k < inner.length := (List.getElem?_eq_some_iff.1 hg).1
  refine val_step inner t k n b' h hlt fun c r e => ?_
  have h0 : inner[k]? = (qb c ++ r)[0]? := by rw [← e, List.getElem?_drop]; rfl
  have h1 : inner[k + 1]? = (qb c ++ r)[1]? := by rw [← e, List.getElem?_drop]
  have hl := congrArg List.length e
  rw [List.length_drop, List.length_append] at hl
  rw [hg] at h0
  exfalso
  rcases hbad with hend | ⟨d, hd, hd2, hend⟩
  · rcases chunk c with ⟨_, q⟩ | ⟨_, q⟩ | ⟨hn, _, q⟩ | q
    all_goals
      rw [q] at h0 hl
      simp at h0 hl
    all_goals first | omega | (subst h0; exact hn hb)
  · rw [hd] at h1
    rcases chunk c with ⟨_, q⟩ | ⟨hc, q⟩ | ⟨hn, _, q⟩ | q
    all_goals
      rw [q] at h0 h1 hl
      simp at h0 h1 hl
    · subst h1; cases hd2
    · subst h1; omega
    · subst h0; exact hn hb
    · omega
end Go.Proofs.YtjflnpcmjibcpaaGreatDoor
