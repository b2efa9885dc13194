/- Plain mathematics of what a pattern matches: trees in preorder, the part of a value, what is bound. -/
import Derived.Test.YtcllifmaokldbaaDoorDoMath
namespace Go.Proofs.YtcllifmaokldbaaDoor
set_option linter.unusedVariables false
open Go.RowKit

/-- The nodes from a place on are trees, one behind another: their roots, and the place behind them. -/
inductive Span (l : List (List Int)) : List Int → Nat → Nat → Prop
  | nil (a : Nat) : Span l [] a a
  | cons (a m e : Nat) (ks : List Int) (h : a < l.length) (h1 : Span l l[a] (a + 1) m) (h2 : Span l ks m e) : Span l ((a : Int) :: ks) a e
theorem Span.le {l : List (List Int)} {ks : List Int} {a e : Nat} (h : Span l ks a e) : a ≤ e := by
  induction h with
  | nil a => exact Nat.le_refl _
  | cons a m e ks h h1 h2 i1 i2 => omega
theorem Span.top {l : List (List Int)} {ks : List Int} {a e : Nat} (h : Span l ks a e) (ha : a ≤ l.length) : e ≤ l.length := by
  induction h with
  | nil a => exact ha
  | cons a m e ks h h1 h2 i1 i2 => exact i2 (i1 (by omega))
theorem Span.app {l : List (List Int)} {ks js : List Int} {a m e : Nat} (h : Span l ks a m) (h2 : Span l js m e) : Span l (ks ++ js) a e := by
  induction h with
  | nil a => exact h2
  | cons a m' e' ks hlt h1 _ i1 i2 => exact .cons a m' e (ks ++ js) hlt h1 (i2 h2)
theorem Span.roots {l : List (List Int)} {ks : List Int} {a e : Nat} (h : Span l ks a e) : ∀ k ∈ ks, (a : Int) ≤ k ∧ k < (e : Int) := by
  induction h with
  | nil a => intro k hk; simp at hk
  | cons a m e ks hlt h1 h2 i1 i2 =>
    intro k hk
    have := h1.le
    have := h2.le
    rcases List.mem_cons.1 hk with rfl | hk
    · omega
    · have := i2 k hk; omega
/-- They ascend. -/
theorem Span.asc {l : List (List Int)} {ks : List Int} {a e : Nat} (h : Span l ks a e) : ks.Pairwise (· < ·) := by
  induction h with
  | nil a => exact .nil
  | cons a m e ks hlt h1 h2 i1 i2 =>
    refine .cons (fun k hk => ?_) i2
    have := h1.le
    have := h2.roots k hk
    omega
theorem Span.sub {l : List (List Int)} {ks : List Int} {a e : Nat} (h : Span l ks a e) : ∀ i, a ≤ i → i < e → ∃ (hi : i < l.length) (m : Nat), Span l l[i] (i + 1) m ∧ m ≤ e := by
  induction h with
  | nil a => intro i h1 h2; omega
  | cons a m e ks hlt h1 h2 i1 i2 =>
    intro i hi hie
    have := h2.le
    by_cases he : i = a
    · subst he; exact ⟨hlt, m, h1, h2.le⟩
    · by_cases hm : i < m
      · obtain ⟨hl, m', hs, hle⟩ := i1 i (by omega) hm
        exact ⟨hl, m', hs, by omega⟩
      · exact i2 i (by omega) hie
theorem span_kids {l : List (List Int)} {f : Nat} (ih : ∀ a : Nat, 0 ≤ pendF f l a → ∃ h : a < l.length, Span l l[a] (a + 1) (pendF f l a).toNat) : ∀ (ks : List Int) (n : Nat), 0 ≤ kidsE (pendF f l) ks n → Span l ks n (kidsE (pendF f l) ks n).toNat := by
  intro ks
  induction ks with
  | nil => intro n hn; rw [kidsE]; exact .nil n
  | cons k ks ihk =>
    intro n hn
    rw [kidsE] at hn ⊢
    by_cases hk : k = n
    · rw [if_pos hk] at hn ⊢
      subst hk
      by_cases hg : pendF f l n < 0
      · rw [if_pos hg] at hn; omega
      · rw [if_neg hg] at hn ⊢
        obtain ⟨hlt, hs⟩ := ih n (by omega)
        have e1 : ((pendF f l n).toNat : Int) = pendF f l n := by omega
        have := ihk (pendF f l n).toNat (by rw [e1]; exact hn)
        rw [e1] at this
        exact .cons n _ _ ks hlt hs this
    · rw [if_neg hk] at hn; omega
theorem span_of (l : List (List Int)) : ∀ (f a : Nat), 0 ≤ pendF f l a → ∃ h : a < l.length, Span l l[a] (a + 1) (pendF f l a).toNat := by
  intro f
  induction f with
  | zero => intro a h; rw [pendF] at h; omega
  | succ f ih =>
    intro a h
    by_cases ha : a < l.length
    · rw [pendF_in f l a ha] at h ⊢
      have := span_kids ih l[a] (a + 1) (by push_cast; exact h)
      push_cast at this
      exact ⟨ha, this⟩
    · rw [pendF_out _ _ _ (by omega)] at h; omega
theorem span_end {l : List (List Int)} {ks : List Int} {a e : Nat} (h : Span l ks a e) : ∀ f, l.length < a + f → kidsE (pendF f l) ks a = e := by
  induction h with
  | nil a => intro f _; rfl
  | cons a m e ks hlt h1 h2 i1 i2 =>
    intro f hf
    obtain ⟨f', rfl⟩ : ∃ f', f = f' + 1 := ⟨f - 1, by omega⟩
    have hle := h1.le
    have e1 : pendF (f' + 1) l (a : Int) = m := by
      rw [pendF_in f' l a hlt]
      have := i1 f' (by omega)
      push_cast at this
      exact this
    rw [kidsE, if_pos rfl, e1, if_neg (by omega)]
    exact i2 (f' + 1) (by omega)
theorem span_pend {l : List (List Int)} {a e f : Nat} (ha : a < l.length) (h : Span l l[a] (a + 1) e) (hf : l.length < a + f) : pendF f l a = e := by
  obtain ⟨f', rfl⟩ : ∃ f', f = f' + 1 := ⟨f - 1, by omega⟩
  rw [pendF_in f' l a ha]
  have := span_end h f' (by omega)
  push_cast at this
  exact this
theorem span_pre {l : List (List Int)} (h : preB l = true) : Span l [0] 0 l.length := by
  obtain ⟨h1, _, h3⟩ := (preB_iff l).1 h
  obtain ⟨hlt, hs⟩ := span_of l (l.length + 1) 0 (by push_cast; omega)
  push_cast at hs
  rw [h3] at hs
  exact .cons 0 _ _ [] hlt hs (.nil _)
/-- Of one tree: each node has a tree below it. -/
theorem span_at {l : List (List Int)} (h : preB l = true) (i : Nat) (hi : i < l.length) : ∃ e, Span l l[i] (i + 1) e ∧ i < e ∧ e ≤ l.length := by
  obtain ⟨_, m, hs, hle⟩ := (span_pre h).sub i (Nat.zero_le _) hi
  exact ⟨m, hs, by have := hs.le; omega, hle⟩
/-- The place behind a node's tree. -/
def endN (l : List (List Int)) (k : Nat) : Nat := (pendF (l.length + 1) l k).toNat
theorem endN_of {l : List (List Int)} {k e : Nat} (hk : k < l.length) (h : Span l l[k] (k + 1) e) : endN l k = e := by
  rw [endN, span_pend hk h (by omega)]; rfl
/-- The last descendant: the walk from a node to its last child, again and again. -/
theorem span_last {l : List (List Int)} {k e : Nat} (hk : k < l.length) (h : Span l l[k] (k + 1) e) :
    (l[k] = [] → e = k + 1) ∧ (∀ h0 : l[k] ≠ [], ∃ j : Nat, l[k].getLast h0 = j ∧ k < j ∧ ∃ hj : j < l.length, Span l l[j] (j + 1) e) := by
  have key : ∀ (ks : List Int) (a e : Nat), Span l ks a e → (ks = [] → e = a) ∧ (∀ h0 : ks ≠ [], ∃ j : Nat, ks.getLast h0 = j ∧ a ≤ j ∧ ∃ hj : j < l.length, Span l l[j] (j + 1) e) := by
    intro ks a e h
    induction h with
    | nil a => exact ⟨fun _ => rfl, fun h0 => absurd rfl h0⟩
    | cons a m e ks hlt h1 h2 i1 i2 =>
      refine ⟨fun h => by simp at h, fun h0 => ?_⟩
      by_cases hks : ks = []
      · subst hks
        have := i2.1 rfl
        subst this
        exact ⟨a, by simp, Nat.le_refl _, hlt, h1⟩
      · obtain ⟨j, hj, haj, hlj, hs⟩ := i2.2 hks
        have := h1.le
        exact ⟨j, by rw [List.getLast_cons hks]; exact hj, by omega, hlj, hs⟩
  obtain ⟨k1, k2⟩ := key _ _ _ h
  refine ⟨k1, fun h0 => ?_⟩
  obtain ⟨j, h1, h2, h3, h4⟩ := k2 h0
  exact ⟨j, h1, by omega, h3, h4⟩

/-! ### A part of a value, by itself -/
def shiftN (k : Nat) (x : DN) : DN := ⟨x.kind, x.n, x.s, x.kids.map (· - (k : Int))⟩
def partN (d : List DN) (k : Nat) : List DN := ((d.take (endN (d.map DN.kids) k)).drop k).map (shiftN k)

/-! ### What is bound -/
def hitsF (g : Nat → Nat → Option (List (List DN))) : List Int → List Int → Option (List (List DN))
  | k :: ks, j :: js => match g k.toNat j.toNat with
    | none => none
    | some a => (hitsF g ks js).map (a ++ ·)
  | _, _ => some []
/-- The root of a pattern fits the root of a value, not asked what lies below. -/
def likeB (n : PN) (v : DN) : Bool := decide (n.kind = v.kind) && (decide (n.n = v.n) && (decide (n.s.toList = v.s.toList) && decide (n.kids.length = v.kids.length)))
def hitStep (g : Nat → Nat → Option (List (List DN))) (d : List DN) (n : PN) (v : DN) (k : Nat) : Option (List (List DN)) :=
  if n.kind = 1 then some [] else if n.kind = 2 then some [partN d k] else if likeB n v = true then hitsF g n.kids v.kids else none
def hitF : Nat → List PN → List DN → Nat → Nat → Option (List (List DN))
  | 0, _, _, _, _ => none
  | f + 1, q, d, i, k => match q[i]?, d[k]? with
    | some n, some v => hitStep (hitF f q d) d n v k
    | _, _ => none
def hitN (q : List PN) (d : List DN) (i k : Nat) : Option (List (List DN)) := hitF (q.length + 1) q d i k
theorem hitsF_congr {g g' : Nat → Nat → Option (List (List DN))} : ∀ (ks js : List Int), (∀ k ∈ ks, ∀ j, g k.toNat j = g' k.toNat j) → hitsF g ks js = hitsF g' ks js := by
  intro ks
  induction ks with
  | nil => intro js _; simp [hitsF]
  | cons k ks ih =>
    intro js h
    cases js with
    | nil => simp [hitsF]
    | cons j js => rw [hitsF, hitsF, h k (by simp), ih js fun x hx => h x (List.mem_cons_of_mem _ hx)]
theorem hit_fuel {q : List PN} {d : List DN} (hq : ∀ i (h : i < q.length), ∀ k ∈ q[i].kids, (i : Int) < k) : ∀ (f g i k : Nat), q.length < i + f → q.length < i + g → hitF f q d i k = hitF g q d i k := by
  intro f
  induction f with
  | zero =>
    intro g i k h1 h2
    cases g with
    | zero => rfl
    | succ g => rw [hitF, hitF, List.getElem?_eq_none (by omega)]
  | succ f ih =>
    intro g i k h1 h2
    cases g with
    | zero => rw [hitF, hitF, List.getElem?_eq_none (by omega)]
    | succ g =>
      rw [hitF, hitF]
      by_cases hi : i < q.length
      · rw [List.getElem?_eq_getElem hi]
        cases d[k]? with
        | none => rfl
        | some v =>
          have hc : hitsF (hitF f q d) q[i].kids v.kids = hitsF (hitF g q d) q[i].kids v.kids := hitsF_congr _ _ fun y hy j => by
            have := hq i hi y hy
            exact ih g y.toNat j (by omega) (by omega)
          show hitStep (hitF f q d) d q[i] v k = hitStep (hitF g q d) d q[i] v k
          unfold hitStep
          rw [hc]
      · rw [List.getElem?_eq_none (by omega)]
theorem hitN_at {q : List PN} {d : List DN} (hq : ∀ i (h : i < q.length), ∀ k ∈ q[i].kids, (i : Int) < k) (i k : Nat) (hi : i < q.length) (hk : k < d.length) :
    hitN q d i k = hitStep (hitN q d) d q[i] d[k] k := by
  rw [show hitN q d i k = hitF (q.length + 1) q d i k from rfl, hitF, List.getElem?_eq_getElem hi, List.getElem?_eq_getElem hk]
  have hc : hitsF (hitF q.length q d) q[i].kids d[k].kids = hitsF (hitN q d) q[i].kids d[k].kids := hitsF_congr _ _ fun y hy j => by
    have := hq i hi y hy
    exact hit_fuel hq q.length (q.length + 1) y.toNat j (by omega) (by omega)
  show hitStep (hitF q.length q d) d q[i] d[k] k = _
  unfold hitStep
  rw [hc]
theorem hitsF_nil (g : Nat → Nat → Option (List (List DN))) (js : List Int) : hitsF g [] js = some [] := by simp [hitsF]
theorem hitsF_app (g : Nat → Nat → Option (List (List DN))) : ∀ (ks js ks' js' : List Int), ks.length = js.length →
    hitsF g (ks ++ ks') (js ++ js') = match hitsF g ks js with | none => none | some a => (hitsF g ks' js').map (a ++ ·) := by
  intro ks
  induction ks with
  | nil =>
    intro js ks' js' h
    obtain rfl : js = [] := List.eq_nil_of_length_eq_zero (by simpa using h.symm)
    rw [hitsF_nil]
    simp
  | cons k ks ih =>
    intro js ks' js' h
    cases js with
    | nil => simp at h
    | cons j js =>
      rw [List.cons_append, List.cons_append, hitsF, hitsF, ih js ks' js' (by simpa using h)]
      cases g k.toNat j.toNat with
      | none => rfl
      | some a =>
        cases hitsF g ks js with
        | none => rfl
        | some b =>
          cases hitsF g ks' js' with
          | none => rfl
          | some c => simp
theorem hit_len {q : List PN} {d : List DN} (hq : ∀ i (h : i < q.length), ∀ k ∈ q[i].kids, (i : Int) < k) {ks : List Int} {a e : Nat} (h : Span (q.map PN.kids) ks a e) : ∀ (js : List Int) (r : List (List DN)), hitsF (hitN q d) ks js = some r → r.length ≤ e - a := by
  induction h with
  | nil a => intro js r hr; rw [hitsF_nil] at hr; cases hr; simp
  | cons a m e ks hlt h1 h2 i1 i2 =>
    intro js r hr
    have hlt' : a < q.length := by simpa using hlt
    have l1 := h1.le
    have l2 := h2.le
    cases js with
    | nil => rw [hitsF] at hr; cases hr; simp; simp
    | cons j js =>
      rw [hitsF] at hr
      cases hx : hitN q d (a : Int).toNat j.toNat with
      | none => rw [hx] at hr; cases hr
      | some x =>
        rw [hx] at hr
        have hxl : x.length ≤ m - a := by
          rw [Int.toNat_natCast] at hx
          by_cases hj : j.toNat < d.length
          · rw [hitN_at hq a j.toNat hlt' hj] at hx
            unfold hitStep at hx
            split at hx
            · cases hx; simp
            · split at hx
              · cases hx; simp; omega
              · split at hx
                · have := i1 d[j.toNat].kids x (by simpa using hx)
                  omega
                · cases hx
          · rw [show hitN q d a j.toNat = hitF (q.length + 1) q d a j.toNat from rfl, hitF, List.getElem?_eq_getElem hlt', List.getElem?_eq_none (by omega)] at hx
            cases hx
        cases hy : hitsF (hitN q d) ks js with
        | none => rw [hy] at hr; cases hr
        | some y =>
          rw [hy] at hr
          have := i2 js y hy
          simp at hr
          subst hr
          rw [List.length_append]
          omega
theorem hitN_len {q : List PN} {d : List DN} (hp : preB (q.map PN.kids) = true) (i k : Nat) (hi : i < q.length) (hk : k < d.length) {r : List (List DN)} (h : hitN q d i k = some r) : r.length ≤ 600 := by
  have hq : ∀ i (h : i < q.length), ∀ k ∈ q[i].kids, (i : Int) < k := fun i h k hk => by
    have := preB_kids _ hp i (by simpa using h) k (by simpa using hk)
    exact this.1
  obtain ⟨e, hs, h1, h2⟩ := span_at hp i (by simpa using hi)
  have hlen := ((preB_iff _).1 hp).2.1
  simp only [List.length_map] at h2 hlen
  have hsp : Span (q.map PN.kids) [(i : Int)] i e := .cons i _ _ [] (by simpa using hi) hs (.nil _)
  have := hit_len hq hsp [(k : Int)] (r ++ []) (by rw [hitsF, Int.toNat_natCast, Int.toNat_natCast, h]; simp [hitsF_nil])
  simp at this
  omega
noncomputable def resHit (q : List PN) (d : List DN) : List (List DN) × Bool :=
  if (patOkB q && dOkB d) = true then (match hitN q d 0 0 with | none => ([], false) | some l => (l, true)) else ([], false)
end Go.Proofs.YtcllifmaokldbaaDoor
