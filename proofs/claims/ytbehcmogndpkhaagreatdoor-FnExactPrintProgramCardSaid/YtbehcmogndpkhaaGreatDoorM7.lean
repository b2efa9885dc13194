/- Texts of this proof, merged: HtMath, PpMath, QpMath. -/
import Derived.Test.YtbehcmogndpkhaaGreatDoorM6
namespace Go.Proofs.YtbehcmogndpkhaaGreatDoor
set_option linter.unusedVariables false
open Go.RowKit

/-- The nodes from a place on are trees, one behind another: their roots, and the place behind them. -/
inductive Span (l : List (List Int)) : List Int → Nat → Nat → Prop
  | nil (a : Nat) : Span l [] a a
  | cons (a m e : Nat) (ks : List Int) (h : a < l.length) (h1 : Span l l[a] (a + 1) m) (h2 : Span l ks m e) : Span l ((a : Int) :: ks) a e
theorem Span.le {l : List (List Int)} {ks : List Int} {a e : Nat} (h : Span l ks a e) : a ≤ e := by
  induction h with
  | nil a => exact Nat.le_refl _
  | cons a m e ks h h1 h2 i1 i2 => omega
theorem Span.top {l : List (List Int)} {ks : List Int} {a e : Nat} (h : Span l ks a e) (ha : a ≤ l.length) : e ≤ l.length := by
  induction h with
  | nil a => exact ha
  | cons a m e ks h h1 h2 i1 i2 => exact i2 (i1 (by omega))
theorem Span.app {l : List (List Int)} {ks js : List Int} {a m e : Nat} (h : Span l ks a m) (h2 : Span l js m e) : Span l (ks ++ js) a e := by
  induction h with
  | nil a => exact h2
  | cons a m' e' ks hlt h1 _ i1 i2 => exact .cons a m' e (ks ++ js) hlt h1 (i2 h2)
theorem Span.roots {l : List (List Int)} {ks : List Int} {a e : Nat} (h : Span l ks a e) : ∀ k ∈ ks, (a : Int) ≤ k ∧ k < (e : Int) := by
  induction h with
  | nil a => intro k hk; simp at hk
  | cons a m e ks hlt h1 h2 i1 i2 =>
    intro k hk
    have := h1.le
    have := h2.le
    rcases List.mem_cons.1 hk with rfl | hk
    · omega
    · have := i2 k hk; omega
/-- They ascend. -/
theorem Span.asc {l : List (List Int)} {ks : List Int} {a e : Nat} (h : Span l ks a e) : ks.Pairwise (· < ·) := by
  induction h with
  | nil a => exact .nil
  | cons a m e ks hlt h1 h2 i1 i2 =>
    refine .cons (fun k hk => ?_) i2
    have := h1.le
    have := h2.roots k hk
    omega
theorem Span.sub {l : List (List Int)} {ks : List Int} {a e : Nat} (h : Span l ks a e) : ∀ i, a ≤ i → i < e → ∃ (hi : i < l.length) (m : Nat), Span l l[i] (i + 1) m ∧ m ≤ e := by
  induction h with
  | nil a => intro i h1 h2; omega
  | cons a m e ks hlt h1 h2 i1 i2 =>
    intro i hi hie
    have := h2.le
    by_cases he : i = a
    · subst he; exact ⟨hlt, m, h1, h2.le⟩
    · by_cases hm : i < m
      · obtain ⟨hl, m', hs, hle⟩ := i1 i (by omega) hm
        exact ⟨hl, m', hs, by omega⟩
      · exact i2 i (by omega) hie
theorem span_kids {l : List (List Int)} {f : Nat} (ih : ∀ a : Nat, 0 ≤ pendF f l a → ∃ h : a < l.length, Span l l[a] (a + 1) (pendF f l a).toNat) : ∀ (ks : List Int) (n : Nat), 0 ≤ kidsE (pendF f l) ks n → Span l ks n (kidsE (pendF f l) ks n).toNat := by
  intro ks
  induction ks with
  | nil => intro n hn; rw [kidsE]; exact .nil n
  | cons k ks ihk =>
    intro n hn
    rw [kidsE] at hn ⊢
    by_cases hk : k = n
    · rw [if_pos hk] at hn ⊢
      subst hk
      by_cases hg : pendF f l n < 0
      · rw [if_pos hg] at hn; omega
      · rw [if_neg hg] at hn ⊢
        obtain ⟨hlt, hs⟩ := ih n (by omega)
        have e1 : ((pendF f l n).toNat : Int) = pendF f l n := by omega
        have := ihk (pendF f l n).toNat (by rw [e1]; exact hn)
        rw [e1] at this
        exact .cons n _ _ ks hlt hs this
    · rw [if_neg hk] at hn; omega
theorem span_of (l : List (List Int)) : ∀ (f a : Nat), 0 ≤ pendF f l a → ∃ h : a < l.length, Span l l[a] (a + 1) (pendF f l a).toNat := by
  intro f
  induction f with
  | zero => intro a h; rw [pendF] at h; omega
  | succ f ih =>
    intro a h
    by_cases ha : a < l.length
    · rw [pendF_in f l a ha] at h ⊢
      have := span_kids ih l[a] (a + 1) (by push_cast; exact h)
      push_cast at this
      exact ⟨ha, this⟩
    · rw [pendF_out _ _ _ (by omega)] at h; omega
theorem span_end {l : List (List Int)} {ks : List Int} {a e : Nat} (h : Span l ks a e) : ∀ f, l.length < a + f → kidsE (pendF f l) ks a = e := by
  induction h with
  | nil a => intro f _; rfl
  | cons a m e ks hlt h1 h2 i1 i2 =>
    intro f hf
    obtain ⟨f', rfl⟩ : ∃ f', f = f' + 1 := ⟨f - 1, by omega⟩
    have hle := h1.le
    have e1 : pendF (f' + 1) l (a : Int) = m := by
      rw [pendF_in f' l a hlt]
      have := i1 f' (by omega)
      push_cast at this
      exact this
    rw [kidsE, if_pos rfl, e1, if_neg (by omega)]
    exact i2 (f' + 1) (by omega)
theorem span_pend {l : List (List Int)} {a e f : Nat} (ha : a < l.length) (h : Span l l[a] (a + 1) e) (hf : l.length < a + f) : pendF f l a = e := by
  obtain ⟨f', rfl⟩ : ∃ f', f = f' + 1 := ⟨f - 1, by omega⟩
  rw [pendF_in f' l a ha]
  have := span_end h f' (by omega)
  push_cast at this
  exact this
theorem span_pre {l : List (List Int)} (h : preB l = true) : Span l [0] 0 l.length := by
  obtain ⟨h1, _, h3⟩ := (preB_iff l).1 h
  obtain ⟨hlt, hs⟩ := span_of l (l.length + 1) 0 (by push_cast; omega)
  push_cast at hs
  rw [h3] at hs
  exact .cons 0 _ _ [] hlt hs (.nil _)
/-- Of one tree: each node has a tree below it. -/
theorem span_at {l : List (List Int)} (h : preB l = true) (i : Nat) (hi : i < l.length) : ∃ e, Span l l[i] (i + 1) e ∧ i < e ∧ e ≤ l.length := by
  obtain ⟨_, m, hs, hle⟩ := (span_pre h).sub i (Nat.zero_le _) hi
  exact ⟨m, hs, by have := hs.le; omega, hle⟩
/-- The place behind a node's tree. -/
def endN (l : List (List Int)) (k : Nat) : Nat := (pendF (l.length + 1) l k).toNat
theorem endN_of {l : List (List Int)} {k e : Nat} (hk : k < l.length) (h : Span l l[k] (k + 1) e) : endN l k = e := by
  rw [endN, span_pend hk h (by omega)]; rfl
/-- The last descendant: the walk from a node to its last child, again and again. -/
theorem span_last {l : List (List Int)} {k e : Nat} (hk : k < l.length) (h : Span l l[k] (k + 1) e) :
    (l[k] = [] → e = k + 1) ∧ (∀ h0 : l[k] ≠ [], ∃ j : Nat, l[k].getLast h0 = j ∧ k < j ∧ ∃ hj : j < l.length, Span l l[j] (j + 1) e) := by
  have key : ∀ (ks : List Int) (a e : Nat), Span l ks a e → (ks = [] → e = a) ∧ (∀ h0 : ks ≠ [], ∃ j : Nat, ks.getLast h0 = j ∧ a ≤ j ∧ ∃ hj : j < l.length, Span l l[j] (j + 1) e) := by
    intro ks a e h
    induction h with
    | nil a => exact ⟨fun _ => rfl, fun h0 => absurd rfl h0⟩
    | cons a m e ks hlt h1 h2 i1 i2 =>
      refine ⟨fun h => by simp at h, fun h0 => ?_⟩
      by_cases hks : ks = []
      · subst hks
        have := i2.1 rfl
        subst this
        exact ⟨a, by simp, Nat.le_refl _, hlt, h1⟩
      · obtain ⟨j, hj, haj, hlj, hs⟩ := i2.2 hks
        have := h1.le
        exact ⟨j, by rw [List.getLast_cons hks]; exact hj, by omega, hlj, hs⟩
  obtain ⟨k1, k2⟩ := key _ _ _ h
  refine ⟨k1, fun h0 => ?_⟩
  obtain ⟨j, h1, h2, h3, h4⟩ := k2 h0
  exact ⟨j, h1, by omega, h3, h4⟩

/-! ### A part of a value, by itself -/
def shiftN (k : Nat) (x : DN) : DN := ⟨x.kind, x.n, x.s, x.kids.map (· - (k : Int))⟩
def partN (d : List DN) (k : Nat) : List DN := ((d.take (endN (d.map DN.kids) k)).drop k).map (shiftN k)

/-! ### What is bound -/
def hitsF (g : Nat → Nat → Option (List (List DN))) : List Int → List Int → Option (List (List DN))
  | k :: ks, j :: js => match g k.toNat j.toNat with
    | none => none
    | some a => (hitsF g ks js).map (a ++ ·)
  | _, _ => some []
/-- The root of a pattern fits the root of a value, not asked what lies below. -/
def likeB (n : PN) (v : DN) : Bool := decide (n.kind = v.kind) && (decide (n.n = v.n) && (decide (n.s.toList = v.s.toList) && decide (n.kids.length = v.kids.length)))
def hitStep (g : Nat → Nat → Option (List (List DN))) (d : List DN) (n : PN) (v : DN) (k : Nat) : Option (List (List DN)) :=
  if n.kind = 1 then some [] else if n.kind = 2 then some [partN d k] else if likeB n v = true then hitsF g n.kids v.kids else none
def hitF : Nat → List PN → List DN → Nat → Nat → Option (List (List DN))
  | 0, _, _, _, _ => none
  | f + 1, q, d, i, k => match q[i]?, d[k]? with
    | some n, some v => hitStep (hitF f q d) d n v k
    | _, _ => none
def hitN (q : List PN) (d : List DN) (i k : Nat) : Option (List (List DN)) := hitF (q.length + 1) q d i k
theorem hitsF_congr {g g' : Nat → Nat → Option (List (List DN))} : ∀ (ks js : List Int), (∀ k ∈ ks, ∀ j, g k.toNat j = g' k.toNat j) → hitsF g ks js = hitsF g' ks js := by
  intro ks
  induction ks with
  | nil => intro js _; simp [hitsF]
  | cons k ks ih =>
    intro js h
    cases js with
    | nil => simp [hitsF]
    | cons j js => rw [hitsF, hitsF, h k (by simp), ih js fun x hx => h x (List.mem_cons_of_mem _ hx)]
theorem hit_fuel {q : List PN} {d : List DN} (hq : ∀ i (h : i < q.length), ∀ k ∈ q[i].kids, (i : Int) < k) : ∀ (f g i k : Nat), q.length < i + f → q.length < i + g → hitF f q d i k = hitF g q d i k := by
  intro f
  induction f with
  | zero =>
    intro g i k h1 h2
    cases g with
    | zero => rfl
    | succ g => rw [hitF, hitF, List.getElem?_eq_none (by omega)]
  | succ f ih =>
    intro g i k h1 h2
    cases g with
    | zero => rw [hitF, hitF, List.getElem?_eq_none (by omega)]
    | succ g =>
      rw [hitF, hitF]
      by_cases hi : i < q.length
      · rw [List.getElem?_eq_getElem hi]
        cases d[k]? with
        | none => rfl
        | some v =>
          have hc : hitsF (hitF f q d) q[i].kids v.kids = hitsF (hitF g q d) q[i].kids v.kids := hitsF_congr _ _ fun y hy j => by
            have := hq i hi y hy
            exact ih g y.toNat j (by omega) (by omega)
          show hitStep (hitF f q d) d q[i] v k = hitStep (hitF g q d) d q[i] v k
          unfold hitStep
          rw [hc]
      · rw [List.getElem?_eq_none (by omega)]
theorem hitN_at {q : List PN} {d : List DN} (hq : ∀ i (h : i < q.length), ∀ k ∈ q[i].kids, (i : Int) < k) (i k : Nat) (hi : i < q.length) (hk : k < d.length) :
    hitN q d i k = hitStep (hitN q d) d q[i] d[k] k := by
  rw [show hitN q d i k = hitF (q.length + 1) q d i k from rfl, hitF, List.getElem?_eq_getElem hi, List.getElem?_eq_getElem hk]
  have hc : hitsF (hitF q.length q d) q[i].kids d[k].kids = hitsF (hitN q d) q[i].kids d[k].kids := hitsF_congr _ _ fun y hy j => by
    have := hq i hi y hy
    exact hit_fuel hq q.length (q.length + 1) y.toNat j (by omega) (by omega)
  show hitStep (hitF q.length q d) d q[i] d[k] k = _
  unfold hitStep
  rw [hc]
theorem hitsF_nil (g : Nat → Nat → Option (List (List DN))) (js : List Int) : hitsF g [] js = some [] := by simp [hitsF]
theorem hitsF_app (g : Nat → Nat → Option (List (List DN))) : ∀ (ks js ks' js' : List Int), ks.length = js.length →
    hitsF g (ks ++ ks') (js ++ js') = match hitsF g ks js with | none => none | some a => (hitsF g ks' js').map (a ++ ·) := by
  intro ks
  induction ks with
  | nil =>
    intro js ks' js' h
    obtain rfl : js = [] := List.eq_nil_of_length_eq_zero (by simpa using h.symm)
    rw [hitsF_nil]
    simp
  | cons k ks ih =>
    intro js ks' js' h
    cases js with
    | nil => simp at h
    | cons j js =>
      rw [List.cons_append, List.cons_append, hitsF, hitsF, ih js ks' js' (by simpa using h)]
      cases g k.toNat j.toNat with
      | none => rfl
      | some a =>
        cases hitsF g ks js with
        | none => rfl
        | some b =>
          cases hitsF g ks' js' with
          | none => rfl
          | some c => simp
theorem hit_len {q : List PN} {d : List DN} (hq : ∀ i (h : i < q.length), ∀ k ∈ q[i].kids, (i : Int) < k) {ks : List Int} {a e : Nat} (h : Span (q.map PN.kids) ks a e) : ∀ (js : List Int) (r : List (List DN)), hitsF (hitN q d) ks js = some r → r.length ≤ e - a := by
  induction h with
  | nil a => intro js r hr; rw [hitsF_nil] at hr; cases hr; simp
  | cons a m e ks hlt h1 h2 i1 i2 =>
    intro js r hr
    have hlt' : a < q.length := by simpa using hlt
    have l1 := h1.le
    have l2 := h2.le
    cases js with
    | nil => rw [hitsF] at hr; cases hr; simp; simp
    | cons j js =>
      rw [hitsF] at hr
      cases hx : hitN q d (a : Int).toNat j.toNat with
      | none => rw [hx] at hr; cases hr
      | some x =>
        rw [hx] at hr
        have hxl : x.length ≤ m - a := by
          rw [Int.toNat_natCast] at hx
          by_cases hj : j.toNat < d.length
          · rw [hitN_at hq a j.toNat hlt' hj] at hx
            unfold hitStep at hx
            split at hx
            · cases hx; simp
            · split at hx
              · cases hx; simp; omega
              · split at hx
                · have := i1 d[j.toNat].kids x (by simpa using hx)
                  omega
                · cases hx
          · rw [show hitN q d a j.toNat = hitF (q.length + 1) q d a j.toNat from rfl, hitF, List.getElem?_eq_getElem hlt', List.getElem?_eq_none (by omega)] at hx
            cases hx
        cases hy : hitsF (hitN q d) ks js with
        | none => rw [hy] at hr; cases hr
        | some y =>
          rw [hy] at hr
          have := i2 js y hy
          simp at hr
          subst hr
          rw [List.length_append]
          omega
theorem hitN_len {q : List PN} {d : List DN} (hp : preB (q.map PN.kids) = true) (i k : Nat) (hi : i < q.length) (hk : k < d.length) {r : List (List DN)} (h : hitN q d i k = some r) : r.length ≤ 600 := by
  have hq : ∀ i (h : i < q.length), ∀ k ∈ q[i].kids, (i : Int) < k := fun i h k hk => by
    have := preB_kids _ hp i (by simpa using h) k (by simpa using hk)
    exact this.1
  obtain ⟨e, hs, h1, h2⟩ := span_at hp i (by simpa using hi)
  have hlen := ((preB_iff _).1 hp).2.1
  simp only [List.length_map] at h2 hlen
  have hsp : Span (q.map PN.kids) [(i : Int)] i e := .cons i _ _ [] (by simpa using hi) hs (.nil _)
  have := hit_len hq hsp [(k : Int)] (r ++ []) (by rw [hitsF, Int.toNat_natCast, Int.toNat_natCast, h]; simp [hitsF_nil])
  simp at this
  omega
noncomputable def resHit (q : List PN) (d : List DN) : List (List DN) × Bool :=
  if (patOkB q && dOkB d) = true then (match hitN q d 0 0 with | none => ([], false) | some l => (l, true)) else ([], false)
end Go.Proofs.YtbehcmogndpkhaaGreatDoor
namespace Go.Proofs.YtbehcmogndpkhaaGreatDoor
set_option linter.unusedVariables false
open Go.RowKit

/-! ### Weaving, of any tree -/
/-- The kids' texts, behind each the next piece of the node's own. -/
def wF (g : Nat → List UInt8) (T : List (List UInt8)) : Nat → List Int → List UInt8
  | _, [] => []
  | d, k :: ks => g k.toNat ++ (T[d + 1]?.getD [] ++ wF g T (d + 1) ks)
def wT (L : List (List (List UInt8))) (l : List (List Int)) : Nat → Nat → List UInt8
  | 0, _ => []
  | f + 1, a => ((L[a]?.getD [])[0]?.getD []) ++ wF (wT L l f) (L[a]?.getD []) 0 (l[a]?.getD [])
/-- The visitor that gathers the pieces. -/
def vW (L : List (List (List UInt8))) (s : List (List UInt8)) (a d : Nat) (_ : Int) : Bool × List (List UInt8) := (true, s ++ [(L[a]?.getD [])[d]?.getD []])
theorem Span.hd {l : List (List Int)} {ks : List Int} {a e : Nat} (h : Span l ks a e) (hlt : a < e) : ∃ (hl : a < l.length) (m : Nat) (ks' : List Int), ks = (a : Int) :: ks' ∧ Span l l[a] (a + 1) m ∧ Span l ks' m e := by
  cases h with
  | nil => omega
  | cons _ m _ ks' hl h1 h2 => exact ⟨hl, m, ks', rfl, h1, h2⟩
theorem Span.emp {l : List (List Int)} {ks : List Int} {a : Nat} (h : Span l ks a a) : ks = [] := by
  cases h with
  | nil => rfl
  | cons _ m _ ks' hl h1 h2 => have := h1.le; have := h2.le; omega
theorem weave_walk (L : List (List (List UInt8))) {l : List (List Int)} {ks : List Int} {a e : Nat} (h : Span l ks a e) :
    ∀ (f b d : Nat) (s : List (List UInt8)), l.length < a + f → ∃ Q, iterS (walkS (vW L) (lens l) f) (fun s d n => vW L s b d n) ks.length d (a : Int) s = ((e : Int), s ++ Q) ∧ Q.flatten = wF (wT L l f) (L[b]?.getD []) d ks ∧ Q.length ≤ 2 * (e - a) := by
  induction h with
  | nil a => intro f b d s hf; exact ⟨[], by simp [iterS], by simp [wF], by simp⟩
  | cons a m e ks hlt h1 h2 ih1 ih2 =>
    intro f b d s hf
    obtain ⟨f', rfl⟩ : ∃ f', f = f' + 1 := ⟨f - 1, by omega⟩
    have l1 := h1.le
    have l2 := h2.le
    obtain ⟨Q1, e1, e2, e3⟩ := ih1 f' a 0 (s ++ [(L[a]?.getD [])[0]?.getD []]) (by omega)
    have hw : walkS (vW L) (lens l) (f' + 1) s (a : Int) = ((m : Int), s ++ [(L[a]?.getD [])[0]?.getD []] ++ Q1) := by
      rw [walkS_in _ _ _ _ _ (by simpa [lens] using hlt)]
      have hc : ((lens l)[a]'(by simpa [lens] using hlt)).toNat = l[a].length := by simp [lens]
      rw [hc]
      simp only [vW, if_true]
      push_cast at e1
      exact e1
    obtain ⟨Q2, g1, g2, g3⟩ := ih2 (f' + 1) b (d + 1) (s ++ [(L[a]?.getD [])[0]?.getD []] ++ Q1 ++ [(L[b]?.getD [])[d + 1]?.getD []]) (by omega)
    refine ⟨[(L[a]?.getD [])[0]?.getD []] ++ Q1 ++ [(L[b]?.getD [])[d + 1]?.getD []] ++ Q2, ?_, ?_, ?_⟩
    · rw [List.length_cons, iterS, hw]
      have hn : ¬ (m : Int) < 0 := by omega
      simp only [if_neg hn, vW, if_true]
      simp only [vW] at g1
      rw [g1]
      simp
    · rw [wF, Int.toNat_natCast, wT, List.getElem?_eq_getElem hlt, ← g2]
      simp only [List.flatten_append, e2]
      simp
    · simp only [List.length_append, List.length_singleton]; omega
theorem weave_all (L : List (List (List UInt8))) {l : List (List Int)} (hp : preB l = true) : ∃ P, walkS (vW L) (lens l) (l.length + 1) [] 0 = ((l.length : Int), P) ∧ P.flatten = wT L l (l.length + 1) 0 ∧ P.length ≤ 1200 ∧ P ≠ [] := by
  obtain ⟨hlt, m, ks', h0, h1, h2⟩ : ∃ (hl : 0 < l.length) (m : Nat) (ks' : List Int), [(0 : Int)] = ((0 : Nat) : Int) :: ks' ∧ Span l l[0] (0 + 1) m ∧ Span l ks' m l.length := by
    have := span_pre hp
    cases this with
    | cons _ m _ ks' hl h1 h2 => exact ⟨hl, m, [], rfl, h1, h2⟩
  have hk : ks' = [] := by simpa using h0.symm
  subst hk
  have hm : m = l.length := by cases h2; rfl
  subst hm
  have hlen := ((preB_iff _).1 hp).2.1
  obtain ⟨Q, e1, e2, e3⟩ := weave_walk L h1 l.length 0 0 [(L[0]?.getD [])[0]?.getD []] (by omega)
  refine ⟨[(L[0]?.getD [])[0]?.getD []] ++ Q, ?_, ?_, ?_, by simp⟩
  · have := walkS_in (vW L) (lens l) l.length [] 0 (by simpa [lens] using hlt)
    rw [show ((0 : Nat) : Int) = 0 from rfl] at this
    rw [this]
    have hc : ((lens l)[0]'(by simpa [lens] using hlt)).toNat = l[0].length := by simp [lens]
    rw [hc]
    simp only [vW, if_true, List.nil_append]
    simp only [vW] at e1
    simpa using e1
  · rw [wT, List.getElem?_eq_getElem hlt, List.flatten_append, e2]; simp
  · simp only [List.length_append, List.length_singleton]; omega
/-! ### A node has one parent -/
theorem Span.ends {l : List (List Int)} {ks : List Int} {a e : Nat} (h : Span l ks a e) : ∀ (k : Int), k ∈ ks → ∀ i : Nat, a ≤ i → (i : Int) < k → ∃ (hi : i < l.length) (m : Nat), Span l l[i] (i + 1) m ∧ (m : Int) ≤ k := by
  induction h with
  | nil a => intro k hk; simp at hk
  | cons a m e ks hlt h1 h2 ih1 ih2 =>
    intro k hk i hi hik
    rcases List.mem_cons.1 hk with rfl | hk
    · omega
    · have hr := h2.roots k hk
      by_cases him : i < m
      · by_cases hia : i = a
        · subst hia; exact ⟨hlt, m, h1, hr.1⟩
        · obtain ⟨hl, m', hs, hle⟩ := h1.sub i (by omega) him
          exact ⟨hl, m', hs, by omega⟩
      · exact ih2 k hk i (by omega) hik
theorem span_uniq {l : List (List Int)} {a e e' : Nat} (ha : a < l.length) (h : Span l l[a] (a + 1) e) (h' : Span l l[a] (a + 1) e') : e = e' := by
  have h1 := span_pend (f := l.length + 1) ha h (by omega)
  have h2 := span_pend (f := l.length + 1) ha h' (by omega)
  omega
theorem one_parent {l : List (List Int)} (hp : preB l = true) {i j : Nat} (hi : i < l.length) (hj : j < l.length) {k : Int} (hki : k ∈ l[i]) (hkj : k ∈ l[j]) : i = j := by
  have key : ∀ i j (hi : i < l.length) (hj : j < l.length), k ∈ l[i] → k ∈ l[j] → ¬ j < i := by
    intro i j hi hj hki hkj hlt
    obtain ⟨ei, hsi, _, _⟩ := span_at hp i hi
    obtain ⟨ej, hsj, _, _⟩ := span_at hp j hj
    have hik := hsi.roots k hki
    obtain ⟨_, m, hs, hm⟩ := hsj.ends k hkj i (by omega) (by omega)
    have := span_uniq hi hsi hs
    omega
  by_cases h1 : i < j
  · exact absurd h1 (key j i hj hi hkj hki)
  · by_cases h2 : j < i
    · exact absurd h2 (key i j hi hj hki hkj)
    · omega
/-! ### Patterns -/
/-- The texts of a node, not asked whether it is a '::' or the pair below one. -/
def pTexts (nt : Int → List UInt8) (n : PN) : List (List UInt8) :=
  if n.kind = 2 then [n.s.toList]
  else if n.kind = 3 then [nt n.n]
  else if n.kind = 4 then (if n.kids.length = 0 then [n.s.toList] else [[40] ++ n.s.toList ++ [32], [41]])
  else if n.kind = 5 then [[40], [44, 32], [41]]
  else if n.kind = 6 then [[40, 41]]
  else [[95]]
/-- Below one of the first t nodes that are '::'. -/
def consK (q : List PN) (t : Nat) (i : Nat) : Bool := (q.take t).any fun x => isConsB x && decide (x.kids.head? = some (i : Int))
/-- The texts when the first t nodes have been asked. -/
def patL (nt : Int → List UInt8) (q : List PN) (t : Nat) : List (List (List UInt8)) :=
  (List.range q.length).map fun i => if consK q t i = true then [[40], [32, 58, 58, 32], [41]] else match q[i]? with
    | some n => if isConsB n = true ∧ i < t then [[], []] else pTexts nt n
    | none => []
/-- The model's text of the pattern that begins at a place; c: the pair below a '::'. -/
def patU (nt : Int → List UInt8) (q : List PN) : Nat → Bool → Nat → List UInt8
  | 0, _, _ => []
  | f + 1, c, a => match q[a]? with
    | none => []
    | some n =>
      if n.kind = 1 then [95] else if n.kind = 2 then n.s.toList else if n.kind = 3 then nt n.n else if n.kind = 6 then [40, 41]
      else if n.kind = 5 then ([40] : List UInt8) ++ (patU nt q f false (n.kids[0]?.getD 0).toNat ++ ((if c = true then ([32, 58, 58, 32] : List UInt8) else [44, 32]) ++ (patU nt q f false (n.kids[1]?.getD 0).toNat ++ ([41] : List UInt8))))
      else if n.kids.length = 0 then n.s.toList
      else if n.s.toList = [58, 58] then patU nt q f true (n.kids[0]?.getD 0).toNat
      else ([40] : List UInt8) ++ (n.s.toList ++ (([32] : List UInt8) ++ (patU nt q f false (n.kids[0]?.getD 0).toNat ++ ([41] : List UInt8))))
abbrev patT (nt : Int → List UInt8) (q : List PN) (f a : Nat) : List UInt8 := patU nt q f false a
def patN (nt : Int → List UInt8) (g : Bool → Nat → List UInt8) (c : Bool) (n : PN) : List UInt8 :=
  if n.kind = 1 then [95] else if n.kind = 2 then n.s.toList else if n.kind = 3 then nt n.n else if n.kind = 6 then [40, 41]
  else if n.kind = 5 then ([40] : List UInt8) ++ (g false (n.kids[0]?.getD 0).toNat ++ ((if c = true then ([32, 58, 58, 32] : List UInt8) else [44, 32]) ++ (g false (n.kids[1]?.getD 0).toNat ++ ([41] : List UInt8))))
  else if n.kids.length = 0 then n.s.toList
  else if n.s.toList = [58, 58] then g true (n.kids[0]?.getD 0).toNat
  else ([40] : List UInt8) ++ (n.s.toList ++ (([32] : List UInt8) ++ (g false (n.kids[0]?.getD 0).toNat ++ ([41] : List UInt8))))
theorem patU_at (nt : Int → List UInt8) (q : List PN) (f : Nat) (c : Bool) (a : Nat) (ha : a < q.length) : patU nt q (f + 1) c a = patN nt (patU nt q f) c q[a] := by
  rw [patU, List.getElem?_eq_getElem ha]; rfl
theorem consK_yes {q : List PN} {t i j : Nat} (hj : j < q.length) (hjt : j < t) (hc : isConsB q[j] = true) (hk : q[j].kids.head? = some (i : Int)) : consK q t i = true := by
  unfold consK
  rw [List.any_eq_true]
  refine ⟨q[j], ?_, by rw [hc, hk]; simp⟩
  rw [List.mem_take_iff_getElem]
  exact ⟨j, by omega, rfl⟩
theorem consK_no {q : List PN} {t i : Nat} (h : ∀ j (hj : j < q.length), isConsB q[j] = true → q[j].kids.head? ≠ some (i : Int)) : consK q t i = false := by
  unfold consK
  rw [List.any_eq_false]
  intro x hx
  rw [List.mem_take_iff_getElem] at hx
  obtain ⟨j, hj, rfl⟩ := hx
  have hj2 : j < q.length := by omega
  cases hc : isConsB q[j]
  · simp
  · have := h j hj2 hc
    simp [this]
theorem consK_succ {q : List PN} {t : Nat} (ht : t < q.length) (i : Nat) : consK q (t + 1) i = (consK q t i || (isConsB q[t] && decide (q[t].kids.head? = some (i : Int)))) := by
  unfold consK
  rw [List.take_succ_eq_append_getElem ht, List.any_append]; simp
theorem patL_len (nt : Int → List UInt8) (q : List PN) (t : Nat) : (patL nt q t).length = q.length := by simp [patL]
theorem patL_get (nt : Int → List UInt8) (q : List PN) (t i : Nat) (hi : i < q.length) : (patL nt q t)[i]? = some (if consK q t i = true then [[40], [32, 58, 58, 32], [41]] else if isConsB q[i] = true ∧ i < t then [[], []] else pTexts nt q[i]) := by
  rw [patL, List.getElem?_map, List.getElem?_range hi]
  show some _ = some _
  simp only [List.getElem?_eq_getElem hi]
/-- What a right pattern's nodes are like. -/
structure PatV (q : List PN) : Prop where
  pre : preB (q.map PN.kids) = true
  nd : ∀ i (h : i < q.length), isPNB q[i] = true
  cons : ∀ i (h : i < q.length), isConsB q[i] = true → firstPK q q[i].kids = 5
theorem patV_of {q : List PN} (h : patOkB q = true) : PatV q := by
  rw [pat_ok] at h
  simp only [Bool.and_eq_true] at h
  refine ⟨h.1, fun i hi => ?_, fun i hi hc => ?_⟩
  · have := List.all_eq_true.1 h.2.1 _ (List.getElem_mem hi)
    simp only [rightPB, Bool.and_eq_true] at this
    exact this.1
  · have := List.all_eq_true.1 h.2.1 _ (List.getElem_mem hi)
    simp only [rightPB, Bool.and_eq_true, hc, Bool.not_true, Bool.false_or, decide_eq_true_eq] at this
    exact this.2
theorem PatV.kid {q : List PN} (h : PatV q) {i : Nat} (hi : i < q.length) {k : Int} (hk : k ∈ q[i].kids) : (i : Int) < k ∧ k < (q.length : Int) := by
  have := preB_kids _ h.pre i (by simpa using hi) k (by simpa using hk)
  simpa using this
theorem PatV.par {q : List PN} (h : PatV q) {i j : Nat} (hi : i < q.length) (hj : j < q.length) {k : Int} (hki : k ∈ q[i].kids) (hkj : k ∈ q[j].kids) : i = j :=
  one_parent h.pre (i := i) (j := j) (by simpa using hi) (by simpa using hj) (k := k) (by simpa using hki) (by simpa using hkj)
theorem kids5 {n : PN} (hn : isPNB n = true) (h1 : n.kind = 5) : n.kids.length = 2 := by
  unfold isPNB pnodeB at hn
  rw [h1] at hn; simp at hn; omega
theorem kids36 {n : PN} (hn : isPNB n = true) (h1 : n.kind = 1 ∨ n.kind = 2 ∨ n.kind = 3 ∨ n.kind = 6) : n.kids.length = 0 := by
  unfold isPNB pnodeB at hn
  rcases h1 with h1 | h1 | h1 | h1
  all_goals
    rw [h1] at hn
    simp at hn
    first | (simp [hn.2.2]; done) | (simp [hn.2.2.2]; done)
theorem kids4 {n : PN} (hn : isPNB n = true) (h1 : n.kind = 4) : n.kids.length ≤ 1 := by
  unfold isPNB pnodeB at hn
  rw [h1] at hn
  simp at hn
  have := hn.2
  unfold conOkB at this
  split at this
  · simp at this; omega
  · split at this
    · simp at this; simp [this]
    · simp at this; omega
theorem pk_range {n : PN} (hn : isPNB n = true) : n.kind = 1 ∨ n.kind = 2 ∨ n.kind = 3 ∨ n.kind = 4 ∨ n.kind = 5 ∨ n.kind = 6 := by
  unfold isPNB pnodeB at hn
  repeat' (split at hn)
  all_goals first | omega | (cases hn)
theorem PatV.texts {q : List PN} (h : PatV q) (nt : Int → List UInt8) (t i : Nat) (hi : i < q.length) : ∃ T, (patL nt q t)[i]? = some T ∧ T.length = q[i].kids.length + 1 := by
  rw [patL_get nt q t i hi]
  refine ⟨_, rfl, ?_⟩
  have hv := h.nd i hi
  by_cases hc : consK q t i = true
  · rw [if_pos hc]
    unfold consK at hc
    rw [List.any_eq_true] at hc
    obtain ⟨x, hx, hc⟩ := hc
    rw [List.mem_take_iff_getElem] at hx
    obtain ⟨j, hj, rfl⟩ := hx
    simp only [Bool.and_eq_true, decide_eq_true_eq] at hc
    have hf := h.cons j (by omega) hc.1
    cases hk : q[j].kids with
    | nil => rw [hk] at hc; simp at hc
    | cons k ks =>
      rw [hk] at hc hf
      simp at hc
      obtain ⟨_, rfl⟩ := hc
      simp only [firstPK, Int.toNat_natCast, List.getElem?_eq_getElem hi] at hf
      have := kids5 hv hf
      simp [this]
  · rw [if_neg hc]
    by_cases hb : isConsB q[i] = true ∧ i < t
    · rw [if_pos hb]
      have := isPN_cons _ hv hb.1
      simp [this]
    · rw [if_neg hb]
      unfold pTexts
      rcases pk_range hv with hk | hk | hk | hk | hk | hk
      · have := kids36 hv (by omega); simp [hk, this]
      · have := kids36 hv (by omega); simp [hk, this]
      · have := kids36 hv (by omega); simp [hk, this]
      · have := kids4 hv hk
        by_cases h0 : q[i].kids.length = 0
        · simp [hk, h0]
        · have h1 : q[i].kids.length = 1 := by omega
          simp [hk, h1]
      · have := kids5 hv hk; simp [hk, this]
      · have := kids36 hv (by omega); simp [hk, this]
/-- Both ways give one text. -/
theorem PatV.text {q : List PN} (h : PatV q) (nt : Int → List UInt8) : ∀ (f a : Nat), a < q.length → q.length < a + f → (∀ j (hj : j < q.length), isConsB q[j] = true → q[j].kids.head? ≠ some (a : Int)) → wT (patL nt q q.length) (q.map PN.kids) f a = patT nt q f a := by
  intro f
  induction f using Nat.strongRecOn with
  | _ f ih =>
    intro a ha hf hno
    obtain ⟨f', rfl⟩ : ∃ f', f = f' + 1 := ⟨f - 1, by omega⟩
    have hv := h.nd a ha
    have hck := consK_no (t := q.length) hno
    have hkid := fun k (hk : k ∈ q[a].kids) => h.kid ha hk
    have hT : (patL nt q q.length)[a]? = some (if isConsB q[a] = true ∧ a < q.length then [[], []] else pTexts nt q[a]) := by
      rw [patL_get nt q q.length a ha, hck]; simp
    -- a kid of a node that is no '::'
    have hsub : ∀ (k : Int), k ∈ q[a].kids → ¬ isConsB q[a] = true → wT (patL nt q q.length) (q.map PN.kids) f' k.toNat = patT nt q f' k.toNat := by
      intro k hk hnc
      obtain ⟨k1, k2⟩ := hkid k hk
      refine ih f' (by omega) k.toNat (by omega) (by omega) fun j hj hc hh => ?_
      have hkj : k ∈ q[j].kids := by
        cases hq : q[j].kids with
        | nil => rw [hq] at hh; simp at hh
        | cons y ys =>
          rw [hq] at hh
          simp at hh
          have : y = k := by omega
          simp [this]
      have := h.par ha hj hk hkj
      subst this
      exact hnc hc
    rw [wT, patT, patU, hT, List.getElem?_map, List.getElem?_eq_getElem ha]
    simp only [Option.getD_some, Option.map_some]
    by_cases hc : isConsB q[a] = true
    · rw [if_pos ⟨hc, ha⟩]
      have hl := isPN_cons _ hv hc
      have hf5 := h.cons a ha hc
      obtain ⟨k, hk⟩ := List.length_eq_one_iff.1 hl
      have hkm : k ∈ q[a].kids := by rw [hk]; simp
      obtain ⟨k1, k2⟩ := hkid k hkm
      obtain ⟨kn, rfl⟩ : ∃ kn : Nat, k = kn := ⟨k.toNat, by omega⟩
      have hkn : kn < q.length := by omega
      simp only [isConsB, Bool.and_eq_true, decide_eq_true_eq] at hc
      have hc4 := hc.1
      have hcs := hc.2
      rw [hk] at hf5
      simp only [firstPK, Int.toNat_natCast, List.getElem?_eq_getElem hkn] at hf5
      have hl2 := kids5 (h.nd kn hkn) hf5
      obtain ⟨x, y, hxy⟩ : ∃ x y, q[kn].kids = [x, y] := by
        match hq : q[kn].kids with
        | [] => rw [hq] at hl2; simp at hl2
        | [_] => rw [hq] at hl2; simp at hl2
        | [x, y] => exact ⟨x, y, rfl⟩
        | _ :: _ :: _ :: _ => rw [hq] at hl2; simp at hl2
      obtain ⟨f'', rfl⟩ : ∃ f'', f' = f'' + 1 := ⟨f' - 1, by omega⟩
      have hck2 : consK q q.length kn = true := consK_yes ha ha (by simp [isConsB, hc4, hcs]) (by rw [hk]; rfl)
      have hsub2 : ∀ (z : Int), z ∈ q[kn].kids → wT (patL nt q q.length) (q.map PN.kids) f'' z.toNat = patT nt q f'' z.toNat := by
        intro z hz
        obtain ⟨z1, z2⟩ := h.kid hkn hz
        refine ih f'' (by omega) z.toNat (by omega) (by omega) fun j hj hcj hh => ?_
        have hzj : z ∈ q[j].kids := by
          cases hq : q[j].kids with
          | nil => rw [hq] at hh; simp at hh
          | cons u us =>
            rw [hq] at hh
            simp at hh
            have : u = z := by omega
            simp [this]
        have := h.par hkn hj hz hzj
        subst this
        simp only [isConsB, Bool.and_eq_true, decide_eq_true_eq] at hcj
        omega
      have e1 := hsub2 x (by rw [hxy]; simp)
      have e2 := hsub2 y (by rw [hxy]; simp)
      have hT2 : (patL nt q q.length)[kn]? = some [[40], [32, 58, 58, 32], [41]] := by
        rw [patL_get nt q q.length kn hkn, hck2]; simp
      have hpair : wT (patL nt q q.length) (q.map PN.kids) (f'' + 1) kn = [40] ++ (patT nt q f'' x.toNat ++ ([32, 58, 58, 32] ++ (patT nt q f'' y.toNat ++ [41]))) := by
        rw [wT, hT2, List.getElem?_map, List.getElem?_eq_getElem hkn]
        simp only [Option.getD_some, Option.map_some, hxy, wF, e1, e2]
        simp
      rw [hk]
      simp only [wF, Int.toNat_natCast, hpair]
      simp [hc4, hcs, patU, List.getElem?_eq_getElem hkn, hxy, hf5]
    · rw [if_neg (fun hh => hc hh.1)]
      unfold pTexts
      rcases pk_range hv with hk | hk | hk | hk | hk | hk
      · have h0 := kids36 hv (by omega)
        rw [List.eq_nil_of_length_eq_zero h0]; simp [hk, wF]
      · have h0 := kids36 hv (by omega)
        rw [List.eq_nil_of_length_eq_zero h0]; simp [hk, wF]
      · have h0 := kids36 hv (by omega)
        rw [List.eq_nil_of_length_eq_zero h0]; simp [hk, wF]
      · have h1 := kids4 hv hk
        by_cases h0 : q[a].kids.length = 0
        · rw [List.eq_nil_of_length_eq_zero h0]; simp [hk, wF]
        · have hl : q[a].kids.length = 1 := by omega
          obtain ⟨k, hkk⟩ := List.length_eq_one_iff.1 hl
          have := hsub k (by rw [hkk]; simp) hc
          have hns : ¬ q[a].s.toList = [58, 58] := fun hs => hc (by simp [isConsB, hk, hs])
          rw [hkk]
          simp [hk, wF, this, hns]
      · have hl := kids5 hv hk
        obtain ⟨x, y, hxy⟩ : ∃ x y, q[a].kids = [x, y] := by
          match hq : q[a].kids with
          | [] => rw [hq] at hl; simp at hl
          | [_] => rw [hq] at hl; simp at hl
          | [x, y] => exact ⟨x, y, rfl⟩
          | _ :: _ :: _ :: _ => rw [hq] at hl; simp at hl
        have e1 := hsub x (by rw [hxy]; simp) hc
        have e2 := hsub y (by rw [hxy]; simp) hc
        rw [hxy]
        simp [hk, wF, e1, e2]
      · have h0 := kids36 hv (by omega)
        rw [List.eq_nil_of_length_eq_zero h0]; simp [hk, wF]
/-- It isn't too long. -/
theorem pat_size {q : List PN} (nt : Int → List UInt8) (hnt : ∀ v, -4611686018427387904 ≤ v → v ≤ 4611686018427387903 → (nt v).length ≤ 24) (hv : PatV q) : ∀ (f a : Nat) (c : Bool), a < q.length → (patU nt q f c a).length ≤ 24 * (endN (q.map PN.kids) a - a) := by
  intro f
  induction f with
  | zero => intro a c ha; simp [patU]
  | succ f ih =>
    intro a c ha
    have hn := hv.nd a ha
    obtain ⟨e, hs, h1, h2⟩ := span_at hv.pre a (by simpa using ha)
    have he := endN_of (by simpa using ha) hs
    rw [List.getElem_map] at hs
    have hns : q[a].s.toList.length ≤ 12 := by
      rcases pk_range hn with hk | hk | hk | hk | hk | hk
      all_goals unfold isPNB pnodeB at hn; rw [hk] at hn; simp at hn
      · simp [hn.2.1]
      · have := hn.2.1
        unfold nameB wordB lenB at this
        simp only [Bool.and_eq_true, decide_eq_true_eq] at this
        rw [pr_toList]; exact this.1.1.2
      · simp [hn.2.2.1]
      · have := hn.2
        unfold conOkB at this
        split at this
        · rename_i hh; rw [hh]; simp
        · split at this
          · rename_i hh; rcases hh with hh | hh | hh <;> rw [hh] <;> simp
          · simp only [Bool.and_eq_true] at this
            have := this.1
            unfold conB wordB lenB at this
            simp only [Bool.and_eq_true, decide_eq_true_eq] at this
            rw [pr_toList]; exact this.1.1.2
      · simp [hn.2.1]
      · simp [hn.2.1]
    rw [he, patU, List.getElem?_eq_getElem ha]
    simp only
    rcases pk_range hn with hk | hk | hk | hk | hk | hk
    · simp [hk]; omega
    · simp only [hk]; simp; omega
    · have hr : -4611686018427387904 ≤ q[a].n ∧ q[a].n ≤ 4611686018427387903 := by
        unfold isPNB pnodeB at hn; rw [hk] at hn; simp at hn; omega
      have := hnt q[a].n hr.1 hr.2
      simp [hk]; omega
    · have hl := kids4 hn hk
      by_cases h0 : q[a].kids.length = 0
      · simp [hk, h0]; omega
      · obtain ⟨k, hkk⟩ := List.length_eq_one_iff.1 (show q[a].kids.length = 1 by omega)
        have hend : ∀ (l : List (List Int)) (k : Int) (a e : Nat), Span l [k] a e → ∃ hl : a < l.length, k = (a : Int) ∧ Span l l[a] (a + 1) e := by
          intro l k a e h
          cases h with
          | cons _ m _ _ hl h1 h2 => cases h2; exact ⟨hl, rfl, h1⟩
        rw [hkk] at hs
        obtain ⟨hkl, rfl, g2⟩ := hend _ _ _ _ hs
        have hkl' : a + 1 < q.length := by simpa using hkl
        have hen := endN_of hkl g2
        have i1 := ih (a + 1) true hkl'
        have i2 := ih (a + 1) false hkl'
        rw [hen] at i1 i2
        have ht : ((([((a + 1 : Nat) : Int)] : List Int)[0]?).getD 0).toNat = a + 1 := by simp
        have hg2 := g2.le
        simp only [hk, hkk, ht]
        by_cases hs : q[a].s.toList = [58, 58]
        · simp [hs]; omega
        · simp [hs]; omega
    · have hl := kids5 hn hk
      have hend : ∀ (l : List (List Int)) (k j : Int) (a e : Nat), Span l [k, j] a e → ∃ (hl : a < l.length) (m : Nat) (hm : m < l.length), k = (a : Int) ∧ j = (m : Int) ∧ Span l l[a] (a + 1) m ∧ Span l l[m] (m + 1) e := by
        intro l k j a e h
        cases h with
        | cons _ m _ _ hl h1 h2 =>
          cases h2 with
          | cons _ m2 _ _ hl2 h3 h4 => cases h4; exact ⟨hl, m, hl2, rfl, rfl, h1, h3⟩
      obtain ⟨x, y, hxy⟩ : ∃ x y, q[a].kids = [x, y] := by
        match hq : q[a].kids with
        | [] => rw [hq] at hl; simp at hl
        | [_] => rw [hq] at hl; simp at hl
        | [x, y] => exact ⟨x, y, rfl⟩
        | _ :: _ :: _ :: _ => rw [hq] at hl; simp at hl
      rw [hxy] at hs
      obtain ⟨hkl, m, hml, rfl, rfl, g1, g2⟩ := hend _ _ _ _ _ hs
      have i1 := ih (a + 1) false (by simpa using hkl)
      have i2 := ih m false (by simpa using hml)
      rw [endN_of hkl g1] at i1
      rw [endN_of hml g2] at i2
      have t1 : ((([((a + 1 : Nat) : Int), (m : Int)] : List Int)[0]?).getD 0).toNat = a + 1 := by simp
      have t2 : ((([((a + 1 : Nat) : Int), (m : Int)] : List Int)[1]?).getD 0).toNat = m := by simp
      have l1 := g1.le
      have l2 := g2.le
      simp only [hk, hxy, t1, t2]
      cases c <;> simp <;> omega
    · simp [hk]; omega
end Go.Proofs.YtbehcmogndpkhaaGreatDoor
namespace Go.Proofs.YtbehcmogndpkhaaGreatDoor
set_option linter.unusedVariables false
open Go.RowKit

/-- A constructor alone. -/
def isLoneN (x : Nd) : Bool := decide (x.kind = 4) && decide (x.kids.length = 0)
/-- How a node wants its first child to look: 1 below a '::', 2 below a let rec, 3 below an application. -/
def modeN (x : Nd) : Nat := if isConsN x = true then 1 else if x.kind = 8 then 2 else if x.kind = 6 then 3 else 0
/-- The arms of a match. -/
def armsT (pt : List PN → List UInt8) : List UInt8 → List (List PN) → List (List UInt8)
  | _, [] => []
  | b, q :: qs => (b ++ pt q ++ [32, 45, 62, 32]) :: armsT pt [32, 124, 32] qs
/-- The texts of a node by itself. -/
def nodeT (nt : Int → List UInt8) (qt : List UInt8 → List UInt8) (pt : List PN → List UInt8) (x : Nd) : List (List UInt8) :=
  if x.kind = 1 then [nt x.n]
  else if x.kind = 2 then [qt x.s.toList]
  else if x.kind = 3 then [x.s.toList]
  else if x.kind = 4 then (if x.kids.length = 0 then [x.s.toList] else [[40] ++ x.s.toList ++ [32], [41]])
  else if x.kind = 5 then [[40, 102, 117, 110, 32] ++ x.s.toList ++ [32, 45, 62, 32], [41]]
  else if x.kind = 6 then [[40], [32], [41]]
  else if x.kind = 7 then [[40, 108, 101, 116, 32] ++ x.s.toList ++ [32, 61, 32], [32, 105, 110, 32], [41]]
  else if x.kind = 8 then [[40, 108, 101, 116, 32, 114, 101, 99, 32] ++ x.s.toList ++ [32], [32, 105, 110, 32], [41]]
  else if x.kind = 9 then [[40, 105, 102, 32], [32, 116, 104, 101, 110, 32], [32, 101, 108, 115, 101, 32], [41]]
  else if x.kind = 10 then [[40], [32] ++ x.s.toList ++ [32], [41]]
  else if x.kind = 11 then [[40], [44, 32], [41]]
  else if x.kind = 13 then ([40, 109, 97, 116, 99, 104, 32] :: armsT pt [32, 119, 105, 116, 104, 32] x.pats) ++ [[32, 101, 110, 100, 41]]
  else if x.kind = 14 then [[40, 114, 97, 105, 115, 101, 32], [41]]
  else if x.kind = 15 then [[40, 116, 114, 121, 32], [32, 119, 105, 116, 104, 32] ++ x.s.toList ++ [32, 45, 62, 32], [32, 101, 110, 100, 41]]
  else if x.kind = 16 then [[40, 114, 101, 102, 32], [41]]
  else if x.kind = 17 then [[40, 33, 32], [41]]
  else if x.kind = 18 then [[40], [32, 58, 61, 32], [41]]
  else if x.kind = 19 then [[40], [59, 32], [41]]
  else [[40, 41]]
/-- The texts of a node that its parent wants in a way. -/
def rowM (N : Nd → List (List UInt8)) (c : Nat) (x : Nd) : List (List UInt8) :=
  if c = 1 then [[40], [32, 58, 58, 32], [41]] else if c = 2 then [x.s.toList ++ [32, 61, 32], []]
  else if c = 3 ∧ isLoneN x = true then [[40] ++ x.s.toList ++ [41]] else if isConsN x = true then [[], []] else N x
/-- The children's texts, behind each the next piece of the node's own; the first child is wanted in the way m. -/
def kF (g : Nat → Nat → List UInt8) (T : List (List UInt8)) : Nat → Nat → List Int → List UInt8
  | _, _, [] => []
  | d, m, k :: ks => g m k.toNat ++ (T[d + 1]?.getD [] ++ kF g T (d + 1) 0 ks)
/-- The text by recursion: c, how the parent wants it. -/
def exprT (N : Nd → List (List UInt8)) (p : List Nd) : Nat → Nat → Nat → List UInt8
  | 0, _, _ => []
  | f + 1, c, a => match p[a]? with
    | none => []
    | some n => (rowM N c n)[0]?.getD [] ++ kF (exprT N p f) (rowM N c n) 0 (modeN n) n.kids
theorem exprT_at (N : Nd → List (List UInt8)) (p : List Nd) (f c a : Nat) (ha : a < p.length) : exprT N p (f + 1) c a = (rowM N c p[a])[0]?.getD [] ++ kF (exprT N p f) (rowM N c p[a]) 0 (modeN p[a]) p[a].kids := by
  rw [exprT, List.getElem?_eq_getElem ha]
/-- How a place's text is wanted, when the first t nodes have been asked. -/
def modeTo (p : List Nd) (t i : Nat) : Nat := match (p.take t).find? (fun x => decide (x.kids.head? = some (i : Int))) with
  | some x => modeN x
  | none => 0
/-- The row at a place, when the first t nodes have been asked. -/
def rowTo (N : Nd → List (List UInt8)) (p : List Nd) (t i : Nat) (x : Nd) : List (List UInt8) :=
  if modeTo p t i = 1 then [[40], [32, 58, 58, 32], [41]] else if modeTo p t i = 2 then [x.s.toList ++ [32, 61, 32], []]
  else if modeTo p t i = 3 ∧ isLoneN x = true then [[40] ++ x.s.toList ++ [41]] else if isConsN x = true ∧ i < t then [[], []] else N x
theorem rowTo_0 (N : Nd → List (List UInt8)) (p : List Nd) (i : Nat) (x : Nd) : rowTo N p 0 i x = N x := by simp [rowTo, modeTo]
theorem rowTo_end (N : Nd → List (List UInt8)) (p : List Nd) (i : Nat) (x : Nd) (hi : i < p.length) : rowTo N p p.length i x = rowM N (modeTo p p.length i) x := by
  unfold rowTo rowM
  simp [hi]
/-- A child lies in one place: its parent's head alone says how it is wanted. -/
theorem modeTo_head {p : List Nd} (hp : preB (p.map Nd.kids) = true) {t a k : Nat} (ha : a < p.length) (hat : a < t) (hk : p[a].kids.head? = some (k : Int)) : modeTo p t k = modeN p[a] := by
  unfold modeTo
  have hmem : ∀ (x : Nd), x ∈ p.take t → x.kids.head? = some (k : Int) → x = p[a] := by
    intro x hx hh
    obtain ⟨j, hj, rfl⟩ := List.getElem_of_mem hx
    have hj' : j < p.length := by simp at hj; omega
    rw [List.getElem_take] at hh ⊢
    have h1 : (k : Int) ∈ p[j].kids := List.mem_of_mem_head? (by rw [hh]; rfl)
    have h2 : (k : Int) ∈ p[a].kids := List.mem_of_mem_head? (by rw [hk]; rfl)
    have := one_parent hp (i := j) (j := a) (by simpa using hj') (by simpa using ha) (k := k) (by simpa using h1) (by simpa using h2)
    subst this; rfl
  cases hf : (p.take t).find? (fun x => decide (x.kids.head? = some (k : Int))) with
  | some x =>
    have h1 := List.find?_some hf
    simp only [decide_eq_true_eq] at h1
    simp only [hmem x (List.mem_of_find?_eq_some hf) h1]
  | none =>
    rw [List.find?_eq_none] at hf
    have hm : p[a] ∈ p.take t := by
      rw [List.mem_take_iff_getElem]
      exact ⟨a, by omega, rfl⟩
    have := hf p[a] hm
    simp [hk] at this
theorem modeTo_none {p : List Nd} {t k : Nat} (h : ∀ j (hj : j < p.length), p[j].kids.head? ≠ some (k : Int)) : modeTo p t k = 0 := by
  unfold modeTo
  cases hf : (p.take t).find? (fun x => decide (x.kids.head? = some (k : Int))) with
  | none => rfl
  | some x =>
    have h1 := List.find?_some hf
    simp only [decide_eq_true_eq] at h1
    obtain ⟨j, hj, rfl⟩ := List.getElem_of_mem (List.mem_of_find?_eq_some hf)
    have hj' : j < p.length := by simp at hj; omega
    rw [List.getElem_take] at h1
    exact absurd h1 (h j hj')
/-- The program's rows, woven, are the text. -/
theorem wT_exprT (N : Nd → List (List UInt8)) {p : List Nd} (hp : preB (p.map Nd.kids) = true) (L : List (List (List UInt8))) (hL : ∀ i (h : i < p.length), L[i]? = some (rowM N (modeTo p p.length i) p[i])) :
    ∀ (f a : Nat), a < p.length → p.length < a + f → wT L (p.map Nd.kids) f a = exprT N p f (modeTo p p.length a) a := by
  intro f
  induction f with
  | zero => intro a ha hf; omega
  | succ f ih =>
    intro a ha hf
    rw [exprT_at _ _ _ _ _ ha, wT, hL a ha, Option.getD_some, List.getElem?_map, List.getElem?_eq_getElem ha, Option.map_some, Option.getD_some]
    congr 1
    obtain ⟨e, hs, _, _⟩ := span_at hp a (by simpa using ha)
    rw [List.getElem_map] at hs
    have hkid : ∀ k ∈ p[a].kids, (a : Int) < k ∧ k < (p.length : Int) := fun k hk => by
      have := preB_kids _ hp a (by simpa using ha) k (by simpa using hk)
      simpa using this
    have hone : ∀ (j : Nat) (hj : j < p.length) (k : Int), k ∈ p[j].kids → k ∈ p[a].kids → j = a := fun j hj k h1 h2 =>
      one_parent hp (i := j) (j := a) (by simpa using hj) (by simpa using ha) (k := k) (by simpa using h1) (by simpa using h2)
    have hrest : ∀ (ks : List Int) (d : Nat), (∀ k ∈ ks, k ∈ p[a].kids ∧ p[a].kids.head? ≠ some k) → wF (wT L (p.map Nd.kids) f) (rowM N (modeTo p p.length a) p[a]) d ks = kF (exprT N p f) (rowM N (modeTo p p.length a) p[a]) d 0 ks := by
      intro ks
      induction ks with
      | nil => intro d _; simp [wF, kF]
      | cons k ks ih2 =>
        intro d hk
        obtain ⟨h1, h2⟩ := hk k (by simp)
        obtain ⟨h3, h4⟩ := hkid k h1
        obtain ⟨kn, rfl⟩ : ∃ kn : Nat, k = kn := ⟨k.toNat, by omega⟩
        have hm : modeTo p p.length kn = 0 := modeTo_none fun j hj hh => by
          have h5 : (kn : Int) ∈ p[j].kids := List.mem_of_mem_head? (by rw [hh]; rfl)
          have := hone j hj kn h5 h1
          subst this
          exact h2 hh
        rw [wF, kF, Int.toNat_natCast, ih kn (by omega) (by omega), hm, ih2 (d + 1) fun x hx => hk x (by simp [hx])]
    cases hk : p[a].kids with
    | nil => simp [wF, kF]
    | cons k ks =>
      have hkm : k ∈ p[a].kids := by rw [hk]; simp
      obtain ⟨h3, h4⟩ := hkid k hkm
      obtain ⟨kn, rfl⟩ : ∃ kn : Nat, k = kn := ⟨k.toNat, by omega⟩
      have hm : modeTo p p.length kn = modeN p[a] := modeTo_head hp ha ha (by rw [hk]; rfl)
      rw [wF, kF, Int.toNat_natCast, ih kn (by omega) (by omega), hm, hrest ks 1 fun x hx => ⟨by rw [hk]; simp [hx], by
        rw [hk]
        simp only [List.head?_cons, ne_eq, Option.some.injEq]
        have h6 := hs.asc
        rw [hk] at h6
        have := (List.pairwise_cons.1 h6).1 x hx
        omega⟩]
theorem modeTo_old {p : List Nd} {t i : Nat} (ht : t < p.length) (h : p[t].kids.head? ≠ some (i : Int)) : modeTo p (t + 1) i = modeTo p t i := by
  unfold modeTo
  rw [List.take_add_one, List.getElem?_eq_getElem ht, List.find?_append]
  have : [p[t]].find? (fun x => decide (x.kids.head? = some (i : Int))) = none := by simp [h]
  rw [show (some p[t]).toList = [p[t]] from rfl, this, Option.or_none]
theorem modeTo_before {p : List Nd} (hp : preB (p.map Nd.kids) = true) {t k : Nat} (ht : t < p.length) (h : p[t].kids.head? = some (k : Int)) : modeTo p t k = 0 := by
  unfold modeTo
  cases hf : (p.take t).find? (fun x => decide (x.kids.head? = some (k : Int))) with
  | none => rfl
  | some x =>
    have h1 := List.find?_some hf
    simp only [decide_eq_true_eq] at h1
    obtain ⟨j, hj, rfl⟩ := List.getElem_of_mem (List.mem_of_find?_eq_some hf)
    have hj' : j < p.length := by simp at hj; omega
    rw [List.getElem_take] at h1
    have h2 : (k : Int) ∈ p[j].kids := List.mem_of_mem_head? (by rw [h1]; rfl)
    have h3 : (k : Int) ∈ p[t].kids := List.mem_of_mem_head? (by rw [h]; rfl)
    have := one_parent hp (i := j) (j := t) (by simpa using hj') (by simpa using ht) (k := k) (by simpa using h2) (by simpa using h3)
    simp at hj
    omega
/-- What a right program's nodes are like. -/
structure PgV (p : List Nd) : Prop where
  pre : preB (p.map Nd.kids) = true
  nd : ∀ i (h : i < p.length), isNodeB p[i] = true
  fst : ∀ i (h : i < p.length), rfB p p[i] = true
theorem PgV.kid {p : List Nd} (h : PgV p) {i : Nat} (hi : i < p.length) {k : Int} (hk : k ∈ p[i].kids) : (i : Int) < k ∧ k < (p.length : Int) := by
  have := preB_kids _ h.pre i (by simpa using hi) k (by simpa using hk)
  simpa using this
/-- A '::' has one child; it is wanted as it is. -/
theorem PgV.cons1 {p : List Nd} (h : PgV p) {i : Nat} (hi : i < p.length) (hc : isConsN p[i] = true) : p[i].kids.length = 1 := by
  have h3 := h.nd i hi
  have h1 := isNode_first _ h3 (.inr hc)
  simp only [isNodeB, Bool.and_eq_true] at h3
  simp only [isConsN, Bool.and_eq_true, decide_eq_true_eq] at hc
  have h4 := h3.2.2.2.1
  rw [hc.1] at h4
  unfold rkB at h4
  simp at h4
  omega
theorem PgV.plain {p : List Nd} (h : PgV p) {t i : Nat} (hi : i < p.length) (hc : isConsN p[i] = true) : modeTo p t i ≠ 1 ∧ modeTo p t i ≠ 2 ∧ isLoneN p[i] = false := by
  have hl := h.cons1 hi hc
  have hk : p[i].kind = 4 := by simp only [isConsN, Bool.and_eq_true, decide_eq_true_eq] at hc; exact hc.1
  have key : ∀ (j : Nat) (hj : j < p.length), p[j].kids.head? = some (i : Int) → p[j].kind ≠ 8 ∧ isConsN p[j] ≠ true := by
    intro j hj hh
    have hf := h.fst j hj
    cases hq : p[j].kids with
    | nil => rw [hq] at hh; simp at hh
    | cons y ys =>
      rw [hq] at hh
      simp only [List.head?_cons, Option.some.injEq] at hh
      subst hh
      unfold rfB at hf
      simp only [hq, firstNK, Int.toNat_natCast, List.getElem?_eq_getElem hi, hk] at hf
      constructor
      · intro h8; rw [if_pos h8] at hf; simp at hf
      · intro hcj
        have h8 : ¬ p[j].kind = 8 := by
          simp only [isConsN, Bool.and_eq_true, decide_eq_true_eq] at hcj; omega
        rw [if_neg h8, if_pos hcj] at hf; simp at hf
  refine ⟨?_, ?_, by simp [isLoneN, hl]⟩
  all_goals
    unfold modeTo
    cases hf : (p.take t).find? (fun x => decide (x.kids.head? = some (i : Int))) with
    | none => simp
    | some x =>
      have h1 := List.find?_some hf
      simp only [decide_eq_true_eq] at h1
      obtain ⟨j, hj, rfl⟩ := List.getElem_of_mem (List.mem_of_find?_eq_some hf)
      have hj' : j < p.length := by simp at hj; omega
      rw [List.getElem_take] at h1
      obtain ⟨g1, g2⟩ := key j hj' h1
      simp only [List.getElem_take]
      unfold modeN
      rw [if_neg g2, if_neg g1]
      split <;> simp
/-- What asking node t does to the row at a place. -/
theorem PgV.step {p : List Nd} (h : PgV p) (N : Nd → List (List UInt8)) {t i : Nat} (ht : t < p.length) (hi : i < p.length) :
    rowTo N p (t + 1) i p[i] = if p[t].kids.head? = some (i : Int) ∧ (modeN p[t] = 1 ∨ modeN p[t] = 2 ∨ modeN p[t] = 3 ∧ isLoneN p[i] = true) then rowM N (modeN p[t]) p[i]
      else if i = t ∧ isConsN p[t] = true then [[], []] else rowTo N p t i p[i] := by
  by_cases hh : p[t].kids.head? = some (i : Int)
  · have hlt : t < i := by
      have := h.kid ht (k := i) (List.mem_of_mem_head? (by rw [hh]; rfl))
      omega
    have m1 : modeTo p (t + 1) i = modeN p[t] := modeTo_head h.pre ht (by omega) hh
    have m0 : modeTo p t i = 0 := modeTo_before h.pre ht hh
    have e : (i < t + 1) = False := by simp; omega
    have e2 : (i < t) = False := by simp; omega
    have e3 : (i = t) = False := by simp; omega
    unfold rowTo rowM
    rw [m1, m0]
    simp only [hh, e, e2, e3, true_and, and_false, false_and, if_false]
    by_cases c1 : modeN p[t] = 1
    · simp [c1]
    · by_cases c2 : modeN p[t] = 2
      · simp [c2]
      · by_cases c3 : modeN p[t] = 3 ∧ isLoneN p[i] = true
        · simp [c3]
        · simp [c1, c2, c3]
  · have m1 := modeTo_old ht hh
    unfold rowTo
    rw [m1]
    simp only [hh, false_and, if_false]
    by_cases he : i = t
    · subst he
      by_cases hc : isConsN p[i] = true
      · obtain ⟨g1, g2, g3⟩ := h.plain (t := i) hi hc
        simp [hc, g1, g2, g3]
      · simp [hc]
    · have : (i < t + 1) = (i < t) := by simp; omega
      simp only [this, he, false_and, if_false]
/-- The pieces are the rows' own. -/
theorem weave_sz (L : List (List (List UInt8))) (M : Nat) (hL : ∀ T ∈ L, ∀ t ∈ T, t.length ≤ M) (s : List (List UInt8)) (a d : Nat) (n : Int) (hs : ∀ t ∈ s, t.length ≤ M) : ∀ t ∈ (vW L s a d n).2, t.length ≤ M := by
  intro t ht
  simp only [vW, List.mem_append, List.mem_singleton] at ht
  rcases ht with ht | rfl
  · exact hs t ht
  · cases hA : L[a]? with
    | none => simp
    | some T =>
      cases hB : T[d]? with
      | none => simp [hB]
      | some u =>
        simp only [Option.getD_some, hB]
        exact hL T (List.mem_of_getElem? hA) u (List.mem_of_getElem? hB)
/-- What each visit keeps, the walk keeps. -/
theorem iterS_keeps {σ : Type} {g : σ → Int → Int × σ} {V : σ → Nat → Int → Bool × σ} (I : σ → Prop) (hg : ∀ s n, I s → I (g s n).2) (hV : ∀ s d n, I s → I (V s d n).2) : ∀ (t d : Nat) (n : Int) (s : σ), I s → I (iterS g V t d n s).2 := by
  intro t
  induction t with
  | zero => intro d n s hs; exact hs
  | succ t ih =>
    intro d n s hs
    rw [iterS]
    split
    · exact hg _ _ hs
    · split
      · exact ih _ _ _ (hV _ _ _ (hg _ _ hs))
      · exact hV _ _ _ (hg _ _ hs)
theorem walkS_keeps {σ : Type} {V : σ → Nat → Nat → Int → Bool × σ} (cs : List Int) (I : σ → Prop) (hV : ∀ s a d n, I s → I (V s a d n).2) : ∀ (f : Nat) (s : σ) (a : Int), I s → I (walkS V cs f s a).2 := by
  intro f
  induction f with
  | zero => intro s a hs; exact hs
  | succ f ih =>
    intro s a hs
    rw [walkS]
    split
    · exact hs
    · split
      · exact iterS_keeps I (fun s n h => ih s n h) (fun s d n h => hV s _ d n h) _ _ _ _ (hV _ _ _ _ hs)
      · exact hV _ _ _ _ hs
theorem flat_le (P : List (List UInt8)) (M : Nat) (h : ∀ t ∈ P, t.length ≤ M) : P.flatten.length ≤ P.length * M := by
  induction P with
  | nil => simp
  | cons x P ih =>
    rw [List.flatten_cons, List.length_append, List.length_cons, Nat.succ_mul]
    have := h x (by simp)
    have := ih fun t ht => h t (by simp [ht])
    omega
/-- The whole of what is woven, with a bound on its length. -/
theorem weave_len (L : List (List (List UInt8))) {l : List (List Int)} (hp : preB l = true) (M : Nat) (hL : ∀ T ∈ L, ∀ t ∈ T, t.length ≤ M) : ∃ P, walkS (vW L) (lens l) (l.length + 1) [] 0 = ((l.length : Int), P) ∧ P.flatten = wT L l (l.length + 1) 0 ∧ P.length ≤ 1200 ∧ P ≠ [] ∧ P.flatten.length ≤ 1200 * M := by
  obtain ⟨P, h1, h2, h3, h4⟩ := weave_all L hp
  refine ⟨P, h1, h2, h3, h4, ?_⟩
  have h5 := walkS_keeps (V := vW L) (lens l) (fun s => ∀ t ∈ s, t.length ≤ M) (fun s a d n hs => weave_sz L M hL s a d n hs) (l.length + 1) [] 0 (by simp)
  rw [h1] at h5
  exact Nat.le_trans (flat_le P M h5) (Nat.mul_le_mul_right M h3)
end Go.Proofs.YtbehcmogndpkhaaGreatDoor
