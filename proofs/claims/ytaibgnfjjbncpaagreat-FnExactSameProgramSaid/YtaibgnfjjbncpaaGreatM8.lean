/- Texts of this proof, merged: HtMath, PpMath, OkP, OkQ, PpS. -/
import Derived.Test.YtaibgnfjjbncpaaGreatM7
import Derived.Deep.DeepCutAuto
namespace Go.Proofs.YtaibgnfjjbncpaaGreat
set_option linter.unusedVariables false
open Go.RowKit

/-- The nodes from a place on are trees, one behind another: their roots, and the place behind them. -/
inductive Span (l : List (List Int)) : List Int → Nat → Nat → Prop
  | nil (a : Nat) : Span l [] a a
  | cons (a m e : Nat) (ks : List Int) (h : a < l.length) (h1 : Span l l[a] (a + 1) m) (h2 : Span l ks m e) : Span l ((a : Int) :: ks) a e
theorem Span.le {l : List (List Int)} {ks : List Int} {a e : Nat} (h : Span l ks a e) : a ≤ e := by
  induction h with
  | nil a => exact Nat.le_refl _
  | cons a m e ks h h1 h2 i1 i2 => omega
theorem Span.top {l : List (List Int)} {ks : List Int} {a e : Nat} (h : Span l ks a e) (ha : a ≤ l.length) : e ≤ l.length := by
  induction h with
  | nil a => exact ha
  | cons a m e ks h h1 h2 i1 i2 => exact i2 (i1 (by omega))
theorem Span.app {l : List (List Int)} {ks js : List Int} {a m e : Nat} (h : Span l ks a m) (h2 : Span l js m e) : Span l (ks ++ js) a e := by
  induction h with
  | nil a => exact h2
  | cons a m' e' ks hlt h1 _ i1 i2 => exact .cons a m' e (ks ++ js) hlt h1 (i2 h2)
theorem Span.roots {l : List (List Int)} {ks : List Int} {a e : Nat} (h : Span l ks a e) : ∀ k ∈ ks, (a : Int) ≤ k ∧ k < (e : Int) := by
  induction h with
  | nil a => intro k hk; simp at hk
  | cons a m e ks hlt h1 h2 i1 i2 =>
    intro k hk
    have := h1.le
    have := h2.le
    rcases List.mem_cons.1 hk with rfl | hk
    · omega
    · have := i2 k hk; omega
/-- They ascend. -/
theorem Span.asc {l : List (List Int)} {ks : List Int} {a e : Nat} (h : Span l ks a e) : ks.Pairwise (· < ·) := by
  induction h with
  | nil a => exact .nil
  | cons a m e ks hlt h1 h2 i1 i2 =>
    refine .cons (fun k hk => ?_) i2
    have := h1.le
    have := h2.roots k hk
    omega
theorem Span.sub {l : List (List Int)} {ks : List Int} {a e : Nat} (h : Span l ks a e) : ∀ i, a ≤ i → i < e → ∃ (hi : i < l.length) (m : Nat), Span l l[i] (i + 1) m ∧ m ≤ e := by
  induction h with
  | nil a => intro i h1 h2; omega
  | cons a m e ks hlt h1 h2 i1 i2 =>
    intro i hi hie
    have := h2.le
    by_cases he : i = a
    · subst he; exact ⟨hlt, m, h1, h2.le⟩
    · by_cases hm : i < m
      · obtain ⟨hl, m', hs, hle⟩ := i1 i (by omega) hm
        exact ⟨hl, m', hs, by omega⟩
      · exact i2 i (by omega) hie
theorem span_kids {l : List (List Int)} {f : Nat} (ih : ∀ a : Nat, 0 ≤ pendF f l a → ∃ h : a < l.length, Span l l[a] (a + 1) (pendF f l a).toNat) : ∀ (ks : List Int) (n : Nat), 0 ≤ kidsE (pendF f l) ks n → Span l ks n (kidsE (pendF f l) ks n).toNat := by
  intro ks
  induction ks with
  | nil => intro n hn; rw [kidsE]; exact .nil n
  | cons k ks ihk =>
    intro n hn
    rw [kidsE] at hn ⊢
    by_cases hk : k = n
    · rw [if_pos hk] at hn ⊢
      subst hk
      by_cases hg : pendF f l n < 0
      · rw [if_pos hg] at hn; omega
      · rw [if_neg hg] at hn ⊢
        obtain ⟨hlt, hs⟩ := ih n (by omega)
        have e1 : ((pendF f l n).toNat : Int) = pendF f l n := by omega
        have := ihk (pendF f l n).toNat (by rw [e1]; exact hn)
        rw [e1] at this
        exact .cons n _ _ ks hlt hs this
    · rw [if_neg hk] at hn; omega
theorem span_of (l : List (List Int)) : ∀ (f a : Nat), 0 ≤ pendF f l a → ∃ h : a < l.length, Span l l[a] (a + 1) (pendF f l a).toNat := by
  intro f
  induction f with
  | zero => intro a h; rw [pendF] at h; omega
  | succ f ih =>
    intro a h
    by_cases ha : a < l.length
    · rw [pendF_in f l a ha] at h ⊢
      have := span_kids ih l[a] (a + 1) (by push_cast; exact h)
      push_cast at this
      exact ⟨ha, this⟩
    · rw [pendF_out _ _ _ (by omega)] at h; omega
theorem span_end {l : List (List Int)} {ks : List Int} {a e : Nat} (h : Span l ks a e) : ∀ f, l.length < a + f → kidsE (pendF f l) ks a = e := by
  induction h with
  | nil a => intro f _; rfl
  | cons a m e ks hlt h1 h2 i1 i2 =>
    intro f hf
    obtain ⟨f', rfl⟩ : ∃ f', f = f' + 1 := ⟨f - 1, by omega⟩
    have hle := h1.le
    have e1 : pendF (f' + 1) l (a : Int) = m := by
      rw [pendF_in f' l a hlt]
      have := i1 f' (by omega)
      push_cast at this
      exact this
    rw [kidsE, if_pos rfl, e1, if_neg (by omega)]
    exact i2 (f' + 1) (by omega)
theorem span_pend {l : List (List Int)} {a e f : Nat} (ha : a < l.length) (h : Span l l[a] (a + 1) e) (hf : l.length < a + f) : pendF f l a = e := by
  obtain ⟨f', rfl⟩ : ∃ f', f = f' + 1 := ⟨f - 1, by omega⟩
  rw [pendF_in f' l a ha]
  have := span_end h f' (by omega)
  push_cast at this
  exact this
theorem span_pre {l : List (List Int)} (h : preB l = true) : Span l [0] 0 l.length := by
  obtain ⟨h1, _, h3⟩ := (preB_iff l).1 h
  obtain ⟨hlt, hs⟩ := span_of l (l.length + 1) 0 (by push_cast; omega)
  push_cast at hs
  rw [h3] at hs
  exact .cons 0 _ _ [] hlt hs (.nil _)
/-- Of one tree: each node has a tree below it. -/
theorem span_at {l : List (List Int)} (h : preB l = true) (i : Nat) (hi : i < l.length) : ∃ e, Span l l[i] (i + 1) e ∧ i < e ∧ e ≤ l.length := by
  obtain ⟨_, m, hs, hle⟩ := (span_pre h).sub i (Nat.zero_le _) hi
  exact ⟨m, hs, by have := hs.le; omega, hle⟩
/-- The place behind a node's tree. -/
def endN (l : List (List Int)) (k : Nat) : Nat := (pendF (l.length + 1) l k).toNat
theorem endN_of {l : List (List Int)} {k e : Nat} (hk : k < l.length) (h : Span l l[k] (k + 1) e) : endN l k = e := by
  rw [endN, span_pend hk h (by omega)]; rfl
/-- The last descendant: the walk from a node to its last child, again and again. -/
theorem span_last {l : List (List Int)} {k e : Nat} (hk : k < l.length) (h : Span l l[k] (k + 1) e) :
    (l[k] = [] → e = k + 1) ∧ (∀ h0 : l[k] ≠ [], ∃ j : Nat, l[k].getLast h0 = j ∧ k < j ∧ ∃ hj : j < l.length, Span l l[j] (j + 1) e) := by
  have key : ∀ (ks : List Int) (a e : Nat), Span l ks a e → (ks = [] → e = a) ∧ (∀ h0 : ks ≠ [], ∃ j : Nat, ks.getLast h0 = j ∧ a ≤ j ∧ ∃ hj : j < l.length, Span l l[j] (j + 1) e) := by
    intro ks a e h
    induction h with
    | nil a => exact ⟨fun _ => rfl, fun h0 => absurd rfl h0⟩
    | cons a m e ks hlt h1 h2 i1 i2 =>
      refine ⟨fun h => by simp at h, fun h0 => ?_⟩
      by_cases hks : ks = []
      · subst hks
        have := i2.1 rfl
        subst this
        exact ⟨a, by simp, Nat.le_refl _, hlt, h1⟩
      · obtain ⟨j, hj, haj, hlj, hs⟩ := i2.2 hks
        have := h1.le
        exact ⟨j, by rw [List.getLast_cons hks]; exact hj, by omega, hlj, hs⟩
  obtain ⟨k1, k2⟩ := key _ _ _ h
  refine ⟨k1, fun h0 => ?_⟩
  obtain ⟨j, h1, h2, h3, h4⟩ := k2 h0
  exact ⟨j, h1, by omega, h3, h4⟩

/-! ### A part of a value, by itself -/
def shiftN (k : Nat) (x : DN) : DN := ⟨x.kind, x.n, x.s, x.kids.map (· - (k : Int))⟩
def partN (d : List DN) (k : Nat) : List DN := ((d.take (endN (d.map DN.kids) k)).drop k).map (shiftN k)

/-! ### What is bound -/
def hitsF (g : Nat → Nat → Option (List (List DN))) : List Int → List Int → Option (List (List DN))
  | k :: ks, j :: js => match g k.toNat j.toNat with
    | none => none
    | some a => (hitsF g ks js).map (a ++ ·)
  | _, _ => some []
/-- The root of a pattern fits the root of a value, not asked what lies below. -/
def likeB (n : PN) (v : DN) : Bool := decide (n.kind = v.kind) && (decide (n.n = v.n) && (decide (n.s.toList = v.s.toList) && decide (n.kids.length = v.kids.length)))
def hitStep (g : Nat → Nat → Option (List (List DN))) (d : List DN) (n : PN) (v : DN) (k : Nat) : Option (List (List DN)) :=
  if n.kind = 1 then some [] else if n.kind = 2 then some [partN d k] else if likeB n v = true then hitsF g n.kids v.kids else none
def hitF : Nat → List PN → List DN → Nat → Nat → Option (List (List DN))
  | 0, _, _, _, _ => none
  | f + 1, q, d, i, k => match q[i]?, d[k]? with
    | some n, some v => hitStep (hitF f q d) d n v k
    | _, _ => none
def hitN (q : List PN) (d : List DN) (i k : Nat) : Option (List (List DN)) := hitF (q.length + 1) q d i k
theorem hitsF_congr {g g' : Nat → Nat → Option (List (List DN))} : ∀ (ks js : List Int), (∀ k ∈ ks, ∀ j, g k.toNat j = g' k.toNat j) → hitsF g ks js = hitsF g' ks js := by
  intro ks
  induction ks with
  | nil => intro js _; simp [hitsF]
  | cons k ks ih =>
    intro js h
    cases js with
    | nil => simp [hitsF]
    | cons j js => rw [hitsF, hitsF, h k (by simp), ih js fun x hx => h x (List.mem_cons_of_mem _ hx)]
theorem hit_fuel {q : List PN} {d : List DN} (hq : ∀ i (h : i < q.length), ∀ k ∈ q[i].kids, (i : Int) < k) : ∀ (f g i k : Nat), q.length < i + f → q.length < i + g → hitF f q d i k = hitF g q d i k := by
  intro f
  induction f with
  | zero =>
    intro g i k h1 h2
    cases g with
    | zero => rfl
    | succ g => rw [hitF, hitF, List.getElem?_eq_none (by omega)]
  | succ f ih =>
    intro g i k h1 h2
    cases g with
    | zero => rw [hitF, hitF, List.getElem?_eq_none (by omega)]
    | succ g =>
      rw [hitF, hitF]
      by_cases hi : i < q.length
      · rw [List.getElem?_eq_getElem hi]
        cases d[k]? with
        | none => rfl
        | some v =>
          have hc : hitsF (hitF f q d) q[i].kids v.kids = hitsF (hitF g q d) q[i].kids v.kids := hitsF_congr _ _ fun y hy j => by
            have := hq i hi y hy
            exact ih g y.toNat j (by omega) (by omega)
          show hitStep (hitF f q d) d q[i] v k = hitStep (hitF g q d) d q[i] v k
          unfold hitStep
          rw [hc]
      · rw [List.getElem?_eq_none (by omega)]
theorem hitN_at {q : List PN} {d : List DN} (hq : ∀ i (h : i < q.length), ∀ k ∈ q[i].kids, (i : Int) < k) (i k : Nat) (hi : i < q.length) (hk : k < d.length) :
    hitN q d i k = hitStep (hitN q d) d q[i] d[k] k := by
  rw [show hitN q d i k = hitF (q.length + 1) q d i k from rfl, hitF, List.getElem?_eq_getElem hi, List.getElem?_eq_getElem hk]
  have hc : hitsF (hitF q.length q d) q[i].kids d[k].kids = hitsF (hitN q d) q[i].kids d[k].kids := hitsF_congr _ _ fun y hy j => by
    have := hq i hi y hy
    exact hit_fuel hq q.length (q.length + 1) y.toNat j (by omega) (by omega)
  show hitStep (hitF q.length q d) d q[i] d[k] k = _
  unfold hitStep
  rw [hc]
theorem hitsF_nil (g : Nat → Nat → Option (List (List DN))) (js : List Int) : hitsF g [] js = some [] := by simp [hitsF]
theorem hitsF_app (g : Nat → Nat → Option (List (List DN))) : ∀ (ks js ks' js' : List Int), ks.length = js.length →
    hitsF g (ks ++ ks') (js ++ js') = match hitsF g ks js with | none => none | some a => (hitsF g ks' js').map (a ++ ·) := by
  intro ks
  induction ks with
  | nil =>
    intro js ks' js' h
    obtain rfl : js = [] := List.eq_nil_of_length_eq_zero (by simpa using h.symm)
    rw [hitsF_nil]
    simp
  | cons k ks ih =>
    intro js ks' js' h
    cases js with
    | nil => simp at h
    | cons j js =>
      rw [List.cons_append, List.cons_append, hitsF, hitsF, ih js ks' js' (by simpa using h)]
      cases g k.toNat j.toNat with
      | none => rfl
      | some a =>
        cases hitsF g ks js with
        | none => rfl
        | some b =>
          cases hitsF g ks' js' with
          | none => rfl
          | some c => simp
theorem hit_len {q : List PN} {d : List DN} (hq : ∀ i (h : i < q.length), ∀ k ∈ q[i].kids, (i : Int) < k) {ks : List Int} {a e : Nat} (h : Span (q.map PN.kids) ks a e) : ∀ (js : List Int) (r : List (List DN)), hitsF (hitN q d) ks js = some r → r.length ≤ e - a := by
  induction h with
  | nil a => intro js r hr; rw [hitsF_nil] at hr; cases hr; simp
  | cons a m e ks hlt h1 h2 i1 i2 =>
    intro js r hr
    have hlt' : a < q.length := by simpa using hlt
    have l1 := h1.le
    have l2 := h2.le
    cases js with
    | nil => rw [hitsF] at hr; cases hr; simp; simp
    | cons j js =>
      rw [hitsF] at hr
      cases hx : hitN q d (a : Int).toNat j.toNat with
      | none => rw [hx] at hr; cases hr
      | some x =>
        rw [hx] at hr
        have hxl : x.length ≤ m - a := by
          rw [Int.toNat_natCast] at hx
          by_cases hj : j.toNat < d.length
          · rw [hitN_at hq a j.toNat hlt' hj] at hx
            unfold hitStep at hx
            split at hx
            · cases hx; simp
            · split at hx
              · cases hx; simp; omega
              · split at hx
                · have := i1 d[j.toNat].kids x (by simpa using hx)
                  omega
                · cases hx
          · rw [show hitN q d a j.toNat = hitF (q.length + 1) q d a j.toNat from rfl, hitF, List.getElem?_eq_getElem hlt', List.getElem?_eq_none (by omega)] at hx
            cases hx
        cases hy : hitsF (hitN q d) ks js with
        | none => rw [hy] at hr; cases hr
        | some y =>
          rw [hy] at hr
          have := i2 js y hy
          simp at hr
          subst hr
          rw [List.length_append]
          omega
theorem hitN_len {q : List PN} {d : List DN} (hp : preB (q.map PN.kids) = true) (i k : Nat) (hi : i < q.length) (hk : k < d.length) {r : List (List DN)} (h : hitN q d i k = some r) : r.length ≤ 600 := by
  have hq : ∀ i (h : i < q.length), ∀ k ∈ q[i].kids, (i : Int) < k := fun i h k hk => by
    have := preB_kids _ hp i (by simpa using h) k (by simpa using hk)
    exact this.1
  obtain ⟨e, hs, h1, h2⟩ := span_at hp i (by simpa using hi)
  have hlen := ((preB_iff _).1 hp).2.1
  simp only [List.length_map] at h2 hlen
  have hsp : Span (q.map PN.kids) [(i : Int)] i e := .cons i _ _ [] (by simpa using hi) hs (.nil _)
  have := hit_len hq hsp [(k : Int)] (r ++ []) (by rw [hitsF, Int.toNat_natCast, Int.toNat_natCast, h]; simp [hitsF_nil])
  simp at this
  omega
noncomputable def resHit (q : List PN) (d : List DN) : List (List DN) × Bool :=
  if (patOkB q && dOkB d) = true then (match hitN q d 0 0 with | none => ([], false) | some l => (l, true)) else ([], false)
end Go.Proofs.YtaibgnfjjbncpaaGreat
namespace Go.Proofs.YtaibgnfjjbncpaaGreat
set_option linter.unusedVariables false
open Go.RowKit

/-! ### Weaving, of any tree -/
/-- The kids' texts, behind each the next piece of the node's own. -/
def wF (g : Nat → List UInt8) (T : List (List UInt8)) : Nat → List Int → List UInt8
  | _, [] => []
  | d, k :: ks => g k.toNat ++ (T[d + 1]?.getD [] ++ wF g T (d + 1) ks)
def wT (L : List (List (List UInt8))) (l : List (List Int)) : Nat → Nat → List UInt8
  | 0, _ => []
  | f + 1, a => ((L[a]?.getD [])[0]?.getD []) ++ wF (wT L l f) (L[a]?.getD []) 0 (l[a]?.getD [])
/-- The visitor that gathers the pieces. -/
def vW (L : List (List (List UInt8))) (s : List (List UInt8)) (a d : Nat) (_ : Int) : Bool × List (List UInt8) := (true, s ++ [(L[a]?.getD [])[d]?.getD []])
theorem Span.hd {l : List (List Int)} {ks : List Int} {a e : Nat} (h : Span l ks a e) (hlt : a < e) : ∃ (hl : a < l.length) (m : Nat) (ks' : List Int), ks = (a : Int) :: ks' ∧ Span l l[a] (a + 1) m ∧ Span l ks' m e := by
  cases h with
  | nil => omega
  | cons _ m _ ks' hl h1 h2 => exact ⟨hl, m, ks', rfl, h1, h2⟩
theorem Span.emp {l : List (List Int)} {ks : List Int} {a : Nat} (h : Span l ks a a) : ks = [] := by
  cases h with
  | nil => rfl
  | cons _ m _ ks' hl h1 h2 => have := h1.le; have := h2.le; omega
theorem weave_walk (L : List (List (List UInt8))) {l : List (List Int)} {ks : List Int} {a e : Nat} (h : Span l ks a e) :
    ∀ (f b d : Nat) (s : List (List UInt8)), l.length < a + f → ∃ Q, iterS (walkS (vW L) (lens l) f) (fun s d n => vW L s b d n) ks.length d (a : Int) s = ((e : Int), s ++ Q) ∧ Q.flatten = wF (wT L l f) (L[b]?.getD []) d ks ∧ Q.length ≤ 2 * (e - a) := by
  induction h with
  | nil a => intro f b d s hf; exact ⟨[], by simp [iterS], by simp [wF], by simp⟩
  | cons a m e ks hlt h1 h2 ih1 ih2 =>
    intro f b d s hf
    obtain ⟨f', rfl⟩ : ∃ f', f = f' + 1 := ⟨f - 1, by omega⟩
    have l1 := h1.le
    have l2 := h2.le
    obtain ⟨Q1, e1, e2, e3⟩ := ih1 f' a 0 (s ++ [(L[a]?.getD [])[0]?.getD []]) (by omega)
    have hw : walkS (vW L) (lens l) (f' + 1) s (a : Int) = ((m : Int), s ++ [(L[a]?.getD [])[0]?.getD []] ++ Q1) := by
      rw [walkS_in _ _ _ _ _ (by simpa [lens] using hlt)]
      have hc : ((lens l)[a]'(by simpa [lens] using hlt)).toNat = l[a].length := by simp [lens]
      rw [hc]
      simp only [vW, if_true]
      push_cast at e1
      exact e1
    obtain ⟨Q2, g1, g2, g3⟩ := ih2 (f' + 1) b (d + 1) (s ++ [(L[a]?.getD [])[0]?.getD []] ++ Q1 ++ [(L[b]?.getD [])[d + 1]?.getD []]) (by omega)
    refine ⟨[(L[a]?.getD [])[0]?.getD []] ++ Q1 ++ [(L[b]?.getD [])[d + 1]?.getD []] ++ Q2, ?_, ?_, ?_⟩
    · rw [List.length_cons, iterS, hw]
      have hn : ¬ (m : Int) < 0 := by omega
      simp only [if_neg hn, vW, if_true]
      simp only [vW] at g1
      rw [g1]
      simp
    · rw [wF, Int.toNat_natCast, wT, List.getElem?_eq_getElem hlt, ← g2]
      simp only [List.flatten_append, e2]
      simp
    · simp only [List.length_append, List.length_singleton]; omega
theorem weave_all (L : List (List (List UInt8))) {l : List (List Int)} (hp : preB l = true) : ∃ P, walkS (vW L) (lens l) (l.length + 1) [] 0 = ((l.length : Int), P) ∧ P.flatten = wT L l (l.length + 1) 0 ∧ P.length ≤ 1200 ∧ P ≠ [] := by
  obtain ⟨hlt, m, ks', h0, h1, h2⟩ : ∃ (hl : 0 < l.length) (m : Nat) (ks' : List Int), [(0 : Int)] = ((0 : Nat) : Int) :: ks' ∧ Span l l[0] (0 + 1) m ∧ Span l ks' m l.length := by
    have := span_pre hp
    cases this with
    | cons _ m _ ks' hl h1 h2 => exact ⟨hl, m, [], rfl, h1, h2⟩
  have hk : ks' = [] := by simpa using h0.symm
  subst hk
  have hm : m = l.length := by cases h2; rfl
  subst hm
  have hlen := ((preB_iff _).1 hp).2.1
  obtain ⟨Q, e1, e2, e3⟩ := weave_walk L h1 l.length 0 0 [(L[0]?.getD [])[0]?.getD []] (by omega)
  refine ⟨[(L[0]?.getD [])[0]?.getD []] ++ Q, ?_, ?_, ?_, by simp⟩
  · have := walkS_in (vW L) (lens l) l.length [] 0 (by simpa [lens] using hlt)
    rw [show ((0 : Nat) : Int) = 0 from rfl] at this
    rw [this]
    have hc : ((lens l)[0]'(by simpa [lens] using hlt)).toNat = l[0].length := by simp [lens]
    rw [hc]
    simp only [vW, if_true, List.nil_append]
    simp only [vW] at e1
    simpa using e1
  · rw [wT, List.getElem?_eq_getElem hlt, List.flatten_append, e2]; simp
  · simp only [List.length_append, List.length_singleton]; omega
/-! ### A node has one parent -/
theorem Span.ends {l : List (List Int)} {ks : List Int} {a e : Nat} (h : Span l ks a e) : ∀ (k : Int), k ∈ ks → ∀ i : Nat, a ≤ i → (i : Int) < k → ∃ (hi : i < l.length) (m : Nat), Span l l[i] (i + 1) m ∧ (m : Int) ≤ k := by
  induction h with
  | nil a => intro k hk; simp at hk
  | cons a m e ks hlt h1 h2 ih1 ih2 =>
    intro k hk i hi hik
    rcases List.mem_cons.1 hk with rfl | hk
    · omega
    · have hr := h2.roots k hk
      by_cases him : i < m
      · by_cases hia : i = a
        · subst hia; exact ⟨hlt, m, h1, hr.1⟩
        · obtain ⟨hl, m', hs, hle⟩ := h1.sub i (by omega) him
          exact ⟨hl, m', hs, by omega⟩
      · exact ih2 k hk i (by omega) hik
theorem span_uniq {l : List (List Int)} {a e e' : Nat} (ha : a < l.length) (h : Span l l[a] (a + 1) e) (h' : Span l l[a] (a + 1) e') : e = e' := by
  have h1 := span_pend (f := l.length + 1) ha h (by omega)
  have h2 := span_pend (f := l.length + 1) ha h' (by omega)
  omega
theorem one_parent {l : List (List Int)} (hp : preB l = true) {i j : Nat} (hi : i < l.length) (hj : j < l.length) {k : Int} (hki : k ∈ l[i]) (hkj : k ∈ l[j]) : i = j := by
  have key : ∀ i j (hi : i < l.length) (hj : j < l.length), k ∈ l[i] → k ∈ l[j] → ¬ j < i := by
    intro i j hi hj hki hkj hlt
    obtain ⟨ei, hsi, _, _⟩ := span_at hp i hi
    obtain ⟨ej, hsj, _, _⟩ := span_at hp j hj
    have hik := hsi.roots k hki
    obtain ⟨_, m, hs, hm⟩ := hsj.ends k hkj i (by omega) (by omega)
    have := span_uniq hi hsi hs
    omega
  by_cases h1 : i < j
  · exact absurd h1 (key j i hj hi hkj hki)
  · by_cases h2 : j < i
    · exact absurd h2 (key i j hi hj hki hkj)
    · omega
/-! ### Patterns -/
/-- The texts of a node, not asked whether it is a '::' or the pair below one. -/
def pTexts (nt : Int → List UInt8) (n : PN) : List (List UInt8) :=
  if n.kind = 2 then [n.s.toList]
  else if n.kind = 3 then [nt n.n]
  else if n.kind = 4 then (if n.kids.length = 0 then [n.s.toList] else [[40] ++ n.s.toList ++ [32], [41]])
  else if n.kind = 5 then [[40], [44, 32], [41]]
  else if n.kind = 6 then [[40, 41]]
  else [[95]]
/-- Below one of the first t nodes that are '::'. -/
def consK (q : List PN) (t : Nat) (i : Nat) : Bool := (q.take t).any fun x => isConsB x && decide (x.kids.head? = some (i : Int))
/-- The texts when the first t nodes have been asked. -/
def patL (nt : Int → List UInt8) (q : List PN) (t : Nat) : List (List (List UInt8)) :=
  (List.range q.length).map fun i => if consK q t i = true then [[40], [32, 58, 58, 32], [41]] else match q[i]? with
    | some n => if isConsB n = true ∧ i < t then [[], []] else pTexts nt n
    | none => []
/-- The model's text of the pattern that begins at a place; c: the pair below a '::'. -/
def patU (nt : Int → List UInt8) (q : List PN) : Nat → Bool → Nat → List UInt8
  | 0, _, _ => []
  | f + 1, c, a => match q[a]? with
    | none => []
    | some n =>
      if n.kind = 1 then [95] else if n.kind = 2 then n.s.toList else if n.kind = 3 then nt n.n else if n.kind = 6 then [40, 41]
      else if n.kind = 5 then ([40] : List UInt8) ++ (patU nt q f false (n.kids[0]?.getD 0).toNat ++ ((if c = true then ([32, 58, 58, 32] : List UInt8) else [44, 32]) ++ (patU nt q f false (n.kids[1]?.getD 0).toNat ++ ([41] : List UInt8))))
      else if n.kids.length = 0 then n.s.toList
      else if n.s.toList = [58, 58] then patU nt q f true (n.kids[0]?.getD 0).toNat
      else ([40] : List UInt8) ++ (n.s.toList ++ (([32] : List UInt8) ++ (patU nt q f false (n.kids[0]?.getD 0).toNat ++ ([41] : List UInt8))))
abbrev patT (nt : Int → List UInt8) (q : List PN) (f a : Nat) : List UInt8 := patU nt q f false a
def patN (nt : Int → List UInt8) (g : Bool → Nat → List UInt8) (c : Bool) (n : PN) : List UInt8 :=
  if n.kind = 1 then [95] else if n.kind = 2 then n.s.toList else if n.kind = 3 then nt n.n else if n.kind = 6 then [40, 41]
  else if n.kind = 5 then ([40] : List UInt8) ++ (g false (n.kids[0]?.getD 0).toNat ++ ((if c = true then ([32, 58, 58, 32] : List UInt8) else [44, 32]) ++ (g false (n.kids[1]?.getD 0).toNat ++ ([41] : List UInt8))))
  else if n.kids.length = 0 then n.s.toList
  else if n.s.toList = [58, 58] then g true (n.kids[0]?.getD 0).toNat
  else ([40] : List UInt8) ++ (n.s.toList ++ (([32] : List UInt8) ++ (g false (n.kids[0]?.getD 0).toNat ++ ([41] : List UInt8))))
theorem patU_at (nt : Int → List UInt8) (q : List PN) (f : Nat) (c : Bool) (a : Nat) (ha : a < q.length) : patU nt q (f + 1) c a = patN nt (patU nt q f) c q[a] := by
  rw [patU, List.getElem?_eq_getElem ha]; rfl
theorem consK_yes {q : List PN} {t i j : Nat} (hj : j < q.length) (hjt : j < t) (hc : isConsB q[j] = true) (hk : q[j].kids.head? = some (i : Int)) : consK q t i = true := by
  unfold consK
  rw [List.any_eq_true]
  refine ⟨q[j], ?_, by rw [hc, hk]; simp⟩
  rw [List.mem_take_iff_getElem]
  exact ⟨j, by omega, rfl⟩
theorem consK_no {q : List PN} {t i : Nat} (h : ∀ j (hj : j < q.length), isConsB q[j] = true → q[j].kids.head? ≠ some (i : Int)) : consK q t i = false := by
  unfold consK
  rw [List.any_eq_false]
  intro x hx
  rw [List.mem_take_iff_getElem] at hx
  obtain ⟨j, hj, rfl⟩ := hx
  have hj2 : j < q.length := by omega
  cases hc : isConsB q[j]
  · simp
  · have := h j hj2 hc
    simp [this]
theorem consK_succ {q : List PN} {t : Nat} (ht : t < q.length) (i : Nat) : consK q (t + 1) i = (consK q t i || (isConsB q[t] && decide (q[t].kids.head? = some (i : Int)))) := by
  unfold consK
  rw [List.take_succ_eq_append_getElem ht, List.any_append]; simp
theorem patL_len (nt : Int → List UInt8) (q : List PN) (t : Nat) : (patL nt q t).length = q.length := by simp [patL]
theorem patL_get (nt : Int → List UInt8) (q : List PN) (t i : Nat) (hi : i < q.length) : (patL nt q t)[i]? = some (if consK q t i = true then [[40], [32, 58, 58, 32], [41]] else if isConsB q[i] = true ∧ i < t then [[], []] else pTexts nt q[i]) := by
  rw [patL, List.getElem?_map, List.getElem?_range hi]
  show some _ = some _
  simp only [List.getElem?_eq_getElem hi]
/-- What a right pattern's nodes are like. -/
structure PatV (q : List PN) : Prop where
  pre : preB (q.map PN.kids) = true
  nd : ∀ i (h : i < q.length), isPNB q[i] = true
  cons : ∀ i (h : i < q.length), isConsB q[i] = true → firstPK q q[i].kids = 5
theorem patV_of {q : List PN} (h : patOkB q = true) : PatV q := by
  rw [pat_ok] at h
  simp only [Bool.and_eq_true] at h
  refine ⟨h.1, fun i hi => ?_, fun i hi hc => ?_⟩
  · have := List.all_eq_true.1 h.2.1 _ (List.getElem_mem hi)
    simp only [rightPB, Bool.and_eq_true] at this
    exact this.1
  · have := List.all_eq_true.1 h.2.1 _ (List.getElem_mem hi)
    simp only [rightPB, Bool.and_eq_true, hc, Bool.not_true, Bool.false_or, decide_eq_true_eq] at this
    exact this.2
theorem PatV.kid {q : List PN} (h : PatV q) {i : Nat} (hi : i < q.length) {k : Int} (hk : k ∈ q[i].kids) : (i : Int) < k ∧ k < (q.length : Int) := by
  have := preB_kids _ h.pre i (by simpa using hi) k (by simpa using hk)
  simpa using this
theorem PatV.par {q : List PN} (h : PatV q) {i j : Nat} (hi : i < q.length) (hj : j < q.length) {k : Int} (hki : k ∈ q[i].kids) (hkj : k ∈ q[j].kids) : i = j :=
  one_parent h.pre (i := i) (j := j) (by simpa using hi) (by simpa using hj) (k := k) (by simpa using hki) (by simpa using hkj)
theorem kids5 {n : PN} (hn : isPNB n = true) (h1 : n.kind = 5) : n.kids.length = 2 := by
  unfold isPNB pnodeB at hn
  rw [h1] at hn; simp at hn; omega
theorem kids36 {n : PN} (hn : isPNB n = true) (h1 : n.kind = 1 ∨ n.kind = 2 ∨ n.kind = 3 ∨ n.kind = 6) : n.kids.length = 0 := by
  unfold isPNB pnodeB at hn
  rcases h1 with h1 | h1 | h1 | h1
  all_goals
    rw [h1] at hn
    simp at hn
    first | (simp [hn.2.2]; done) | (simp [hn.2.2.2]; done)
theorem kids4 {n : PN} (hn : isPNB n = true) (h1 : n.kind = 4) : n.kids.length ≤ 1 := by
  unfold isPNB pnodeB at hn
  rw [h1] at hn
  simp at hn
  have := hn.2
  unfold conOkB at this
  split at this
  · simp at this; omega
  · split at this
    · simp at this; simp [this]
    · simp at this; omega
theorem pk_range {n : PN} (hn : isPNB n = true) : n.kind = 1 ∨ n.kind = 2 ∨ n.kind = 3 ∨ n.kind = 4 ∨ n.kind = 5 ∨ n.kind = 6 := by
  unfold isPNB pnodeB at hn
  repeat' (split at hn)
  all_goals first | omega | (cases hn)
theorem PatV.texts {q : List PN} (h : PatV q) (nt : Int → List UInt8) (t i : Nat) (hi : i < q.length) : ∃ T, (patL nt q t)[i]? = some T ∧ T.length = q[i].kids.length + 1 := by
  rw [patL_get nt q t i hi]
  refine ⟨_, rfl, ?_⟩
  have hv := h.nd i hi
  by_cases hc : consK q t i = true
  · rw [if_pos hc]
    unfold consK at hc
    rw [List.any_eq_true] at hc
    obtain ⟨x, hx, hc⟩ := hc
    rw [List.mem_take_iff_getElem] at hx
    obtain ⟨j, hj, rfl⟩ := hx
    simp only [Bool.and_eq_true, decide_eq_true_eq] at hc
    have hf := h.cons j (by omega) hc.1
    cases hk : q[j].kids with
    | nil => rw [hk] at hc; simp at hc
    | cons k ks =>
      rw [hk] at hc hf
      simp at hc
      obtain ⟨_, rfl⟩ := hc
      simp only [firstPK, Int.toNat_natCast, List.getElem?_eq_getElem hi] at hf
      have := kids5 hv hf
      simp [this]
  · rw [if_neg hc]
    by_cases hb : isConsB q[i] = true ∧ i < t
    · rw [if_pos hb]
      have := isPN_cons _ hv hb.1
      simp [this]
    · rw [if_neg hb]
      unfold pTexts
      rcases pk_range hv with hk | hk | hk | hk | hk | hk
      · have := kids36 hv (by omega); simp [hk, this]
      · have := kids36 hv (by omega); simp [hk, this]
      · have := kids36 hv (by omega); simp [hk, this]
      · have := kids4 hv hk
        by_cases h0 : q[i].kids.length = 0
        · simp [hk, h0]
        · have h1 : q[i].kids.length = 1 := by omega
          simp [hk, h1]
      · have := kids5 hv hk; simp [hk, this]
      · have := kids36 hv (by omega); simp [hk, this]
/-- Both ways give one text. -/
theorem PatV.text {q : List PN} (h : PatV q) (nt : Int → List UInt8) : ∀ (f a : Nat), a < q.length → q.length < a + f → (∀ j (hj : j < q.length), isConsB q[j] = true → q[j].kids.head? ≠ some (a : Int)) → wT (patL nt q q.length) (q.map PN.kids) f a = patT nt q f a := by
  intro f
  induction f using Nat.strongRecOn with
  | _ f ih =>
    intro a ha hf hno
    obtain ⟨f', rfl⟩ : ∃ f', f = f' + 1 := ⟨f - 1, by omega⟩
    have hv := h.nd a ha
    have hck := consK_no (t := q.length) hno
    have hkid := fun k (hk : k ∈ q[a].kids) => h.kid ha hk
    have hT : (patL nt q q.length)[a]? = some (if isConsB q[a] = true ∧ a < q.length then [[], []] else pTexts nt q[a]) := by
      rw [patL_get nt q q.length a ha, hck]; simp
    -- a kid of a node that is no '::'
    have hsub : ∀ (k : Int), k ∈ q[a].kids → ¬ isConsB q[a] = true → wT (patL nt q q.length) (q.map PN.kids) f' k.toNat = patT nt q f' k.toNat := by
      intro k hk hnc
      obtain ⟨k1, k2⟩ := hkid k hk
      refine ih f' (by omega) k.toNat (by omega) (by omega) fun j hj hc hh => ?_
      have hkj : k ∈ q[j].kids := by
        cases hq : q[j].kids with
        | nil => rw [hq] at hh; simp at hh
        | cons y ys =>
          rw [hq] at hh
          simp at hh
          have : y = k := by omega
          simp [this]
      have := h.par ha hj hk hkj
      subst this
      exact hnc hc
    rw [wT, patT, patU, hT, List.getElem?_map, List.getElem?_eq_getElem ha]
    simp only [Option.getD_some, Option.map_some]
    by_cases hc : isConsB q[a] = true
    · rw [if_pos ⟨hc, ha⟩]
      have hl := isPN_cons _ hv hc
      have hf5 := h.cons a ha hc
      obtain ⟨k, hk⟩ := List.length_eq_one_iff.1 hl
      have hkm : k ∈ q[a].kids := by rw [hk]; simp
      obtain ⟨k1, k2⟩ := hkid k hkm
      obtain ⟨kn, rfl⟩ : ∃ kn : Nat, k = kn := ⟨k.toNat, by omega⟩
      have hkn : kn < q.length := by omega
      simp only [isConsB, Bool.and_eq_true, decide_eq_true_eq] at hc
      have hc4 := hc.1
      have hcs := hc.2
      rw [hk] at hf5
      simp only [firstPK, Int.toNat_natCast, List.getElem?_eq_getElem hkn] at hf5
      have hl2 := kids5 (h.nd kn hkn) hf5
      obtain ⟨x, y, hxy⟩ : ∃ x y, q[kn].kids = [x, y] := by
        match hq : q[kn].kids with
        | [] => rw [hq] at hl2; simp at hl2
        | [_] => rw [hq] at hl2; simp at hl2
        | [x, y] => exact ⟨x, y, rfl⟩
        | _ :: _ :: _ :: _ => rw [hq] at hl2; simp at hl2
      obtain ⟨f'', rfl⟩ : ∃ f'', f' = f'' + 1 := ⟨f' - 1, by omega⟩
      have hck2 : consK q q.length kn = true := consK_yes ha ha (by simp [isConsB, hc4, hcs]) (by rw [hk]; rfl)
      have hsub2 : ∀ (z : Int), z ∈ q[kn].kids → wT (patL nt q q.length) (q.map PN.kids) f'' z.toNat = patT nt q f'' z.toNat := by
        intro z hz
        obtain ⟨z1, z2⟩ := h.kid hkn hz
        refine ih f'' (by omega) z.toNat (by omega) (by omega) fun j hj hcj hh => ?_
        have hzj : z ∈ q[j].kids := by
          cases hq : q[j].kids with
          | nil => rw [hq] at hh; simp at hh
          | cons u us =>
            rw [hq] at hh
            simp at hh
            have : u = z := by omega
            simp [this]
        have := h.par hkn hj hz hzj
        subst this
        simp only [isConsB, Bool.and_eq_true, decide_eq_true_eq] at hcj
        omega
      have e1 := hsub2 x (by rw [hxy]; simp)
      have e2 := hsub2 y (by rw [hxy]; simp)
      have hT2 : (patL nt q q.length)[kn]? = some [[40], [32, 58, 58, 32], [41]] := by
        rw [patL_get nt q q.length kn hkn, hck2]; simp
      have hpair : wT (patL nt q q.length) (q.map PN.kids) (f'' + 1) kn = [40] ++ (patT nt q f'' x.toNat ++ ([32, 58, 58, 32] ++ (patT nt q f'' y.toNat ++ [41]))) := by
        rw [wT, hT2, List.getElem?_map, List.getElem?_eq_getElem hkn]
        simp only [Option.getD_some, Option.map_some, hxy, wF, e1, e2]
        simp
      rw [hk]
      simp only [wF, Int.toNat_natCast, hpair]
      simp [hc4, hcs, patU, List.getElem?_eq_getElem hkn, hxy, hf5]
    · rw [if_neg (fun hh => hc hh.1)]
      unfold pTexts
      rcases pk_range hv with hk | hk | hk | hk | hk | hk
      · have h0 := kids36 hv (by omega)
        rw [List.eq_nil_of_length_eq_zero h0]; simp [hk, wF]
      · have h0 := kids36 hv (by omega)
        rw [List.eq_nil_of_length_eq_zero h0]; simp [hk, wF]
      · have h0 := kids36 hv (by omega)
        rw [List.eq_nil_of_length_eq_zero h0]; simp [hk, wF]
      · have h1 := kids4 hv hk
        by_cases h0 : q[a].kids.length = 0
        · rw [List.eq_nil_of_length_eq_zero h0]; simp [hk, wF]
        · have hl : q[a].kids.length = 1 := by omega
          obtain ⟨k, hkk⟩ := List.length_eq_one_iff.1 hl
          have := hsub k (by rw [hkk]; simp) hc
          have hns : ¬ q[a].s.toList = [58, 58] := fun hs => hc (by simp [isConsB, hk, hs])
          rw [hkk]
          simp [hk, wF, this, hns]
      · have hl := kids5 hv hk
        obtain ⟨x, y, hxy⟩ : ∃ x y, q[a].kids = [x, y] := by
          match hq : q[a].kids with
          | [] => rw [hq] at hl; simp at hl
          | [_] => rw [hq] at hl; simp at hl
          | [x, y] => exact ⟨x, y, rfl⟩
          | _ :: _ :: _ :: _ => rw [hq] at hl; simp at hl
        have e1 := hsub x (by rw [hxy]; simp) hc
        have e2 := hsub y (by rw [hxy]; simp) hc
        rw [hxy]
        simp [hk, wF, e1, e2]
      · have h0 := kids36 hv (by omega)
        rw [List.eq_nil_of_length_eq_zero h0]; simp [hk, wF]
/-- It isn't too long. -/
theorem pat_size {q : List PN} (nt : Int → List UInt8) (hnt : ∀ v, -4611686018427387904 ≤ v → v ≤ 4611686018427387903 → (nt v).length ≤ 24) (hv : PatV q) : ∀ (f a : Nat) (c : Bool), a < q.length → (patU nt q f c a).length ≤ 24 * (endN (q.map PN.kids) a - a) := by
  intro f
  induction f with
  | zero => intro a c ha; simp [patU]
  | succ f ih =>
    intro a c ha
    have hn := hv.nd a ha
    obtain ⟨e, hs, h1, h2⟩ := span_at hv.pre a (by simpa using ha)
    have he := endN_of (by simpa using ha) hs
    rw [List.getElem_map] at hs
    have hns : q[a].s.toList.length ≤ 12 := by
      rcases pk_range hn with hk | hk | hk | hk | hk | hk
      all_goals unfold isPNB pnodeB at hn; rw [hk] at hn; simp at hn
      · simp [hn.2.1]
      · have := hn.2.1
        unfold nameB wordB lenB at this
        simp only [Bool.and_eq_true, decide_eq_true_eq] at this
        rw [pr_toList]; exact this.1.1.2
      · simp [hn.2.2.1]
      · have := hn.2
        unfold conOkB at this
        split at this
        · rename_i hh; rw [hh]; simp
        · split at this
          · rename_i hh; rcases hh with hh | hh | hh <;> rw [hh] <;> simp
          · simp only [Bool.and_eq_true] at this
            have := this.1
            unfold conB wordB lenB at this
            simp only [Bool.and_eq_true, decide_eq_true_eq] at this
            rw [pr_toList]; exact this.1.1.2
      · simp [hn.2.1]
      · simp [hn.2.1]
    rw [he, patU, List.getElem?_eq_getElem ha]
    simp only
    rcases pk_range hn with hk | hk | hk | hk | hk | hk
    · simp [hk]; omega
    · simp only [hk]; simp; omega
    · have hr : -4611686018427387904 ≤ q[a].n ∧ q[a].n ≤ 4611686018427387903 := by
        unfold isPNB pnodeB at hn; rw [hk] at hn; simp at hn; omega
      have := hnt q[a].n hr.1 hr.2
      simp [hk]; omega
    · have hl := kids4 hn hk
      by_cases h0 : q[a].kids.length = 0
      · simp [hk, h0]; omega
      · obtain ⟨k, hkk⟩ := List.length_eq_one_iff.1 (show q[a].kids.length = 1 by omega)
        have hend : ∀ (l : List (List Int)) (k : Int) (a e : Nat), Span l [k] a e → ∃ hl : a < l.length, k = (a : Int) ∧ Span l l[a] (a + 1) e := by
          intro l k a e h
          cases h with
          | cons _ m _ _ hl h1 h2 => cases h2; exact ⟨hl, rfl, h1⟩
        rw [hkk] at hs
        obtain ⟨hkl, rfl, g2⟩ := hend _ _ _ _ hs
        have hkl' : a + 1 < q.length := by simpa using hkl
        have hen := endN_of hkl g2
        have i1 := ih (a + 1) true hkl'
        have i2 := ih (a + 1) false hkl'
        rw [hen] at i1 i2
        have ht : ((([((a + 1 : Nat) : Int)] : List Int)[0]?).getD 0).toNat = a + 1 := by simp
        have hg2 := g2.le
        simp only [hk, hkk, ht]
        by_cases hs : q[a].s.toList = [58, 58]
        · simp [hs]; omega
        · simp [hs]; omega
    · have hl := kids5 hn hk
      have hend : ∀ (l : List (List Int)) (k j : Int) (a e : Nat), Span l [k, j] a e → ∃ (hl : a < l.length) (m : Nat) (hm : m < l.length), k = (a : Int) ∧ j = (m : Int) ∧ Span l l[a] (a + 1) m ∧ Span l l[m] (m + 1) e := by
        intro l k j a e h
        cases h with
        | cons _ m _ _ hl h1 h2 =>
          cases h2 with
          | cons _ m2 _ _ hl2 h3 h4 => cases h4; exact ⟨hl, m, hl2, rfl, rfl, h1, h3⟩
      obtain ⟨x, y, hxy⟩ : ∃ x y, q[a].kids = [x, y] := by
        match hq : q[a].kids with
        | [] => rw [hq] at hl; simp at hl
        | [_] => rw [hq] at hl; simp at hl
        | [x, y] => exact ⟨x, y, rfl⟩
        | _ :: _ :: _ :: _ => rw [hq] at hl; simp at hl
      rw [hxy] at hs
      obtain ⟨hkl, m, hml, rfl, rfl, g1, g2⟩ := hend _ _ _ _ _ hs
      have i1 := ih (a + 1) false (by simpa using hkl)
      have i2 := ih m false (by simpa using hml)
      rw [endN_of hkl g1] at i1
      rw [endN_of hml g2] at i2
      have t1 : ((([((a + 1 : Nat) : Int), (m : Int)] : List Int)[0]?).getD 0).toNat = a + 1 := by simp
      have t2 : ((([((a + 1 : Nat) : Int), (m : Int)] : List Int)[1]?).getD 0).toNat = m := by simp
      have l1 := g1.le
      have l2 := g2.le
      simp only [hk, hxy, t1, t2]
      cases c <;> simp <;> omega
    · simp [hk]; omega
end Go.Proofs.YtaibgnfjjbncpaaGreat
namespace Go.Proofs.YtaibgnfjjbncpaaGreat
set_option linter.unusedVariables false
set_option maxRecDepth 100000
open Go.ChangeShapes Go.WideShapes Go.ChangeAt Go.RowKit

theorem sConOk4 (s : ByteArray) (n : Int) (p : Bool) (w : World) (hs : s.size ≤ maxLen) (hn : 0 ≤ n) :
    Calls Tryz.prog 55 #[.string s, .int .i64 n, .bool p] w fun e w' => e = .returned (.bool (conOkB s n p)) ∧ w = w' := by
  by_cases h1 : s.toList = [58, 58]
  · have HB := Lib.hid (show conOkB s n p = (decide (n = 1) && p) from by rw [conOkB, if_pos h1])
    cases p
    all_goals
      go_enter Tryz.func55, Tryz.ntmps55
      go_wp2
      all_goals
        go_ret
        refine ⟨ret_bool ?_, rfl⟩
        rw [HB.out]
        first | (simp; done) | (rw [Bool.eq_iff_iff]; simp; done) | (simp; omega)
  · have b1 : (s.toList == [58, 58]) = false := by simpa using h1
    by_cases h2 : s.toList = [116, 114, 117, 101] ∨ (s.toList = [102, 97, 108, 115, 101] ∨ s.toList = [91, 93])
    · have HB := Lib.hid (show conOkB s n p = decide (n = 0) from by rw [conOkB, if_neg h1, if_pos h2])
      clear h1
      rcases h2 with h | h | h
      all_goals
        clear b1
        go_enter Tryz.func55, Tryz.ntmps55
        go_wp2
        go_ret
        refine ⟨ret_bool ?_, rfl⟩
        rw [HB.out, Bool.eq_iff_iff]; simp
    · obtain ⟨g1, g2⟩ := not_or.1 h2
      obtain ⟨g3, g4⟩ := not_or.1 g2
      have b2 : (s.toList == [116, 114, 117, 101]) = false := by simpa using g1
      have b3 : (s.toList == [102, 97, 108, 115, 101]) = false := by simpa using g3
      have b4 : (s.toList == [91, 93]) = false := by simpa using g4
      have HB := Lib.hid (show conOkB s n p = (conB s && decide (n ≤ 1)) from by rw [conOkB, if_neg h1, if_neg h2])
      clear h1 h2 g1 g2 g3 g4
      go_enter Tryz.func55, Tryz.ntmps55
      go_wp2_with fail
      refine (sConOk _ _ hs).mono ?_
      rintro e w1 ⟨rfl, rfl⟩
      generalize conB s = c at *
      cases c
      all_goals
        go_wp2
        all_goals
          go_ret
          refine ⟨ret_bool ?_, rfl⟩
          rw [HB.out]
          first | (simp; done) | (rw [Bool.eq_iff_iff]; simp; done) | (simp; omega)
set_option maxHeartbeats 4000000 in
theorem sPNode (q : List PN) (v : Value) (k n : Int) (s : ByteArray) (kids : List Int) (u : Value) (w : World) (hq : RowRd 4 PNEl w v q) (hk : RowRd 1 IntEl w u kids) (hs : s.size ≤ maxLen) :
    Calls Tryz.prog 93 #[.agg #[v], .agg #[.int .i64 k, .int .i64 n, .string s, u]] w fun e w' => e = .returned (.bool (pnodeB (pairB q kids) k n s kids.length)) ∧ Below w.heap.size w w' := by
  obtain ⟨a, cap, rfl, hm, hqf⟩ := hq.form
  obtain ⟨b, cap', rfl, hm', hkf⟩ := hk.form
  clear hq hk
  have hq := hqf
  have hk := hkf
  clear hqf hkf
  unfold maxLen at hm hm'
  have hT : (∃ y : Int, kids = [y]) ∨ kids.length ≠ 1 := by
    match kids with
    | [] => right; simp
    | [y] => left; exact ⟨y, rfl⟩
    | _ :: _ :: _ => right; simp
  go_enter Tryz.func93, Tryz.ntmps93
  go_upto_region 1 with fail
  go_cut [5] (fun s5 wx => s5 = .bool (pairB q kids) ∧ wx.cell? ⟨w.heap.size + 1, 0, none⟩ = some (.int .i64 k) ∧ wx.cell? ⟨w.heap.size + 1, 1, none⟩ = some (.int .i64 n) ∧ wx.cell? ⟨w.heap.size + 1, 2, none⟩ = some (.string s) ∧ wx.cell? ⟨w.heap.size + 1, 3, none⟩ = some (.slice b kids.length cap') ∧ Below w.heap.size w wx ∧ w.heap.size + 1 < wx.heap.size)
  case first =>
    rcases hT with ⟨y, rfl⟩ | hT
    · obtain ⟨bk, ok, rfl, hbk, hck⟩ := hk (by simp)
      obtain ⟨e0, i0, i1⟩ := hck 0 (by simp)
      simp only [List.getElem_cons_zero, Nat.zero_mul, Nat.add_zero] at e0 i0 i1
      clear hck hk
      by_cases h0 : y < 0
      · have HP := Lib.hid (show pairB q [y] = false from by rw [pairB]; simp; omega)
        have d0 : decide (0 ≤ y) = false := by simp; omega
        go_quiet (fail)
        all_goals (go_wp2_with fail; go_meet; exact ⟨by rw [HP.out], by simp, by simp, by simp, by simp, below_drewN (Joins.below_alloc2 w _ _) _, by simp⟩)
      · obtain ⟨m, rfl⟩ : ∃ m : Nat, y = m := ⟨y.toNat, by omega⟩
        have d0 : decide (0 ≤ (m : Int)) = true := by simp
        by_cases h1 : m < q.length
        · obtain ⟨bq, oq, rfl, hbq, hcq⟩ := hq (by omega)
          have ex := hcq m h1
          have HP := Lib.hid (show pairB q [(m : Int)] = (q[m].kind == 5) from by rw [pairB]; simp [h1]; rw [Bool.eq_iff_iff]; simp)
          clear hcq hq
          generalize q[m] = x at *
          obtain ⟨⟨f0, j0⟩, _⟩ := ex
          have d1 : decide (m < q.length) = true := by simpa using h1
          cases hx : (x.kind == 5)
          all_goals
            go_quiet (fail)
            all_goals (go_wp2_with fail; go_meet; exact ⟨by rw [HP.out, hx], by simp, by simp, by simp, by simp, below_drewN (Joins.below_alloc2 w _ _) _, by simp⟩)
        · have HP := Lib.hid (show pairB q [(m : Int)] = false from by rw [pairB]; simp [List.getElem?_eq_none (Nat.le_of_not_lt h1)])
          have d1 : decide (m < q.length) = false := by simpa using h1
          go_quiet (fail)
          all_goals (go_wp2_with fail; go_meet; exact ⟨by rw [HP.out], by simp, by simp, by simp, by simp, below_drewN (Joins.below_alloc2 w _ _) _, by simp⟩)
    · have HP := Lib.hid (show pairB q kids = false from by
        match kids, hT with
        | [], _ => rfl
        | [y], h => simp at h
        | _ :: _ :: _, _ => rfl)
      have d0 : ((kids.length : Int) == 1) = false := by simp; omega
      have HT := Lib.hid hT
      clear hT
      go_quiet (fail)
      all_goals (go_wp2_with fail; go_meet; exact ⟨by rw [HP.out], by simp, by simp, by simp, by simp, below_drewN (Joins.below_alloc2 w _ _) _, by simp⟩)
  case rest =>
    obtain ⟨rfl, c0, c1, c2, c3, hbel, hsz⟩ := hcut
    clear hT hk hq
    have hkc : k = 1 ∨ k = 6 ∨ k = 5 ∨ k = 2 ∨ k = 3 ∨ k = 4 ∨ (¬ k = 1 ∧ ¬ k = 6 ∧ ¬ k = 5 ∧ ¬ k = 2 ∧ ¬ k = 3 ∧ ¬ k = 4) := by omega
    rcases hkc with rfl | rfl | rfl | rfl | rfl | rfl | ⟨g1, g2, g3, g4, g5, g6⟩
    iterate 3
      · by_cases hn : n = 0
        · subst hn
          by_cases he : s.toList = []
          · have he1 : s.toList.isEmpty = true := by simp [he]
            go_wp2
            all_goals
              go_ret
              refine ⟨ret_bool ?_, hbel⟩
              first | (simp [pnodeB, he]; done) | (rw [Bool.eq_iff_iff]; simp [pnodeB, he]; done) | (simp [pnodeB, he]; omega)
          · have he1 : s.toList.isEmpty = false := by simpa using he
            go_wp2
            all_goals
              go_ret
              refine ⟨ret_bool ?_, hbel⟩
              simp [pnodeB, he]
        · have hn1 : (n == 0) = false := by simpa using hn
          have HN := Lib.hid hn
          clear hn
          go_wp2
          all_goals
            go_ret
            refine ⟨ret_bool ?_, hbel⟩
            simp [pnodeB, HN.out]
    · by_cases hn : n = 0
      · subst hn
        go_wp2_with fail
        refine (sNameOk _ _ hs).mono ?_
        rintro e w1 ⟨rfl, hb1⟩
        have d3 := (hb1.cell (p := ⟨w.heap.size + 1, 3, none⟩) hsz).trans c3
        cases hx : nameB s
        all_goals
          go_wp2
          all_goals
            go_ret
            refine ⟨ret_bool ?_, below_tr hbel hb1⟩
            first | (simp [pnodeB, hx]; done) | (rw [Bool.eq_iff_iff]; simp [pnodeB, hx]; done) | (rw [Bool.eq_iff_iff]; simp [pnodeB, hx]; omega)
      · have hn1 : (n == 0) = false := by simpa using hn
        have HN := Lib.hid hn
        clear hn
        go_wp2
        all_goals
          go_ret
          refine ⟨ret_bool ?_, hbel⟩
          simp [pnodeB, HN.out]
    · by_cases he : s.toList = []
      · have he1 : s.toList.isEmpty = true := by simp [he]
        by_cases hlo : n < -4611686018427387903
        · go_wp2
          all_goals
            go_ret
            refine ⟨ret_bool ?_, hbel⟩
            first | (simp [pnodeB, he]; done) | (simp [pnodeB, he]; omega)
        · by_cases hhi : 4611686018427387903 < n
          · go_wp2
            all_goals
              go_ret
              refine ⟨ret_bool ?_, hbel⟩
              first | (simp [pnodeB, he]; done) | (simp [pnodeB, he]; omega)
          · go_wp2
            all_goals
              go_ret
              refine ⟨ret_bool ?_, hbel⟩
              first | (rw [Bool.eq_iff_iff]; simp [pnodeB, he]; omega) | (rw [Bool.eq_iff_iff]; simp [pnodeB, he, hlo, hhi]; done) | (rw [Bool.eq_iff_iff]; simp [pnodeB, he]; intros; omega)
      · have he1 : s.toList.isEmpty = false := by simpa using he
        go_wp2
        all_goals
          go_ret
          refine ⟨ret_bool ?_, hbel⟩
          simp [pnodeB, he]
    · by_cases hn : n = 0
      · subst hn
        go_wp2_with fail
        refine (sConOk4 _ _ _ _ hs (by omega)).mono ?_
        rintro e w1 ⟨rfl, rfl⟩
        go_wp2
        all_goals
          go_ret
          refine ⟨ret_bool ?_, hbel⟩
          simp [pnodeB]
      · have hn1 : (n == 0) = false := by simpa using hn
        have HN := Lib.hid hn
        clear hn
        go_wp2
        all_goals
          go_ret
          refine ⟨ret_bool ?_, hbel⟩
          simp [pnodeB, HN.out]
    · have b1 : (k == 1) = false := by simpa using g1
      have b2 : (k == 2) = false := by simpa using g4
      have b3 : (k == 3) = false := by simpa using g5
      have b4 : (k == 4) = false := by simpa using g6
      have b5 : (k == 5) = false := by simpa using g3
      have b6 : (k == 6) = false := by simpa using g2
      have HF := Lib.hid (show pnodeB (pairB q kids) k n s (kids.length : Int) = false from by simp [pnodeB, g1, g2, g3, g4, g5, g6])
      clear g1 g2 g3 g4 g5 g6
      go_wp2
      all_goals
        go_ret
        exact ⟨ret_bool HF.out.symm, hbel⟩
theorem sPEnd : ∀ (f : Nat) (q : List PN) (v : Value) (a : Int) (w : World) (hR : RowRd 4 PNEl w v q) (ha : 0 ≤ a) (ha2 : a ≤ 9223372036854775807) (hf : (q.length : Int) < a + f),
    Calls Tryz.prog 94 #[.agg #[v], .int .i64 a] w fun e w' => e = .returned (.int .i64 (pendF f (q.map PN.kids) a)) ∧ Below w.heap.size w w' := by
  intro f
  induction f with
  | zero =>
    intro l v a w hR ha ha2 hf
    obtain ⟨p, cap, rfl, hm, _⟩ := hR.form
    have HB := Lib.hid (pendF_out 0 (l.map PN.kids) a (by rw [List.length_map]; omega))
    unfold maxLen at hm
    have h1 : (l.length : Int) ≤ a := by omega
    go_enter Tryz.func94, Tryz.ntmps94
    go_wp2
    go_ret
    exact ⟨ret_int' HB.out.symm, Joins.below_alloc1 w _⟩
  | succ f ih =>
    intro l v a w hR ha ha2 hf
    have hR0 := hR
    obtain ⟨p, cap, rfl, hm, hRf⟩ := hR.form
    clear hR
    unfold maxLen at hm
    by_cases h1 : (l.length : Int) ≤ a
    · have HB := Lib.hid (pendF_out (f + 1) (l.map PN.kids) a (by rw [List.length_map]; omega))
      go_enter Tryz.func94, Tryz.ntmps94
      go_wp2
      go_ret
      exact ⟨ret_int' HB.out.symm, Joins.below_alloc1 w _⟩
    obtain ⟨n, rfl⟩ : ∃ n : Nat, a = n := ⟨a.toNat, by omega⟩
    have hn : n < l.length := by omega
    have hB := pendF_in f (l.map PN.kids) n (by rw [List.length_map]; exact hn)
    rw [List.getElem_map] at hB
    have hfl : (l.length : Int) < (n : Int) + 1 + f := by omega
    clear h1 hf ha
    obtain ⟨b, o, rfl, hbw, hc⟩ := hRf (by omega)
    have ex := hc n hn
    clear hc hRf
    generalize l[n] = x at *
    have HB := Lib.hid hB
    clear hB
    obtain ⟨⟨e0, i0⟩, ⟨e1, i1⟩, ⟨e2, i2⟩, ⟨u, e3, r3⟩⟩ := ex
    have r3' := r3
    obtain ⟨bk, ck, rfl, hmk, hk⟩ := r3.form
    clear r3
    unfold maxLen at hmk
    have hnc : decide (l.length ≤ n) = false := by simp; omega
    go_enter Tryz.func94, Tryz.ntmps94
    go_wp2
    go_loopw [5, 22] (fun nx i wr => ∃ (k : Nat) (N : Int), i = .int .i64 k ∧ nx = .int .i64 N ∧ k ≤ x.kids.length ∧ pendF (f + 1) (l.map PN.kids) (n : Int) = kidsE (pendF f (l.map PN.kids)) (x.kids.drop k) N ∧ (n : Int) + 1 ≤ N ∧ N ≤ l.length ∧ Below (w.alloc (.cells #[.slice (some ⟨b, o, none⟩) l.length cap] 87)).heap.size (w.alloc (.cells #[.slice (some ⟨b, o, none⟩) l.length cap] 87)) wr) (fun _ i _ => x.kids.length - (intOf i).toNat)
    case atStart => exact ⟨0, (n : Int) + 1, rfl, rfl, Nat.zero_le _, by rw [HB.out]; rfl, Int.le_refl _, by omega, Below.refl _ _⟩
    case round =>
      obtain ⟨k, N, rfl, rfl, hkl, hE, hN1, hN2, hbel⟩ := hrel
      have HE := Lib.hid hE
      clear hE
      obtain ⟨hcl, hfr⟩ := bcell hbel
      have hsz := hbel.size
      simp at hsz
      have c0 : wr.cell? ⟨w.heap.size, 0, none⟩ = some (.slice (some ⟨b, o, none⟩) l.length cap) := by rw [hcl _ _ (by simp)]; simp
      have hK : Kept w wr := (Kept.alloc _ _).trans (Kept.of_below hbel)
      clear hcl hfr e0 e1 e2 e3
      by_cases hlt : k < x.kids.length
      · obtain ⟨b2, o2, rfl, hb2, hc2⟩ := hk (by omega)
        obtain ⟨g0, j0, j1⟩ := IntEl.st w wr b2 _ _ hK hb2 (hc2 k hlt)
        rw [Nat.mul_one] at g0
        have HNo := Lib.hid (kidsE_no (pendF f (l.map PN.kids)) x.kids k hlt)
        have HNeg := Lib.hid (kidsE_neg (pendF f (l.map PN.kids)) x.kids k hlt)
        have HSt := Lib.hid (kidsE_step (pendF f (l.map PN.kids)) x.kids k hlt)
        clear hc2 hk
        generalize x.kids[k] = y at *
        by_cases hy : y = N
        · subst hy
          have hyy : (y != y) = false := by simp
          go_wp2_with fail
          refine (ih l _ y _ (hR0.kept PNEl.st hK) (by omega) (by omega) (by omega)).mono ?_
          rintro e w1 ⟨rfl, hb1⟩
          have hgt := pendF_gt f (l.map PN.kids) y
          have hle := pendF_le f (l.map PN.kids) y
          rw [List.length_map] at hle
          obtain ⟨G, hG⟩ : ∃ G, G = pendF f (l.map PN.kids) y := ⟨_, rfl⟩
          rw [← hG] at hgt hle ⊢
          have HG := Lib.hid hG
          clear hG
          by_cases hneg : G < 0
          · go_wp2
            go_ret
            refine ⟨ret_int' ?_, (Joins.below_alloc1 w _).trans ((hbel.trans (hb1.mono (by simp; omega))).mono (by simp))⟩
            rw [HE.out, HNeg.out y rfl (by rw [← HG.out]; exact hneg)]
          · have hG0 : 0 ≤ G := by omega
            go_wp2
            go_roundw
            case rel => exact ⟨k + 1, G, by go_num, rfl, by omega, by rw [HE.out, HSt.out y rfl (by rw [← HG.out]; omega), HG.out], by omega, by omega, hbel.trans (hb1.mono (by simp; omega))⟩
            case measure => simp [intOf]; omega
        · have hyy : (y != N) = true := by simpa using hy
          have HY := Lib.hid hy
          clear hy
          go_wp2
          go_ret
          refine ⟨ret_int' ?_, (Joins.below_alloc1 w _).trans (hbel.mono (by simp))⟩
          rw [HE.out, HNo.out N HY.out]
      · obtain rfl : k = x.kids.length := by omega
        go_wp2
        go_ret
        refine ⟨ret_int' ?_, (Joins.below_alloc1 w _).trans (hbel.mono (by simp))⟩
        rw [HE.out, List.drop_length]; rfl
end Go.Proofs.YtaibgnfjjbncpaaGreat
namespace Go.Proofs.YtaibgnfjjbncpaaGreat
set_option linter.unusedVariables false
set_option maxRecDepth 100000
open Go.ChangeShapes Go.WideShapes Go.ChangeAt Go.RowKit

set_option maxHeartbeats 4000000 in
theorem sPatOk (q : List PN) (v : Value) (w : World) (hR : RowRd 4 PNEl w v q) :
    Calls Tryz.prog 56 #[.agg #[v]] w fun e w' => e = .returned (.bool (patOkB q)) ∧ Below w.heap.size w w' := by
  have hR0 := hR
  obtain ⟨p, cap, rfl, hm, hRf⟩ := hR.form
  clear hR
  unfold maxLen at hm
  by_cases h1 : q.length < 1
  · have HB := Lib.hid (show patOkB q = false from propB_f fun h => by have := h.1; omega)
    have h1' : (q.length : Int) < 1 := by omega
    go_enter Tryz.func56, Tryz.ntmps56
    go_wp2
    go_ret
    exact ⟨ret_bool HB.out.symm, Joins.below_alloc1 w _⟩
  by_cases h2 : 600 < q.length
  · have HB := Lib.hid (show patOkB q = false from propB_f fun h => by have := h.2.1; omega)
    have h1' : ¬ (q.length : Int) < 1 := by omega
    have h2' : 600 < (q.length : Int) := by omega
    go_enter Tryz.func56, Tryz.ntmps56
    go_wp2
    go_ret
    exact ⟨ret_bool HB.out.symm, Joins.below_alloc1 w _⟩
  have h1' : decide ((q.length : Int) < 1) = false := by simp; omega
  have h2' : decide (600 < (q.length : Int)) = false := by simp; omega
  have h3' : ¬ (q.length : Int) < 1 := by omega
  have h4' : ¬ 600 < (q.length : Int) := by omega
  have HL := Lib.hid (And.intro (show 1 ≤ q.length by omega) (show q.length ≤ 600 by omega))
  clear h1 h2
  go_enter Tryz.func56, Tryz.ntmps56
  go_wp2
  go_loopw [19] (fun i wr => ∃ k : Nat, i = .int .i64 k ∧ k ≤ q.length ∧ (∀ i (hi : i < k) (h : i < q.length), pnB q q[i] = true ∧ ∀ j (hj : j < i), ¬ clash q[i] q[j]) ∧ Below (w.alloc (.cells #[.slice p q.length cap] 87)).heap.size (w.alloc (.cells #[.slice p q.length cap] 87)) wr) (fun i _ => q.length - (intOf i).toNat)
  case atStart => exact ⟨0, rfl, Nat.zero_le _, fun i hi => absurd hi (by omega), Below.refl _ _⟩
  case round =>
    obtain ⟨k, rfl, hk, hall, hbel⟩ := hrel
    generalize wr = wo at *
    have HA := Lib.hid hall
    clear hall
    obtain ⟨hcl, hfr⟩ := bcell hbel
    have hsz := hbel.size
    simp at hsz
    have c0 : wo.cell? ⟨w.heap.size, 0, none⟩ = some (.slice p q.length cap) := by rw [hcl _ _ (by simp)]; simp
    have hK : Kept w wo := (Kept.alloc _ _).trans (Kept.of_below hbel)
    clear hcl hfr
    by_cases hlt : k < q.length
    · obtain ⟨b, o, rfl, hbw, hc⟩ := hRf (by omega)
      have HC := Lib.hid hc
      obtain ⟨⟨e0, i0⟩, ⟨e1, i1⟩, ⟨e2, i2⟩, ⟨u, e3, r3⟩⟩ := PNEl.st w wo b _ _ hK hbw (hc k hlt)
      clear hc hRf
      have r3' := r3
      obtain ⟨bk, ck, rfl, hmk, -⟩ := r3.form
      clear r3
      obtain ⟨x, hx⟩ : ∃ x, x = q[k] := ⟨_, rfl⟩
      rw [← hx] at e0 e1 e2 e3 i0 i1 i2 r3' hmk
      have HX := Lib.hid hx
      clear hx
      have hlt0 : w.heap.size < wo.heap.size := by omega
      have hne0 : w.heap.size ≠ wo.heap.size := by omega
      go_wp2_with fail
      refine (sPNode q _ _ _ _ x.kids _ _ (hR0.kept PNEl.st (hK.trans (Kept.alloc _ _))) (r3'.kept IntEl.st (Kept.alloc _ _)) i2).mono ?_
      rintro e w1 ⟨rfl, hb1⟩
      have hb1w : Below wo.heap.size wo w1 := below_tr (Joins.below_alloc1 wo _) hb1
      have hbel1 := hbel.trans (hb1w.mono (by simp; omega))
      have hs1 : wo.heap.size < w1.heap.size := by have := hb1.size; simp at this; omega
      have c1 := (hb1w.cell (p := ⟨w.heap.size, 0, none⟩) (by show w.heap.size < _; omega)).trans c0
      have x0 : w1.cell? ⟨wo.heap.size, 0, none⟩ = some (.int .i64 x.kind) := by rw [hb1.cell (p := ⟨wo.heap.size, 0, none⟩) (by simp)]; simp
      have x2 : w1.cell? ⟨wo.heap.size, 2, none⟩ = some (.string x.s) := by rw [hb1.cell (p := ⟨wo.heap.size, 2, none⟩) (by simp)]; simp
      have hK1 : Kept w w1 := hK.trans (Kept.of_below hb1w)
      clear e0 e1 e2 e3 c0 hb1
      have HP : Hid (pnodeB (pairB q x.kids) x.kind x.n x.s (x.kids.length : Int) = pnB q x) := Lib.hid rfl
      cases hnb : pnodeB (pairB q x.kids) x.kind x.n x.s (x.kids.length : Int)
      · have HB := Lib.hid (show patOkB q = false from propB_f fun h => by
          have := (h.2.2.1 k hlt).1
          rw [← HX.out, ← HP.out, hnb] at this; cases this)
        go_wp2
        go_ret
        exact ⟨ret_bool HB.out.symm, (Joins.below_alloc1 w _).trans (hbel1.mono (by simp))⟩
      · have HN := Lib.hid hnb
        clear hnb
        go_wp2
        go_loopw [5] (fun j wi => ∃ m : Nat, j = .int .i64 m ∧ m ≤ k ∧ (∀ j (hj : j < m) (h : j < q.length), ¬ clash x q[j]) ∧ Below w1.heap.size w1 wi) (fun j _ => k - (intOf j).toNat)
        case atStart => exact ⟨0, rfl, Nat.zero_le _, fun j hj => absurd hj (by omega), Below.refl _ _⟩
        case round =>
          obtain ⟨m, rfl, hmk2, hcl2, hbi⟩ := hrel
          have HCl := Lib.hid hcl2
          clear hcl2
          have y0 := (hbi.cell (p := ⟨wo.heap.size, 0, none⟩) hs1).trans x0
          have y2 := (hbi.cell (p := ⟨wo.heap.size, 2, none⟩) hs1).trans x2
          have d0 := (hbi.cell (p := ⟨w.heap.size, 0, none⟩) (by show w.heap.size < _; omega)).trans c1
          by_cases hmlt : m < k
          · obtain ⟨⟨f0, l0⟩, ⟨f1, l1⟩, ⟨f2, l2⟩, -⟩ := PNEl.st w wr b _ _ (hK1.trans (Kept.of_below hbi)) hbw (HC.out m (by omega))
            clear f1
            obtain ⟨y, hy⟩ : ∃ y, y = q[m]'(by omega) := ⟨_, rfl⟩
            rw [← hy] at f0 f2 l0 l1 l2
            have HY := Lib.hid hy
            clear hy
            have hmq : m < q.length := by omega
            by_cases hx2 : x.kind = 2
            · have t1 : (x.kind == 2) = true := by simpa using hx2
              by_cases hy2 : y.kind = 2
              · have t2 : (y.kind == 2) = true := by simpa using hy2
                by_cases hs : y.s = x.s
                · have t4 : (y.s.toList == x.s.toList) = true := by simp [hs]
                  have HB := Lib.hid (show patOkB q = false from propB_f fun h => by
                    have := (h.2.2.1 k hlt).2 m hmlt
                    rw [← HX.out, ← HY.out] at this
                    exact this ⟨hx2, hy2, hs⟩)
                  clear hx2 hy2 hs
                  go_wp2_with fail
                  go_quiet (fail)
                  go_wp2
                  go_ret
                  exact ⟨ret_bool HB.out.symm, below_drewN ((Joins.below_alloc1 w _).trans ((hbel1.trans (hbi.mono (by simp; omega))).mono (by simp))) _⟩
                · have t4 : (y.s.toList == x.s.toList) = false := by rw [Bool.eq_false_iff]; intro h; exact hs (toL_inj (by simpa using h))
                  have HS := Lib.hid hs
                  clear hs hx2 hy2
                  go_wp2_with fail
                  go_quiet (fail)
                  go_wp2
                  go_roundw
                  case rel => exact ⟨m + 1, by go_num, by omega, fun j hj h => by
                    by_cases he : j = m
                    · subst he; rw [← HY.out]; exact fun hcl => HS.out hcl.2.2
                    · exact HCl.out j (by omega) h, below_drewN hbi _⟩
                  case measure => simp [intOf]; omega
              · have t2 : (y.kind == 2) = false := by simpa using hy2
                have HS := Lib.hid hy2
                clear hy2 hx2
                go_wp2_with fail
                go_quiet (fail)
                go_wp2
                go_roundw
                case rel => exact ⟨m + 1, by go_num, by omega, fun j hj h => by
                    by_cases he : j = m
                    · subst he; rw [← HY.out]; exact fun hcl => HS.out hcl.2.1
                    · exact HCl.out j (by omega) h, below_drewN hbi _⟩
                case measure => simp [intOf]; omega
            · have t1 : (x.kind == 2) = false := by simpa using hx2
              have HS := Lib.hid hx2
              clear hx2
              go_wp2_with fail
              go_quiet (fail)
              go_wp2
              go_roundw
              case rel => exact ⟨m + 1, by go_num, by omega, fun j hj h => by
                    by_cases he : j = m
                    · subst he; exact fun hcl => HS.out hcl.1
                    · exact HCl.out j (by omega) h, below_drewN hbi _⟩
              case measure => simp [intOf]; omega
          · obtain rfl : m = k := by omega
            go_wp2
            go_roundw
            case rel => exact ⟨m + 1, by go_num, by omega, fun i hi h => by
                by_cases he : i = m
                · subst he; rw [← HX.out]; exact ⟨by rw [← HP.out]; exact HN.out, fun j hj => HCl.out j hj (by omega)⟩
                · exact HA.out i (by omega) h, hbel1.trans (hbi.mono (by simp; omega))⟩
            case measure => simp [intOf]; omega
    · obtain rfl : k = q.length := by omega
      have HB := Lib.hid (show patOkB q = decide (pendF (q.length + 1) (q.map PN.kids) 0 = (q.length : Int)) from by
        by_cases he : pendF (q.length + 1) (q.map PN.kids) 0 = (q.length : Int)
        · rw [show patOkB q = true from propB_t ⟨HL.out.1, HL.out.2, fun i h => HA.out i h h, he⟩]; simp [he]
        · rw [show patOkB q = false from propB_f fun h => he h.2.2.2]; simp [he])
      clear hRf
      have hlt0 : w.heap.size < wo.heap.size := by omega
      have HE := fun W (hK2 : Kept wo W) => Lib.hid (sPEnd (q.length + 1) q _ 0 W ((hR0.kept PNEl.st hK).kept PNEl.st hK2) (by omega) (by omega) (by omega))
      go_wp2_with fail
      go_region_held3 (fun w' => w'.cell? ⟨w.heap.size, 0, none⟩ = some (.slice p q.length cap) ∧ Kept wo w')
        (first | exact ⟨c0, Kept.refl _⟩ | exact ⟨c0, Kept.drew _⟩ | exact ⟨(hb1.cell (p := ⟨w.heap.size, 0, none⟩) hlt0).trans c0, (Kept.drew _).trans (Kept.of_below hb1)⟩)
        ((go_at_call 94; refine (HE _ (by first | exact Kept.drew _ | exact Kept.refl _)).out.mono ?_; rintro e w1 ⟨rfl, hb1⟩))
      go_wp2
      go_ret
      refine ⟨ret_bool ?_, (Joins.below_alloc1 w _).trans (hbel.drew.trans (hb1.mono (by simp; omega)) |>.mono (by simp))⟩
      rw [HB.out, Bool.eq_iff_iff]; simp
theorem sPatOkC (q : List PN) (v : Value) (w : World) (hR : RowRd 4 PNEl w v q) (hz : bPat q ≤ 1048576) :
    Calls Tryz.prog 56 #[.agg #[v]] w fun e w' => e = .returned (.bool (patOkB q)) ∧ Below w.heap.size w w' := sPatOk q v w hR
end Go.Proofs.YtaibgnfjjbncpaaGreat
namespace Go.Proofs.YtaibgnfjjbncpaaGreat
set_option linter.unusedVariables false
set_option maxRecDepth 100000
open Go.ChangeShapes Go.WideShapes Go.ChangeAt Go.RowKit

theorem numL_len24 (v : Int) (h0 : -4611686018427387904 ≤ v) (h1 : v ≤ 4611686018427387903) : (numL v).length ≤ 24 := by
  unfold numL Lib.itoa
  split
  · split
    · have := digits_len v.natAbs (by omega)
      rw [List.length_cons]
      exact Nat.le_trans (Nat.succ_le_succ this) (by omega)
    · exact Nat.le_trans (digits_len _ (by omega)) (by omega)
  · simp
theorem pp_alloc_at (w : World) (O : Obj) {n : Nat} (hn : n = w.heap.size) : (w.alloc O).heap[n]? = some O := by
  subst hn
  show (w.heap.push O)[w.heap.size]? = some O
  exact Array.getElem?_push_size
theorem pp_alloc_was (w : World) (O : Obj) (k : Nat) (h : k < w.heap.size) : (w.alloc O).heap[k]? = w.heap[k]? := ((Below.refl w.heap.size w).alloc (Nat.le_refl _) O).block k h
theorem pp_blk_cell {w : World} {b : Nat} {cs : Array Value} {T : TypeId} (h : w.heap[b]? = some (.cells cs T (0, 0))) (i : Nat) : w.cell? ⟨b, i, none⟩ = cs[i]? ∧ w.frozen? ⟨b, i, none⟩ = false := by
  constructor
  · simp [World.cell?, h]
  · simp [World.frozen?, h]
theorem gen_world {P : World → Prop} (W0 : World) (h : ∀ W, W = W0 → P W) : P W0 := h W0 rfl
theorem two_kids {l : List Int} (h : l.length = 2) : ∃ x y, l = [x, y] := by
  match l, h with
  | [x, y], _ => exact ⟨x, y, rfl⟩
set_option maxHeartbeats 4000000 in
theorem sPatText (q : List PN) (hv : PatV q) (hql : q.length ≤ 600) : ∀ (f : Nat) (v : Value) (a : Nat) (w : World) (hR : RowRd 4 PNEl w v q) (ha : a < q.length) (hf : q.length < a + f),
    Calls Tryz.prog 62 #[.agg #[v], .int .i64 a] w fun e w' => e = .returned (.string ⟨(patU numL q f false a).toArray⟩) ∧ Below w.heap.size w w' := by
  intro f
  induction f using Nat.strongRecOn with
  | _ f ih =>
    intro v a w hR ha hf
    obtain ⟨f', rfl⟩ : ∃ f', f = f' + 1 := ⟨f - 1, by omega⟩
    have hR0 := hR
    obtain ⟨p, cap, rfl, hm, hqf⟩ := hR.form
    unfold maxLen at hm
    obtain ⟨b, o, rfl, hbw, hc⟩ := hqf (by omega)
    have ex := hc a ha
    have hn := hv.nd a ha
    have hkid := fun k (hk : k ∈ q[a].kids) => hv.kid ha hk
    have hcons := hv.cons a ha
    have hU := patU_at numL q f' false a ha
    unfold patN at hU
    have hsz := fun (f a : Nat) (c : Bool) (h : a < q.length) => pat_size numL numL_len24 hv f a c h
    have hen : ∀ a, endN (q.map PN.kids) a ≤ 600 := fun a => by
      have := pendF_le ((q.map PN.kids).length + 1) (q.map PN.kids) a
      unfold endN; simp only [List.length_map] at this ⊢; omega
    have IH := fun f (hf : f < f' + 1) (k : Nat) (hk : k < q.length) (hfk : q.length < k + f) W (hK : Kept w W) => ih f hf _ k W (hR0.kept PNEl.st hK) hk hfk
    have hnode := fun (k : Nat) (hk : k < q.length) => hc k hk
    have hx := q
    generalize hq' : q[a] = n at *
    obtain ⟨⟨a0, i0⟩, ⟨a1, i1⟩, ⟨a2, i2⟩, ⟨u3, a3, r3⟩⟩ := ex
    obtain ⟨pk, ck, rfl, hmk, hkf⟩ := r3.form
    clear ih hR hc hqf
    rcases pk_range hn with hk | hk | hk | hk | hk | hk
    · have HB := Lib.hid (show patU numL q (f' + 1) false a = [95] from by rw [hU, if_pos hk])
      rw [hk] at a0
      go_enter Tryz.func62, Tryz.ntmps62
      go_wp2
      go_ret
      exact ⟨by rw [HB.out]; rfl, Joins.below_alloc2 w _ _⟩
    · have HB := Lib.hid (show patU numL q (f' + 1) false a = n.s.toList from by rw [hU, if_neg (by omega), if_pos hk])
      have HS := Lib.hid (show (⟨n.s.toList.toArray⟩ : ByteArray) = n.s from by rw [pr_toList])
      rw [hk] at a0
      clear hU
      go_enter Tryz.func62, Tryz.ntmps62
      go_wp2
      go_ret
      exact ⟨by rw [HB.out, HS.out]; rfl, Joins.below_alloc2 w _ _⟩
    · have HB := Lib.hid (show patU numL q (f' + 1) false a = numL n.n from by rw [hU, if_neg (by omega), if_neg (by omega), if_pos hk])
      have hN := fun W => sNumText n.n W (by have := i1.1; have := i1.2; omega)
      rw [hk] at a0
      clear hU
      go_enter Tryz.func62, Tryz.ntmps62
      go_wp2_with (go_at_call 60; refine (hN _).mono ?_; rintro e w1 ⟨rfl, hb⟩)
      go_ret
      exact ⟨by rw [HB.out]; rfl, below_tr (Joins.below_alloc2 w _ _) hb⟩
    · have hl := kids4 hn hk
      by_cases h0 : n.kids.length = 0
      · have HB := Lib.hid (show patU numL q (f' + 1) false a = n.s.toList from by rw [hU, if_neg (by omega), if_neg (by omega), if_neg (by omega), if_neg (by omega), if_neg (by omega), if_pos h0])
        have HS := Lib.hid (show (⟨n.s.toList.toArray⟩ : ByteArray) = n.s from by rw [pr_toList])
        rw [hk] at a0
        rw [h0] at a3
        clear hU
        go_enter Tryz.func62, Tryz.ntmps62
        go_wp2
        go_ret
        exact ⟨by rw [HB.out, HS.out]; rfl, Joins.below_alloc2 w _ _⟩
      · have hl1 : n.kids.length = 1 := by omega
        obtain ⟨k, hkk⟩ := List.length_eq_one_iff.1 hl1
        obtain ⟨k1, k2⟩ := hkid k (by rw [hkk]; simp)
        obtain ⟨kn, rfl⟩ : ∃ kn : Nat, k = kn := ⟨k.toNat, by omega⟩
        have hkn : kn < q.length := by omega
        obtain ⟨bk, ok, rfl, hbk, hck⟩ := hkf (by omega)
        have m0 := (hck 0 (by omega)).1
        simp only [hkk, List.getElem_cons_zero, Nat.zero_mul, Nat.add_zero] at m0
        have ht : ((n.kids[0]?).getD 0).toNat = kn := by rw [hkk]; simp
        by_cases hs : n.s.toList = [58, 58]
        · have hf5 := hcons (by simp [isConsB, hk, hs])
          rw [hkk] at hf5
          simp only [firstPK, Int.toNat_natCast, List.getElem?_eq_getElem hkn] at hf5
          have hn2 := hv.nd kn hkn
          have ex2 := hnode kn hkn
          have hkid2 := fun k (hk : k ∈ q[kn].kids) => hv.kid hkn hk
          obtain ⟨f2, rfl⟩ : ∃ f2, f' = f2 + 1 := ⟨f' - 1, by omega⟩
          have hU2 := patU_at numL q f2 true kn hkn
          unfold patN at hU2
          generalize q[kn] = n2 at *
          have hl := kids5 hn2 hf5
          obtain ⟨x, y, hkk2⟩ := two_kids hl
          obtain ⟨x1, x2⟩ := hkid2 x (by rw [hkk2]; simp)
          obtain ⟨y1, y2⟩ := hkid2 y (by rw [hkk2]; simp)
          obtain ⟨xn, rfl⟩ : ∃ xn : Nat, x = xn := ⟨x.toNat, by omega⟩
          obtain ⟨yn, rfl⟩ : ∃ yn : Nat, y = yn := ⟨y.toNat, by omega⟩
          have hxn : xn < q.length := by omega
          have hyn : yn < q.length := by omega
          obtain ⟨⟨b0, j0⟩, ⟨b1, j1⟩, ⟨b2, j2⟩, ⟨u4, b3, r4⟩⟩ := ex2
          obtain ⟨pk2, ck2, rfl, hmk2, hkf2⟩ := r4.form
          obtain ⟨bk2, ok2, rfl, hbk2, hck2⟩ := hkf2 (by omega)
          have m2 := (hck2 0 (by omega)).1
          have m3 := (hck2 1 (by omega)).1
          simp only [hkk2, List.getElem_cons_zero, List.getElem_cons_succ, Nat.zero_mul, Nat.one_mul, Nat.add_zero] at m2 m3
          have HB := Lib.hid (show patU numL q (f2 + 1 + 1) false a = [40] ++ (patU numL q f2 false xn ++ ([32, 58, 58, 32] ++ (patU numL q f2 false yn ++ [41]))) from by rw [hU, if_neg (by omega), if_neg (by omega), if_neg (by omega), if_neg (by omega), if_neg (by omega), if_neg h0, if_pos hs, ht, hU2, if_neg (by omega), if_neg (by omega), if_neg (by omega), if_neg (by omega), if_pos hf5, hkk2]; simp)
          have hA := hsz f2 xn false hxn
          have hBl := hsz f2 yn false hyn
          have e1 := hen xn
          have e2 := hen yn
          have T1 := fun W (hK : Kept w W) => Lib.hid (IH f2 (by omega) xn hxn (by omega) W hK)
          have T2 := fun W (hK : Kept w W) => Lib.hid (IH f2 (by omega) yn hyn (by omega) W hK)
          have hA1 : (patU numL q f2 false xn).length ≤ 20000 := by omega
          have hA2 : (patU numL q f2 false yn).length ≤ 20000 := by omega
          generalize patU numL q f2 false xn = A1 at *
          generalize patU numL q f2 false yn = A2 at *
          have t5 : (n.s.toList == [58, 58]) = true := by simpa using hs
          have t6 : (n.kids.length == 0) = false := by simpa using h0
          rw [hk] at a0
          rw [hl1] at a3 hmk
          rw [hl] at b3 hmk2
          have v0 : (0 : Int) ≤ kn := by omega
          have v1 : (kn : Int) < q.length := by omega
          clear hU hU2 hsz hen IH e1 e2 hA hBl hcons hkid hkid2 hnode hkf hkf2 hl hl1 hkk hkk2 h0 hs ht
          go_enter Tryz.func62, Tryz.ntmps62
          go_wp2_with fail
          refine gen_world (P := fun W => Code.wp _ _ _ _ W) _ ?_
          intro W0 hW0
          have B0 : Below w.heap.size w W0 := by rw [hW0]; exact Joins.below_alloc2 w _ _
          have z0 : W0.heap.size = w.heap.size + 2 := by rw [hW0]; simp
          have K0 := Kept.of_below B0
          have c0 : W0.cell? ⟨w.heap.size, 0, none⟩ = some (.slice (some ⟨b, o, none⟩) q.length cap) := by rw [hW0]; simp
          have c1 : W0.cell? ⟨w.heap.size + 1, 3, none⟩ = some (.slice (some ⟨bk, ok, none⟩) 1 ck) := by rw [hW0]; simp
          have c2 : W0.cell? ⟨bk, ok, none⟩ = some (.int .i64 kn) := (K0.cell _ _ hbk).trans m0
          have d0 := (K0.cell _ _ hbw).trans b0
          have d1 := (K0.cell _ _ hbw).trans b1
          have d2 := (K0.cell _ _ hbw).trans b2
          have d3 := (K0.cell _ _ hbw).trans b3
          clear hW0 m0 a0 a1 a2 a3 b0 b1 b2 b3
          have KS : ∀ W, Below W0.heap.size W0 W → W.cell? ⟨w.heap.size, 0, none⟩ = some (.slice (some ⟨b, o, none⟩) q.length cap) ∧ W.cell? ⟨w.heap.size + 1, 3, none⟩ = some (.slice (some ⟨bk, ok, none⟩) 1 ck) ∧ W.cell? ⟨bk, ok, none⟩ = some (.int .i64 kn) ∧ W.cell? ⟨b, o + kn * 4, none⟩ = some (.int .i64 n2.kind) ∧ W.cell? ⟨b, o + kn * 4 + 1, none⟩ = some (.int .i64 n2.n) ∧ W.cell? ⟨b, o + kn * 4 + 2, none⟩ = some (.string n2.s) ∧ W.cell? ⟨b, o + kn * 4 + 3, none⟩ = some (.slice (some ⟨bk2, ok2, none⟩) 2 ck2) := fun W h =>
            ⟨(h.cell (p := ⟨w.heap.size, 0, none⟩) (by show w.heap.size < _; omega)).trans c0, (h.cell (p := ⟨w.heap.size + 1, 3, none⟩) (by show w.heap.size + 1 < _; omega)).trans c1, (h.cell (p := ⟨bk, ok, none⟩) (by show bk < _; omega)).trans c2, (h.cell (p := ⟨b, o + kn * 4, none⟩) (by show b < _; omega)).trans d0, (h.cell (p := ⟨b, o + kn * 4 + 1, none⟩) (by show b < _; omega)).trans d1, (h.cell (p := ⟨b, o + kn * 4 + 2, none⟩) (by show b < _; omega)).trans d2, (h.cell (p := ⟨b, o + kn * 4 + 3, none⟩) (by show b < _; omega)).trans d3⟩
          go_region_held3 (fun W => W.cell? ⟨w.heap.size, 0, none⟩ = some (.slice (some ⟨b, o, none⟩) q.length cap) ∧ W.cell? ⟨w.heap.size + 1, 3, none⟩ = some (.slice (some ⟨bk, ok, none⟩) 1 ck) ∧ W.cell? ⟨bk, ok, none⟩ = some (.int .i64 kn) ∧ W.cell? ⟨b, o + kn * 4, none⟩ = some (.int .i64 n2.kind) ∧ W.cell? ⟨b, o + kn * 4 + 1, none⟩ = some (.int .i64 n2.n) ∧ W.cell? ⟨b, o + kn * 4 + 2, none⟩ = some (.string n2.s) ∧ W.cell? ⟨b, o + kn * 4 + 3, none⟩ = some (.slice (some ⟨bk2, ok2, none⟩) 2 ck2))
            (first | exact KS _ (Below.refl _ _) | exact KS _ (Below.refl _ _).drew | exact KS _ ((Below.refl _ _).drew.alloc (Nat.le_refl _) _) | exact KS _ (((Below.refl _ _).drew.alloc (Nat.le_refl _) _).setCell (Nat.le_refl _) _))
            (fail)
          clear KS
          go_wp2_with fail
          refine gen_world (P := fun W => Code.wp _ _ _ _ W) _ ?_
          intro W1 hW1
          have B1 : Below w.heap.size w W1 := by rw [hW1]; exact below_tr B0 ((Below.refl _ _).alloc (Nat.le_refl _) _).drew
          have z1 : W1.heap.size = w.heap.size + 3 := by rw [hW1]; simp [z0]
          have K1 := Kept.of_below B1
          have g0 : W1.cell? ⟨w.heap.size, 0, none⟩ = some (.slice (some ⟨b, o, none⟩) q.length cap) := by
            rw [hW1]; exact (((Below.refl W0.heap.size W0).alloc (Nat.le_refl _) _).drew.cell (p := ⟨w.heap.size, 0, none⟩) (by show w.heap.size < _; omega)).trans c0
          have g1 : W1.cell? ⟨w.heap.size + 2, 3, none⟩ = some (.slice (some ⟨bk2, ok2, none⟩) 2 ck2) := by rw [hW1, ← z0]; simp
          have g2 : W1.cell? ⟨bk2, ok2, none⟩ = some (.int .i64 xn) := (K1.cell _ _ hbk2).trans m2
          have g3 : W1.cell? ⟨bk2, ok2 + 1, none⟩ = some (.int .i64 yn) := (K1.cell _ _ hbk2).trans m3
          clear hW1 c0 c1 c2 d0 d1 d2 d3 m2 m3 B0 K0 z0
          have u1 : ¬ (9223372036854775807 < 1 + A1.length) := by omega
          have u2 : ¬ (9223372036854775807 < 1 + A1.length + 4) := by omega
          have u3 : ¬ (9223372036854775807 < 1 + A1.length + 4 + A2.length) := by omega
          have u4 : ¬ (9223372036854775807 < 1 + A1.length + 4 + A2.length + 1) := by omega
          have KS : ∀ W, Below W1.heap.size W1 W → W.cell? ⟨w.heap.size, 0, none⟩ = some (.slice (some ⟨b, o, none⟩) q.length cap) ∧ W.cell? ⟨w.heap.size + 2, 3, none⟩ = some (.slice (some ⟨bk2, ok2, none⟩) 2 ck2) ∧ W.cell? ⟨bk2, ok2, none⟩ = some (.int .i64 xn) ∧ W.cell? ⟨bk2, ok2 + 1, none⟩ = some (.int .i64 yn) ∧ Kept w W := fun W h =>
            ⟨(h.cell (p := ⟨w.heap.size, 0, none⟩) (by show w.heap.size < _; omega)).trans g0, (h.cell (p := ⟨w.heap.size + 2, 3, none⟩) (by show w.heap.size + 2 < _; omega)).trans g1, (h.cell (p := ⟨bk2, ok2, none⟩) (by show bk2 < _; omega)).trans g2, (h.cell (p := ⟨bk2, ok2 + 1, none⟩) (by show bk2 < _; omega)).trans g3, K1.trans (Kept.of_below h)⟩
          go_region_held3 (fun W => W.cell? ⟨w.heap.size, 0, none⟩ = some (.slice (some ⟨b, o, none⟩) q.length cap) ∧ W.cell? ⟨w.heap.size + 2, 3, none⟩ = some (.slice (some ⟨bk2, ok2, none⟩) 2 ck2) ∧ W.cell? ⟨bk2, ok2, none⟩ = some (.int .i64 xn) ∧ W.cell? ⟨bk2, ok2 + 1, none⟩ = some (.int .i64 yn) ∧ Kept w W)
            (first | exact KS _ (Below.refl _ _) | exact KS _ (Below.refl _ _).drew | exact KS _ ((Below.refl _ _).drew.trans hbA) | exact KS _ ((Below.refl _ _).drew.trans (hbA.trans (hbB.mono hbA.size))))
            (first | (have hA' := hbA; go_at_call 62; refine (T2 _ ((K1.trans (Kept.drew _)).trans (Kept.of_below hA'))).out.mono ?_; rintro e wB ⟨rfl, hbB⟩) | (go_at_call 62; refine (T1 _ (K1.trans (by first | exact Kept.drew _ | exact Kept.refl _))).out.mono ?_; rintro e wA ⟨rfl, hbA⟩))
          go_wp2
          go_ret
          refine ⟨by rw [HB.out]; exact ret_str (by simp only [str_app, List.append_assoc]), below_tr B1 ((Below.refl _ _).drew.trans (hbA.trans (hbB.mono hbA.size)))⟩
        · have HB := Lib.hid (show patU numL q (f' + 1) false a = [40] ++ n.s.toList ++ [32] ++ patU numL q f' false kn ++ [41] from by rw [hU, if_neg (by omega), if_neg (by omega), if_neg (by omega), if_neg (by omega), if_neg (by omega), if_neg h0, if_neg hs, ht]; simp [List.append_assoc])
          have hlen := hsz (f' + 1) a false ha
          have e1 := hen a
          rw [HB.out] at hlen
          simp only [List.length_append, List.length_cons, List.length_nil] at hlen
          have T1 := fun W (hK : Kept w W) => Lib.hid (IH f' (by omega) kn hkn (by omega) W hK)
          generalize patU numL q f' false kn = A1 at *
          have hns : n.s.size ≤ 20000 := by
            have : n.s.toList.length ≤ 20000 := by omega
            rw [pr_toList] at this; exact this
          have hA1 : A1.length ≤ 20000 := by omega
          have HS := Lib.hid (show (⟨n.s.toList.toArray⟩ : ByteArray) = n.s from by rw [pr_toList])
          have t5 : (n.s.toList == [58, 58]) = false := by simpa using hs
          have t6 : (n.kids.length == 0) = false := by simpa using h0
          rw [hk] at a0
          rw [hl1] at a3 hmk
          clear hU hsz hen IH e1 hlen hcons hkid hnode hkf hl hl1 hkk h0 hs ht
          go_enter Tryz.func62, Tryz.ntmps62
          go_wp2_with fail
          refine gen_world (P := fun W => Code.wp _ _ _ _ W) _ ?_
          intro W0 hW0
          have B0 : Below w.heap.size w W0 := by rw [hW0]; exact Joins.below_alloc2 w _ _
          have z0 : W0.heap.size = w.heap.size + 2 := by rw [hW0]; simp
          have K0 := Kept.of_below B0
          have c0 : W0.cell? ⟨w.heap.size, 0, none⟩ = some (.slice (some ⟨b, o, none⟩) q.length cap) := by rw [hW0]; simp
          have c1 : W0.cell? ⟨w.heap.size + 1, 3, none⟩ = some (.slice (some ⟨bk, ok, none⟩) 1 ck) := by rw [hW0]; simp
          have c4 : W0.cell? ⟨w.heap.size + 1, 2, none⟩ = some (.string n.s) := by rw [hW0]; simp
          have c2 : W0.cell? ⟨bk, ok, none⟩ = some (.int .i64 kn) := (K0.cell _ _ hbk).trans m0
          clear hW0 m0 a0 a1 a2 a3
          have u1 : ¬ (9223372036854775807 < 1 + n.s.size) := by omega
          have u2 : ¬ (9223372036854775807 < 1 + n.s.size + 1) := by omega
          have u3 : ¬ (9223372036854775807 < 1 + n.s.size + 1 + A1.length) := by omega
          have u4 : ¬ (9223372036854775807 < 1 + n.s.size + 1 + A1.length + 1) := by omega
          have KS : ∀ W, Below W0.heap.size W0 W → W.cell? ⟨w.heap.size, 0, none⟩ = some (.slice (some ⟨b, o, none⟩) q.length cap) ∧ W.cell? ⟨w.heap.size + 1, 3, none⟩ = some (.slice (some ⟨bk, ok, none⟩) 1 ck) ∧ W.cell? ⟨w.heap.size + 1, 2, none⟩ = some (.string n.s) ∧ W.cell? ⟨bk, ok, none⟩ = some (.int .i64 kn) ∧ Kept w W := fun W h =>
            ⟨(h.cell (p := ⟨w.heap.size, 0, none⟩) (by show w.heap.size < _; omega)).trans c0, (h.cell (p := ⟨w.heap.size + 1, 3, none⟩) (by show w.heap.size + 1 < _; omega)).trans c1, (h.cell (p := ⟨w.heap.size + 1, 2, none⟩) (by show w.heap.size + 1 < _; omega)).trans c4, (h.cell (p := ⟨bk, ok, none⟩) (by show bk < _; omega)).trans c2, K0.trans (Kept.of_below h)⟩
          go_region_held3 (fun W => W.cell? ⟨w.heap.size, 0, none⟩ = some (.slice (some ⟨b, o, none⟩) q.length cap) ∧ W.cell? ⟨w.heap.size + 1, 3, none⟩ = some (.slice (some ⟨bk, ok, none⟩) 1 ck) ∧ W.cell? ⟨w.heap.size + 1, 2, none⟩ = some (.string n.s) ∧ W.cell? ⟨bk, ok, none⟩ = some (.int .i64 kn) ∧ Kept w W)
            (first | exact KS _ (Below.refl _ _) | exact KS _ (Below.refl _ _).drew | exact KS _ ((Below.refl _ _).drew.trans hbA))
            ((go_at_call 62; refine (T1 _ (K0.trans (by first | exact Kept.drew _ | exact Kept.refl _))).out.mono ?_; rintro e wA ⟨rfl, hbA⟩))
          go_wp2
          go_ret
          refine ⟨by rw [HB.out]; exact ret_str (by simp only [← str_app]; rw [HS.out]), below_tr B0 ((Below.refl _ _).drew.trans hbA)⟩
    · have hl := kids5 hn hk
      obtain ⟨x, y, hkk⟩ := two_kids hl
      obtain ⟨x1, x2⟩ := hkid x (by rw [hkk]; simp)
      obtain ⟨y1, y2⟩ := hkid y (by rw [hkk]; simp)
      obtain ⟨xn, rfl⟩ : ∃ xn : Nat, x = xn := ⟨x.toNat, by omega⟩
      obtain ⟨yn, rfl⟩ : ∃ yn : Nat, y = yn := ⟨y.toNat, by omega⟩
      have hxn : xn < q.length := by omega
      have hyn : yn < q.length := by omega
      obtain ⟨bk, ok, rfl, hbk, hck⟩ := hkf (by omega)
      have m0 := (hck 0 (by omega)).1
      have m1 := (hck 1 (by omega)).1
      simp only [hkk, List.getElem_cons_zero, List.getElem_cons_succ, Nat.zero_mul, Nat.one_mul, Nat.add_zero] at m0 m1
      have HB := Lib.hid (show patU numL q (f' + 1) false a = [40] ++ (patU numL q f' false xn ++ ([44, 32] ++ (patU numL q f' false yn ++ [41]))) from by rw [hU, if_neg (by omega), if_neg (by omega), if_neg (by omega), if_neg (by omega), if_pos hk, hkk]; simp)
      have hA := hsz f' xn false hxn
      have hBl := hsz f' yn false hyn
      have e1 := hen xn
      have e2 := hen yn
      have T1 := fun W (hK : Kept w W) => Lib.hid (IH f' (by omega) xn hxn (by omega) W hK)
      have T2 := fun W (hK : Kept w W) => Lib.hid (IH f' (by omega) yn hyn (by omega) W hK)
      have hA1 : (patU numL q f' false xn).length ≤ 20000 := by omega
      have hA2 : (patU numL q f' false yn).length ≤ 20000 := by omega
      generalize patU numL q f' false xn = A1 at *
      generalize patU numL q f' false yn = A2 at *
      have t5 : (n.kind == 5) = true := by simpa using hk
      rw [hk] at a0
      clear hU hsz hen IH e1 e2 hA hBl hcons hkid hnode hkf
      have hl2 : n.kids.length = 2 := hl
      rw [hl2] at a3 hmk
      clear hl hl2 hkk
      go_enter Tryz.func62, Tryz.ntmps62
      go_wp2_with fail
      refine gen_world (P := fun W => Code.wp _ _ _ _ W) _ ?_
      intro W0 hW0
      have B0 : Below w.heap.size w W0 := by rw [hW0]; exact Joins.below_alloc2 w _ _
      have z0 : W0.heap.size = w.heap.size + 2 := by rw [hW0]; simp
      have K0 := Kept.of_below B0
      have c0 : W0.cell? ⟨w.heap.size, 0, none⟩ = some (.slice (some ⟨b, o, none⟩) q.length cap) := by rw [hW0]; simp
      have c1 : W0.cell? ⟨w.heap.size + 1, 3, none⟩ = some (.slice (some ⟨bk, ok, none⟩) 2 ck) := by rw [hW0]; simp
      have c2 : W0.cell? ⟨bk, ok, none⟩ = some (.int .i64 xn) := (K0.cell _ _ hbk).trans m0
      have c3 : W0.cell? ⟨bk, ok + 1, none⟩ = some (.int .i64 yn) := (K0.cell _ _ hbk).trans m1
      clear hW0 m0 m1 a0 a1 a2 a3
      have u1 : ¬ (9223372036854775807 < 1 + A1.length) := by omega
      have u2 : ¬ (9223372036854775807 < 1 + A1.length + 2) := by omega
      have u3 : ¬ (9223372036854775807 < 1 + A1.length + 2 + A2.length) := by omega
      have u4 : ¬ (9223372036854775807 < 1 + A1.length + 2 + A2.length + 1) := by omega
      have KS : ∀ W, Below W0.heap.size W0 W → W.cell? ⟨w.heap.size, 0, none⟩ = some (.slice (some ⟨b, o, none⟩) q.length cap) ∧ W.cell? ⟨w.heap.size + 1, 3, none⟩ = some (.slice (some ⟨bk, ok, none⟩) 2 ck) ∧ W.cell? ⟨bk, ok, none⟩ = some (.int .i64 xn) ∧ W.cell? ⟨bk, ok + 1, none⟩ = some (.int .i64 yn) ∧ Kept w W := fun W h =>
        ⟨(h.cell (p := ⟨w.heap.size, 0, none⟩) (by show w.heap.size < _; omega)).trans c0, (h.cell (p := ⟨w.heap.size + 1, 3, none⟩) (by show w.heap.size + 1 < _; omega)).trans c1, (h.cell (p := ⟨bk, ok, none⟩) (by show bk < _; omega)).trans c2, (h.cell (p := ⟨bk, ok + 1, none⟩) (by show bk < _; omega)).trans c3, K0.trans (Kept.of_below h)⟩
      go_region_held3 (fun W => W.cell? ⟨w.heap.size, 0, none⟩ = some (.slice (some ⟨b, o, none⟩) q.length cap) ∧ W.cell? ⟨w.heap.size + 1, 3, none⟩ = some (.slice (some ⟨bk, ok, none⟩) 2 ck) ∧ W.cell? ⟨bk, ok, none⟩ = some (.int .i64 xn) ∧ W.cell? ⟨bk, ok + 1, none⟩ = some (.int .i64 yn) ∧ Kept w W)
        (first | exact KS _ (Below.refl _ _) | exact KS _ (Below.refl _ _).drew | exact KS _ ((Below.refl _ _).drew.trans hbA) | exact KS _ ((Below.refl _ _).drew.trans (hbA.trans (hbB.mono hbA.size))))
        (first | (have hA' := hbA; go_at_call 62; refine (T2 _ ((K0.trans (Kept.drew _)).trans (Kept.of_below hA'))).out.mono ?_; rintro e wB ⟨rfl, hbB⟩) | (go_at_call 62; refine (T1 _ (K0.trans (by first | exact Kept.drew _ | exact Kept.refl _))).out.mono ?_; rintro e wA ⟨rfl, hbA⟩))
      go_wp2
      go_ret
      refine ⟨by rw [HB.out]; exact ret_str (by simp only [str_app, List.append_assoc]), below_tr B0 ((Below.refl _ _).drew.trans (hbA.trans (hbB.mono hbA.size)))⟩
    · have HB := Lib.hid (show patU numL q (f' + 1) false a = [40, 41] from by rw [hU, if_neg (by omega), if_neg (by omega), if_neg (by omega), if_pos hk])
      rw [hk] at a0
      go_enter Tryz.func62, Tryz.ntmps62
      go_wp2
      go_ret
      exact ⟨by rw [HB.out]; rfl, Joins.below_alloc2 w _ _⟩
/-- What PrintPat answers. -/
noncomputable def prPatRes (q : List PN) : ByteArray := if patOkB q = true then ⟨(patU numL q (q.length + 1) false 0).toArray⟩ else ⟨#[]⟩
theorem patOk_len {q : List PN} (h : patOkB q = true) : 0 < q.length ∧ q.length ≤ 600 := by
  by_cases hp : PatOkP q
  · exact ⟨hp.1, hp.2.1⟩
  · rw [patOkB, propB_f hp] at h; cases h
end Go.Proofs.YtaibgnfjjbncpaaGreat
