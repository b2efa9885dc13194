/- Texts of this proof, merged: SmE, SmF, SmG, SmH, PrT, QpN, SmI. -/
import Derived.Test.YtaibgnfjjbncpaaGreatM9
import Derived.Test.YtaibgnfjjbncpaaGreatM12
import Derived.Test.YtaibgnfjjbncpaaGreatM11
import Derived.Test.YtaibgnfjjbncpaaGreatM10
namespace Go.Proofs.YtaibgnfjjbncpaaGreat
set_option linter.unusedVariables false
set_option maxRecDepth 100000
open Go.RowKit

/-- A node but for where it stood. -/
def strip (x : Nd) : Nd := ⟨x.kind, 0, x.n, x.s, x.kids, x.pats⟩
theorem strip_eq {x : Nd} {k n : Int} {s : ByteArray} {ks : List Int} {ps : List (List PN)} (h1 : x.kind = k) (h2 : x.n = n) (h3 : x.s = s) (h4 : x.kids = ks) (h5 : x.pats = ps) : strip x = ⟨k, 0, n, s, ks, ps⟩ := by
  unfold strip; rw [h1, h2, h3, h4, h5]
theorem strip_kids {x : Nd} {k n : Int} {s : ByteArray} {ks : List Int} {ps : List (List PN)} (h : strip x = ⟨k, 0, n, s, ks, ps⟩) : x.kids = ks := by
  unfold strip at h; injection h
structure NdP (x : Nd) : Prop where
  n0 : x.kind ≠ 1 → x.n = 0
  n1 : x.kind = 1 → 0 ≤ x.n ∧ x.n ≤ 4611686018427387903
  ps : x.kind ≠ 13 → x.pats = []
  nm : x.kind = 3 ∨ x.kind = 5 ∨ x.kind = 7 ∨ x.kind = 8 ∨ x.kind = 15 → nameB x.s = true
  cn : x.kind = 4 → conOkB x.s x.kids.length true = true
  pr : x.kind = 10 → primB x.s = true
  em : x.kind = 1 ∨ x.kind = 6 ∨ x.kind = 9 ∨ x.kind = 11 ∨ x.kind = 12 ∨ x.kind = 13 ∨ x.kind = 14 ∨ x.kind = 16 ∨ x.kind = 17 ∨ x.kind = 18 ∨ x.kind = 19 → x.s = nn
theorem ndP {x : Nd} (h : isNodeB x = true) : NdP x := by
  simp only [isNodeB, Bool.and_eq_true] at h
  obtain ⟨_, h2, h3, h4, h5⟩ := h
  refine ⟨fun h => ?_, fun h => ?_, fun h => ?_, fun h => ?_, fun h => ?_, fun h => ?_, fun h => ?_⟩
  · unfold rnB at h2; rw [if_neg h] at h2; simpa using h2
  · unfold rnB at h2; rw [if_pos h] at h2; simpa using h2
  · unfold rpB at h5; rw [if_neg h] at h5; simpa using h5
  · unfold rsB at h3; rw [if_neg (by omega), if_pos h] at h3; exact h3
  · unfold rsB at h3; rw [if_neg (by omega), if_neg (by omega), if_pos h] at h3; exact h3
  · unfold rsB at h3; rw [if_neg (by omega), if_neg (by omega), if_neg (by omega), if_pos h] at h3; exact h3
  · unfold rsB at h3; rw [if_neg (by omega), if_neg (by omega), if_neg (by omega), if_neg (by omega)] at h3; exact nn_of (by simpa using h3)
def leafE (x : Nd) (w : List UInt8) : Prop :=
  (∃ n, strip x = ⟨1, 0, n, nn, [], []⟩ ∧ w = numL n ∧ 0 ≤ n ∧ n ≤ 4611686018427387903) ∨ (∃ s, strip x = ⟨3, 0, 0, s, [], []⟩ ∧ w = s.toList ∧ nameB s = true) ∨ (∃ s, strip x = ⟨4, 0, 0, s, [], []⟩ ∧ w = s.toList ∧ conW s)
/-- The separator between two operands, by the kind. -/
def sepOf (k : Int) (s : ByteArray) : List UInt8 := if k = 6 then [32] else if k = 10 then 32 :: (s.toList ++ [32]) else if k = 11 then [44, 32] else if k = 18 then [32, 58, 61, 32] else if k = 19 then [59, 32] else [32, 58, 58, 32]
inductive Tag | leaf | str | unit | fn | lt | ite | mt | ra | ty | rf | ge | grp
/-- The arms behind what is matched. -/
def armX (E : Nat → List UInt8) : List UInt8 → List (List PN) → List Int → List UInt8
  | b, q :: qs, k :: ks => b ++ (pTxt q ++ 32 :: 45 :: 62 :: 32 :: (E k.toNat ++ armX E [32, 124, 32] qs ks))
  | _, _, _ => [32, 101, 110, 100, 41]
abbrev ET (p : List Nd) (g i : Nat) : List UInt8 := exprT NT p g 0 i
inductive ESh (p : List Nd) (f a : Nat) (T : List UInt8) : Tag → Prop
  | leaf (w : List UInt8) (hx : leafE (p[a]?.getD ⟨0, 0, 0, nn, [], []⟩) w) (ht : T = w) : ESh p f a T .leaf
  | str (s : ByteArray) (hx : (p.map strip)[a]? = some ⟨2, 0, 0, s, [], []⟩) (ht : T = quoteL s.toList) : ESh p f a T .str
  | unit (hx : (p.map strip)[a]? = some ⟨12, 0, 0, nn, [], []⟩) (ht : T = [40, 41]) : ESh p f a T .unit
  | fn (s : ByteArray) (g : Nat) (hs : nameB s = true) (hx : (p.map strip)[a]? = some ⟨5, 0, 0, s, [((a + 1 : Nat) : Int)], []⟩) (hg : g < f) (h1 : a + 1 < p.length) (f1 : p.length < a + 1 + g)
      (ht : T = 40 :: ([102, 117, 110] ++ 32 :: (s.toList ++ 32 :: 45 :: 62 :: 32 :: (ET p g (a + 1) ++ [41])))) : ESh p f a T .fn
  | lt (s : ByteArray) (m g : Nat) (hs : nameB s = true) (hx : (p.map strip)[a]? = some ⟨7, 0, 0, s, [((a + 1 : Nat) : Int), (m : Int)], []⟩) (hg : g < f) (h1 : a + 1 < p.length) (f1 : p.length < a + 1 + g) (h2 : m < p.length) (f2 : p.length < m + g)
      (ht : T = 40 :: ([108, 101, 116] ++ 32 :: (s.toList ++ 32 :: 61 :: 32 :: (ET p g (a + 1) ++ 32 :: 105 :: 110 :: 32 :: (ET p g m ++ [41]))))) : ESh p f a T .lt
  | rc (s s2 : ByteArray) (m g g2 : Nat) (hs : nameB s = true) (hs2 : nameB s2 = true) (hx : (p.map strip)[a]? = some ⟨8, 0, 0, s, [((a + 1 : Nat) : Int), (m : Int)], []⟩) (hy : (p.map strip)[a + 1]? = some ⟨5, 0, 0, s2, [((a + 2 : Nat) : Int)], []⟩) (hg : g < f) (hg2 : g2 < f)
      (h1 : a + 2 < p.length) (f1 : p.length < a + 2 + g2) (h2 : m < p.length) (f2 : p.length < m + g)
      (ht : T = 40 :: ([108, 101, 116] ++ 32 :: ([114, 101, 99] ++ 32 :: (s.toList ++ 32 :: (s2.toList ++ 32 :: 61 :: 32 :: (ET p g2 (a + 2) ++ 32 :: 105 :: 110 :: 32 :: (ET p g m ++ [41]))))))) : ESh p f a T .lt
  | ite (m n g : Nat) (hx : (p.map strip)[a]? = some ⟨9, 0, 0, nn, [((a + 1 : Nat) : Int), (m : Int), (n : Int)], []⟩) (hg : g < f) (h1 : a + 1 < p.length) (f1 : p.length < a + 1 + g) (h2 : m < p.length) (f2 : p.length < m + g) (h3 : n < p.length) (f3 : p.length < n + g)
      (ht : T = 40 :: ([105, 102] ++ 32 :: (ET p g (a + 1) ++ 32 :: 116 :: 104 :: 101 :: 110 :: 32 :: (ET p g m ++ 32 :: 101 :: 108 :: 115 :: 101 :: 32 :: (ET p g n ++ [41]))))) : ESh p f a T .ite
  | mt (q : List PN) (qs : List (List PN)) (k : Int) (ks : List Int) (g : Nat) (hx : (p.map strip)[a]? = some ⟨13, 0, 0, nn, ((a + 1 : Nat) : Int) :: k :: ks, q :: qs⟩) (hq : ∀ x ∈ q :: qs, patOkB x = true) (hl : qs.length = ks.length) (hg : g < f) (h1 : a + 1 < p.length) (f1 : p.length < a + 1 + g) (hf : p.length < a + 1 + g)
      (ht : T = 40 :: ([109, 97, 116, 99, 104] ++ 32 :: (ET p g (a + 1) ++ armX (ET p g) [32, 119, 105, 116, 104, 32] (q :: qs) (k :: ks)))) : ESh p f a T .mt
  | ra (g : Nat) (hx : (p.map strip)[a]? = some ⟨14, 0, 0, nn, [((a + 1 : Nat) : Int)], []⟩) (hg : g < f) (h1 : a + 1 < p.length) (f1 : p.length < a + 1 + g) (ht : T = 40 :: ([114, 97, 105, 115, 101] ++ 32 :: (ET p g (a + 1) ++ [41]))) : ESh p f a T .ra
  | rf (g : Nat) (hx : (p.map strip)[a]? = some ⟨16, 0, 0, nn, [((a + 1 : Nat) : Int)], []⟩) (hg : g < f) (h1 : a + 1 < p.length) (f1 : p.length < a + 1 + g) (ht : T = 40 :: ([114, 101, 102] ++ 32 :: (ET p g (a + 1) ++ [41]))) : ESh p f a T .rf
  | ge (g : Nat) (hx : (p.map strip)[a]? = some ⟨17, 0, 0, nn, [((a + 1 : Nat) : Int)], []⟩) (hg : g < f) (h1 : a + 1 < p.length) (f1 : p.length < a + 1 + g) (ht : T = 40 :: ([33] ++ 32 :: (ET p g (a + 1) ++ [41]))) : ESh p f a T .ge
  | ty (s : ByteArray) (m g : Nat) (hs : nameB s = true) (hx : (p.map strip)[a]? = some ⟨15, 0, 0, s, [((a + 1 : Nat) : Int), (m : Int)], []⟩) (hg : g < f) (h1 : a + 1 < p.length) (f1 : p.length < a + 1 + g) (h2 : m < p.length) (f2 : p.length < m + g)
      (ht : T = 40 :: ([116, 114, 121] ++ 32 :: (ET p g (a + 1) ++ 32 :: 119 :: 105 :: 116 :: 104 :: 32 :: (s.toList ++ 32 :: 45 :: 62 :: 32 :: (ET p g m ++ 32 :: 101 :: 110 :: 100 :: [41]))))) : ESh p f a T .ty
  | cn (s : ByteArray) (g : Nat) (hs : conW s) (hx : (p.map strip)[a]? = some ⟨4, 0, 0, s, [((a + 1 : Nat) : Int)], []⟩) (hg : g < f) (h1 : a + 1 < p.length) (f1 : p.length < a + 1 + g) (ht : T = 40 :: (s.toList ++ 32 :: (ET p g (a + 1) ++ [41]))) : ESh p f a T .grp
  | bi (k : Int) (s : ByteArray) (b m g : Nat) (hk : k = 4 ∨ k = 6 ∨ k = 10 ∧ primB s = true ∨ k = 11 ∨ k = 18 ∨ k = 19) (hx : k ≠ 4 → b = a + 1 ∧ (p.map strip)[a]? = some ⟨k, 0, 0, s, [((a + 1 : Nat) : Int), (m : Int)], []⟩)
      (hy : k = 4 → b = a + 2 ∧ (p.map strip)[a]? = some ⟨4, 0, 0, s, [((a + 1 : Nat) : Int)], []⟩ ∧ (p.map strip)[a + 1]? = some ⟨11, 0, 0, nn, [((a + 2 : Nat) : Int), (m : Int)], []⟩)
      (hz : k ≠ 10 → k ≠ 4 → s = nn) (hc : k = 4 → s.toList = [58, 58]) (hl : k = 6 → ∀ w, ¬ (∃ s, (p.map strip)[b]? = some ⟨4, 0, 0, s, [], []⟩ ∧ w = s.toList)) (hg : g < f) (h1 : b < p.length) (f1 : p.length < b + g) (h2 : m < p.length) (f2 : p.length < m + g)
      (ht : T = 40 :: (ET p g b ++ (sepOf k s ++ (ET p g m ++ [41])))) : ESh p f a T .grp
  | la (s : ByteArray) (m g : Nat) (hs : conW s) (hx : (p.map strip)[a]? = some ⟨6, 0, 0, nn, [((a + 1 : Nat) : Int), (m : Int)], []⟩) (hy : (p.map strip)[a + 1]? = some ⟨4, 0, 0, s, [], []⟩) (hg : g < f) (h1 : a + 1 < p.length) (h2 : m < p.length) (f2 : p.length < m + g)
      (ht : T = 40 :: 40 :: (s.toList ++ 41 :: 32 :: (ET p g m ++ [41]))) : ESh p f a T .grp
theorem armX_eq (E : Nat → List UInt8) : ∀ (qs : List (List PN)) (ks : List Int) (b : List UInt8) (pre : List (List UInt8)), ks.length = qs.length →
    ((pre ++ (armsT pTxt b qs ++ [[32, 101, 110, 100, 41]]))[pre.length]?.getD []) ++ kF (fun _ => E) (pre ++ (armsT pTxt b qs ++ [[32, 101, 110, 100, 41]])) pre.length 0 ks = armX E b qs ks := by
  intro qs
  induction qs with
  | nil =>
    intro ks b pre h
    obtain rfl : ks = [] := List.eq_nil_of_length_eq_zero (by simpa using h)
    simp [armsT, kF, armX]
  | cons q qs ih =>
    intro ks b pre h
    cases ks with
    | nil => simp at h
    | cons k ks =>
      have := ih ks [32, 124, 32] (pre ++ [b ++ pTxt q ++ [32, 45, 62, 32]]) (by simpa using h)
      rw [armsT, armX, kF, ← this]
      simp
theorem cN_ok {s : ByteArray} {m : Int} {b : Bool} (h : conOkB s m b = true) (hs : s.toList ≠ [58, 58]) : conW s := by
  unfold conOkB at h
  rw [if_neg hs] at h
  split at h
  · rename_i hh
    rcases hh with hh | hh | hh
    · exact .inl hh
    · exact .inr (.inl hh)
    · exact .inr (.inr (.inl hh))
  · simp only [Bool.and_eq_true] at h
    exact .inr (.inr (.inr h.1))
theorem kF_fun (g : Nat → Nat → List UInt8) (T : List (List UInt8)) : ∀ (ks : List Int) (d : Nat), kF g T d 0 ks = kF (fun _ => g 0) T d 0 ks := by
  intro ks
  induction ks with
  | nil => intro d; simp [kF]
  | cons k ks ih => intro d; rw [kF, kF, ih]
theorem map_some {p : List Nd} {a : Nat} (ha : a < p.length) {x : Nd} (h : strip p[a] = x) : (p.map strip)[a]? = some x := by
  rw [List.getElem?_map, List.getElem?_eq_getElem ha, Option.map_some, h]
theorem nl (k : Int) {n : Nd} (hk : n.kind = k) (h4 : k ≠ 4) (h8 : k ≠ 8) (h6 : k ≠ 6) : isConsN n = false ∧ modeN n = 0 := ⟨ncons hk h4, mode0 hk h4 h8 h6⟩
theorem eshape {p : List Nd} (hv : PgV p) (f a : Nat) (ha : a < p.length) (hf : p.length < a + f) : ∃ τ, ESh p f a (exprT NT p f 0 a) τ := by
  obtain ⟨f1, rfl⟩ : ∃ f1, f = f1 + 1 := ⟨f - 1, by omega⟩
  have hn := hv.nd a ha
  have P := ndP hn
  have hal : a < (p.map Nd.kids).length := by simpa using ha
  have hgk : (p.map Nd.kids)[a] = p[a].kids := by simp
  have hU := fun h4 => ex_at (N := NT) (p := p) (f := f1) (a := a) ha h4
  have k0 : p[a].kids.length = 0 → p[a].kids = [] := List.eq_nil_of_length_eq_zero
  have K1 : p[a].kids.length = 1 → p[a].kids = [((a + 1 : Nat) : Int)] ∧ a + 1 < p.length := fun h => by
    obtain ⟨x, hx⟩ := List.length_eq_one_iff.1 h
    obtain ⟨e1, e2, _⟩ := end_1 hv.pre hal (x := x) (by rw [hgk, hx])
    exact ⟨by rw [hx, e1], by simpa using e2⟩
  have K2 : p[a].kids.length = 2 → ∃ m : Nat, p[a].kids = [((a + 1 : Nat) : Int), (m : Int)] ∧ a + 1 < p.length ∧ m < p.length ∧ a + 1 < m := fun h => by
    obtain ⟨x, y, hxy⟩ := two_kids h
    obtain ⟨m, e1, e2, e3, e4, _, _, e5, _⟩ := end_2 hv.pre hal (x := x) (y := y) (by rw [hgk, hxy])
    exact ⟨m, by rw [hxy, e1, e2], by simpa using e3, by simpa using e4, e5⟩
  rcases nk_range hn with hk | hk | hk | hk | hk | hk | hk | hk | hk | hk | hk | hk | hk | hk | hk | hk | hk | hk | hk
  · have hk0 := k0 (nk_kids hn 1 0 hk (by decide) (by decide) (by decide))
    obtain ⟨c1, c2⟩ := nl 1 hk (by decide) (by decide) (by decide)
    obtain ⟨n0, n1⟩ := P.n1 hk
    refine ⟨_, .leaf (numL p[a].n) (.inl ⟨p[a].n, ?_, rfl, n0, n1⟩) ?_⟩
    · rw [List.getElem?_eq_getElem ha, Option.getD_some]
      exact strip_eq hk rfl (P.em (by omega)) hk0 (P.ps (by omega))
    · rw [hU c1, hk0, kF0]; simp [NT, nodeT, hk]
  · have hk0 := k0 (nk_kids hn 2 0 hk (by decide) (by decide) (by decide))
    obtain ⟨c1, c2⟩ := nl 2 hk (by decide) (by decide) (by decide)
    refine ⟨_, .str p[a].s (map_some ha (strip_eq hk (P.n0 (by omega)) rfl hk0 (P.ps (by omega)))) ?_⟩
    rw [hU c1, hk0, kF0]; simp [NT, nodeT, hk]
  · have hk0 := k0 (nk_kids hn 3 0 hk (by decide) (by decide) (by decide))
    obtain ⟨c1, c2⟩ := nl 3 hk (by decide) (by decide) (by decide)
    refine ⟨_, .leaf p[a].s.toList (.inr (.inl ⟨p[a].s, ?_, rfl, P.nm (by omega)⟩)) ?_⟩
    · rw [List.getElem?_eq_getElem ha, Option.getD_some]
      exact strip_eq hk (P.n0 (by omega)) rfl hk0 (P.ps (by omega))
    · rw [hU c1, hk0, kF0]; simp [NT, nodeT, hk]
  · have hcn := P.cn hk
    have hl1 : p[a].kids.length ≤ 1 := by
      have h := hn
      simp only [isNodeB, Bool.and_eq_true] at h
      obtain ⟨_, _, _, h, _⟩ := h
      rw [hk] at h
      unfold rkB at h
      simp at h
      omega
    by_cases h0 : p[a].kids.length = 0
    · have hk0 := k0 h0
      have hs : p[a].s.toList ≠ [58, 58] := fun hs => by
        unfold conOkB at hcn
        rw [if_pos hs] at hcn
        simp at hcn
        omega
      have hc : isConsN p[a] = false := by simp [isConsN, hs]
      refine ⟨_, .leaf p[a].s.toList (.inr (.inr ⟨p[a].s, ?_, rfl, cN_ok hcn hs⟩)) ?_⟩
      · rw [List.getElem?_eq_getElem ha, Option.getD_some]
        exact strip_eq hk (P.n0 (by omega)) rfl hk0 (P.ps (by omega))
      · rw [hU hc, hk0, kF0]; simp [NT, nodeT, hk, hk0]
    · obtain ⟨hkk, h1⟩ := K1 (by omega)
      by_cases hs : p[a].s.toList = [58, 58]
      · have hc : isConsN p[a] = true := by simp [isConsN, hk, hs]
        have hf5 := hv.fst a ha
        unfold rfB at hf5
        rw [if_neg (by omega), if_pos hc] at hf5
        have hq5 : p[a + 1].kind = 11 := by simpa [hkk, firstNK, List.getElem?_eq_getElem h1] using hf5
        have hn5 := hv.nd (a + 1) h1
        have P5 := ndP hn5
        have hl5 := nk_kids hn5 11 2 hq5 (by decide) (by decide) (by decide)
        obtain ⟨x, y, hxy⟩ := two_kids hl5
        obtain ⟨m, e1, e2, e3, e4, _, _, e5, _⟩ := end_2 hv.pre (a := a + 1) (by simpa using h1) (x := x) (y := y) (by simp [hxy])
        subst e1 e2
        have e3' : a + 1 + 1 < p.length := by simpa using e3
        have e4' : m < p.length := by simpa using e4
        obtain ⟨f2, rfl⟩ : ∃ f2, f1 = f2 + 1 := ⟨f1 - 1, by omega⟩
        refine ⟨_, .bi 4 p[a].s (a + 2) m f2 (.inl rfl) (fun h => absurd rfl h) (fun _ => ⟨rfl, map_some ha (strip_eq hk (P.n0 (by omega)) rfl hkk (P.ps (by omega))), map_some h1 (strip_eq hq5 (P5.n0 (by omega)) (P5.em (by omega)) hxy (P5.ps (by omega)))⟩) (fun _ h => absurd rfl h) (fun _ => hs) (fun h => absurd h (by decide)) (by omega) e3' (by omega) e4' (by omega) ?_⟩
        rw [ex_cons (f := f2 + 1) ha hc hkk, ex_pair h1 hq5 hxy]
        simp [sepOf, ET]
      · have hc : isConsN p[a] = false := by simp [isConsN, hs]
        refine ⟨_, .cn p[a].s f1 (cN_ok hcn hs) (map_some ha (strip_eq hk (P.n0 (by omega)) rfl hkk (P.ps (by omega)))) (by omega) h1 (by omega) ?_⟩
        rw [hU hc, show modeN p[a] = 0 from by simp [modeN, hc, hk], hkk, kF1]
        simp [NT, nodeT, hk, hkk, ET]
  · obtain ⟨hkk, h1⟩ := K1 (nk_kids hn 5 1 hk (by decide) (by decide) (by decide))
    obtain ⟨c1, c2⟩ := nl 5 hk (by decide) (by decide) (by decide)
    refine ⟨_, .fn p[a].s f1 (P.nm (by omega)) (map_some ha (strip_eq hk (P.n0 (by omega)) rfl hkk (P.ps (by omega)))) (by omega) h1 (by omega) ?_⟩
    rw [hU c1, c2, hkk, kF1]
    simp [NT, nodeT, hk, ET]
  · obtain ⟨m, hkk, h1, h2, h3⟩ := K2 (nk_kids hn 6 2 hk (by decide) (by decide) (by decide))
    obtain ⟨f2, rfl⟩ : ∃ f2, f1 = f2 + 1 := ⟨f1 - 1, by omega⟩
    have hT : exprT NT p (f2 + 1 + 1) 0 a = 40 :: (exprT NT p (f2 + 1) 3 (a + 1) ++ 32 :: (exprT NT p (f2 + 1) 0 m ++ [41])) := by
      rw [hU (ncons hk (by decide)), show modeN p[a] = 3 from by simp [modeN, isConsN, hk], hkk, kF2]
      simp [NT, nodeT, hk]
    rw [ex_app hv h1] at hT
    have hst := strip_eq hk (P.n0 (by omega)) (P.em (by omega)) hkk (P.ps (by omega))
    by_cases hl : isLoneN p[a + 1] = true
    · have h4 : p[a + 1].kind = 4 ∧ p[a + 1].kids.length = 0 := by simpa [isLoneN] using hl
      have P4 := ndP (hv.nd (a + 1) h1)
      have hk0 : p[a + 1].kids = [] := List.eq_nil_of_length_eq_zero h4.2
      have hs4 : p[a + 1].s.toList ≠ [58, 58] := fun hs => by
        have hcn := P4.cn h4.1
        unfold conOkB at hcn
        rw [if_pos hs] at hcn
        simp at hcn
        omega
      rw [if_pos hl] at hT
      refine ⟨_, .la p[a + 1].s m (f2 + 1) (cN_ok (P4.cn h4.1) hs4) (map_some ha hst) (map_some h1 (strip_eq h4.1 (P4.n0 (by omega)) rfl hk0 (P4.ps (by omega)))) (by omega) h1 h2 (by omega) ?_⟩
      have hS : exprT NT p (f2 + 1) 0 (a + 1) = p[a + 1].s.toList := by
        rw [ex_at h1 (by simp [isConsN, hs4]), hk0, kF0]
        simp [NT, nodeT, h4.1, hk0]
      rw [hT, hS]
      simp [ET]
    · rw [if_neg hl] at hT
      refine ⟨_, .bi 6 nn (a + 1) m (f2 + 1) (by omega) (fun _ => ⟨rfl, map_some ha hst⟩) (fun h => absurd h (by decide)) (fun _ _ => rfl) (fun h => absurd h (by decide)) (fun _ w hw => ?_) (by omega) h1 (by omega) h2 (by omega) (by rw [hT]; simp [sepOf, ET])⟩
      obtain ⟨s, hs, _⟩ := hw
      rw [List.getElem?_map, List.getElem?_eq_getElem h1, Option.map_some, Option.some.injEq] at hs
      unfold strip at hs
      injection hs with q1 q2 q3 q4 q5 q6
      exact hl (by simp [isLoneN, q1, q5])
  · obtain ⟨m, hkk, h1, h2, h3⟩ := K2 (nk_kids hn 7 2 hk (by decide) (by decide) (by decide))
    obtain ⟨c1, c2⟩ := nl 7 hk (by decide) (by decide) (by decide)
    refine ⟨_, .lt p[a].s m f1 (P.nm (by omega)) (map_some ha (strip_eq hk (P.n0 (by omega)) rfl hkk (P.ps (by omega)))) (by omega) h1 (by omega) h2 (by omega) ?_⟩
    rw [hU c1, c2, hkk, kF2]
    simp [NT, nodeT, hk, ET]
  · obtain ⟨m, hkk, h1, h2, h3⟩ := K2 (nk_kids hn 8 2 hk (by decide) (by decide) (by decide))
    have hf5 := hv.fst a ha
    unfold rfB at hf5
    rw [if_pos hk] at hf5
    have hq5 : p[a + 1].kind = 5 := by simpa [hkk, firstNK, List.getElem?_eq_getElem h1] using hf5
    have hn5 := hv.nd (a + 1) h1
    have P5 := ndP hn5
    obtain ⟨x, hx⟩ := List.length_eq_one_iff.1 (nk_kids hn5 5 1 hq5 (by decide) (by decide) (by decide))
    obtain ⟨e1, e2, _⟩ := end_1 hv.pre (a := a + 1) (by simpa using h1) (x := x) (by simp [hx])
    subst e1
    have e2' : a + 1 + 1 < p.length := by simpa using e2
    obtain ⟨f2, rfl⟩ : ∃ f2, f1 = f2 + 1 := ⟨f1 - 1, by omega⟩
    refine ⟨_, .rc p[a].s p[a + 1].s m (f2 + 1) f2 (P.nm (by omega)) (P5.nm (by omega)) (map_some ha (strip_eq hk (P.n0 (by omega)) rfl hkk (P.ps (by omega)))) (map_some h1 (strip_eq hq5 (P5.n0 (by omega)) rfl hx (P5.ps (by omega)))) (by omega) (by omega) e2' (by omega) h2 (by omega) ?_⟩
    rw [hU (ncons hk (by decide)), show modeN p[a] = 2 from by simp [modeN, isConsN, hk], hkk, kF2, ex_rec h1 hq5 hx]
    simp [NT, nodeT, hk, ET]
  · have hl3 := nk_kids hn 9 3 hk (by decide) (by decide) (by decide)
    obtain ⟨c1, c2⟩ := nl 9 hk (by decide) (by decide) (by decide)
    obtain ⟨x, y, z, hxy⟩ : ∃ x y z, p[a].kids = [x, y, z] := by
      match h : p[a].kids, hl3 with
      | [x, y, z], _ => exact ⟨x, y, z, rfl⟩
    obtain ⟨m, n, e1, e2, e3, g1, g2, g3, _, _, _, g4, g5, _⟩ := end_3 hv.pre hal (x := x) (y := y) (z := z) (by rw [hgk, hxy])
    subst e1 e2 e3
    have g1' : a + 1 < p.length := by simpa using g1
    have g2' : m < p.length := by simpa using g2
    have g3' : n < p.length := by simpa using g3
    refine ⟨_, .ite m n f1 (map_some ha (strip_eq hk (P.n0 (by omega)) (P.em (by omega)) hxy (P.ps (by omega)))) (by omega) g1' (by omega) g2' (by omega) g3' (by omega) ?_⟩
    rw [hU c1, c2, hxy, kF3]
    simp [NT, nodeT, hk, ET]
  · obtain ⟨m, hkk, h1, h2, h3⟩ := K2 (nk_kids hn 10 2 hk (by decide) (by decide) (by decide))
    obtain ⟨c1, c2⟩ := nl 10 hk (by decide) (by decide) (by decide)
    refine ⟨_, .bi 10 p[a].s (a + 1) m f1 (.inr (.inr (.inl ⟨rfl, P.pr hk⟩))) (fun _ => ⟨rfl, map_some ha (strip_eq hk (P.n0 (by omega)) rfl hkk (P.ps (by omega)))⟩) (fun h => absurd h (by decide)) (fun h => absurd rfl h) (fun h => absurd h (by decide)) (fun h => absurd h (by decide)) (by omega) h1 (by omega) h2 (by omega) ?_⟩
    rw [hU c1, c2, hkk, kF2]
    simp [NT, nodeT, hk, ET, sepOf]
  · obtain ⟨m, hkk, h1, h2, h3⟩ := K2 (nk_kids hn 11 2 hk (by decide) (by decide) (by decide))
    obtain ⟨c1, c2⟩ := nl 11 hk (by decide) (by decide) (by decide)
    refine ⟨_, .bi 11 nn (a + 1) m f1 (by omega) (fun _ => ⟨rfl, map_some ha (strip_eq hk (P.n0 (by omega)) (P.em (by omega)) hkk (P.ps (by omega)))⟩) (fun h => absurd h (by decide)) (fun _ _ => rfl) (fun h => absurd h (by decide)) (fun h => absurd h (by decide)) (by omega) h1 (by omega) h2 (by omega) ?_⟩
    rw [hU c1, c2, hkk, kF2]
    simp [NT, nodeT, hk, ET, sepOf]
  · have hk0 := k0 (nk_kids hn 12 0 hk (by decide) (by decide) (by decide))
    obtain ⟨c1, c2⟩ := nl 12 hk (by decide) (by decide) (by decide)
    refine ⟨_, .unit (map_some ha (strip_eq hk (P.n0 (by omega)) (P.em (by omega)) hk0 (P.ps (by omega)))) ?_⟩
    rw [hU c1, hk0, kF0]; simp [NT, nodeT, hk]
  · obtain ⟨c1, c2⟩ := nl 13 hk (by decide) (by decide) (by decide)
    have hpp : p[a].kids.length = p[a].pats.length + 1 ∧ 0 < p[a].pats.length ∧ ∀ q ∈ p[a].pats, patOkB q = true := by
      have h := hn
      simp only [isNodeB, Bool.and_eq_true] at h
      obtain ⟨_, _, _, h4, h5⟩ := h
      unfold rkB at h4
      unfold rpB at h5
      rw [if_pos hk] at h5
      rw [hk] at h4
      simp at h4
      simp only [Bool.and_eq_true, decide_eq_true_eq, List.all_eq_true] at h5
      exact ⟨by omega, by omega, h5.2⟩
    obtain ⟨l1, l2, l3⟩ := hpp
    obtain ⟨x, k, ks, hxy⟩ : ∃ x k ks, p[a].kids = x :: k :: ks := by
      match h : p[a].kids with
      | [] => rw [h] at l1; simp at l1
      | [x] => rw [h] at l1; simp only [List.length_cons, List.length_nil] at l1; omega
      | x :: k :: ks => exact ⟨x, k, ks, rfl⟩
    obtain ⟨q, qs, hqq⟩ : ∃ q qs, p[a].pats = q :: qs := by
      match h : p[a].pats with
      | [] => rw [h] at l2; simp at l2
      | q :: qs => exact ⟨q, qs, rfl⟩
    have hx : x = ((a + 1 : Nat) : Int) ∧ a + 1 < p.length := by
      obtain ⟨e, hs, _, _⟩ := span_at hv.pre a hal
      rw [hgk, hxy] at hs
      cases hs with
      | cons _ m _ _ hl h1 h2 => exact ⟨rfl, by simpa using hl⟩
    obtain ⟨rfl, h1⟩ := hx
    rw [hxy, hqq] at l1
    rw [hqq] at l3
    have hlen : ks.length = qs.length := by simp at l1; omega
    refine ⟨_, .mt q qs k ks f1 (map_some ha (strip_eq hk (P.n0 (by omega)) (P.em (by omega)) hxy hqq)) l3 hlen.symm (by omega) h1 (by omega) (by omega) ?_⟩
    have hA := armX_eq (ET p f1) (q :: qs) (k :: ks) [32, 119, 105, 116, 104, 32] [[40, 109, 97, 116, 99, 104, 32]] (by simp [hlen])
    rw [hU c1, c2, hxy, kF, kF_fun, nt13 hk, hqq]
    have e1 : (([40, 109, 97, 116, 99, 104, 32] :: armsT pTxt [32, 119, 105, 116, 104, 32] (q :: qs)) ++ [[32, 101, 110, 100, 41]]) = [[40, 109, 97, 116, 99, 104, 32]] ++ (armsT pTxt [32, 119, 105, 116, 104, 32] (q :: qs) ++ [[32, 101, 110, 100, 41]]) := by simp
    rw [e1]
    have hA' : (([[40, 109, 97, 116, 99, 104, 32]] ++ (armsT pTxt [32, 119, 105, 116, 104, 32] (q :: qs) ++ [[32, 101, 110, 100, 41]]))[0 + 1]?.getD []) ++ kF (fun _ => exprT NT p f1 0) ([[40, 109, 97, 116, 99, 104, 32]] ++ (armsT pTxt [32, 119, 105, 116, 104, 32] (q :: qs) ++ [[32, 101, 110, 100, 41]])) (0 + 1) 0 (k :: ks) = armX (ET p f1) [32, 119, 105, 116, 104, 32] (q :: qs) (k :: ks) := hA
    rw [hA']
    simp [ET]
  · obtain ⟨hkk, h1⟩ := K1 (nk_kids hn 14 1 hk (by decide) (by decide) (by decide))
    obtain ⟨c1, c2⟩ := nl 14 hk (by decide) (by decide) (by decide)
    refine ⟨_, .ra f1 (map_some ha (strip_eq hk (P.n0 (by omega)) (P.em (by omega)) hkk (P.ps (by omega)))) (by omega) h1 (by omega) ?_⟩
    rw [hU c1, c2, hkk, kF1]
    simp [NT, nodeT, hk, ET]
  · obtain ⟨m, hkk, h1, h2, h3⟩ := K2 (nk_kids hn 15 2 hk (by decide) (by decide) (by decide))
    obtain ⟨c1, c2⟩ := nl 15 hk (by decide) (by decide) (by decide)
    refine ⟨_, .ty p[a].s m f1 (P.nm (by omega)) (map_some ha (strip_eq hk (P.n0 (by omega)) rfl hkk (P.ps (by omega)))) (by omega) h1 (by omega) h2 (by omega) ?_⟩
    rw [hU c1, c2, hkk, kF2]
    simp [NT, nodeT, hk, ET]
  · obtain ⟨hkk, h1⟩ := K1 (nk_kids hn 16 1 hk (by decide) (by decide) (by decide))
    obtain ⟨c1, c2⟩ := nl 16 hk (by decide) (by decide) (by decide)
    refine ⟨_, .rf f1 (map_some ha (strip_eq hk (P.n0 (by omega)) (P.em (by omega)) hkk (P.ps (by omega)))) (by omega) h1 (by omega) ?_⟩
    rw [hU c1, c2, hkk, kF1]
    simp [NT, nodeT, hk, ET]
  · obtain ⟨hkk, h1⟩ := K1 (nk_kids hn 17 1 hk (by decide) (by decide) (by decide))
    obtain ⟨c1, c2⟩ := nl 17 hk (by decide) (by decide) (by decide)
    refine ⟨_, .ge f1 (map_some ha (strip_eq hk (P.n0 (by omega)) (P.em (by omega)) hkk (P.ps (by omega)))) (by omega) h1 (by omega) ?_⟩
    rw [hU c1, c2, hkk, kF1]
    simp [NT, nodeT, hk, ET]
  · obtain ⟨m, hkk, h1, h2, h3⟩ := K2 (nk_kids hn 18 2 hk (by decide) (by decide) (by decide))
    obtain ⟨c1, c2⟩ := nl 18 hk (by decide) (by decide) (by decide)
    refine ⟨_, .bi 18 nn (a + 1) m f1 (by omega) (fun _ => ⟨rfl, map_some ha (strip_eq hk (P.n0 (by omega)) (P.em (by omega)) hkk (P.ps (by omega)))⟩) (fun h => absurd h (by decide)) (fun _ _ => rfl) (fun h => absurd h (by decide)) (fun h => absurd h (by decide)) (by omega) h1 (by omega) h2 (by omega) ?_⟩
    rw [hU c1, c2, hkk, kF2]
    simp [NT, nodeT, hk, ET, sepOf]
  · obtain ⟨m, hkk, h1, h2, h3⟩ := K2 (nk_kids hn 19 2 hk (by decide) (by decide) (by decide))
    obtain ⟨c1, c2⟩ := nl 19 hk (by decide) (by decide) (by decide)
    refine ⟨_, .bi 19 nn (a + 1) m f1 (by omega) (fun _ => ⟨rfl, map_some ha (strip_eq hk (P.n0 (by omega)) (P.em (by omega)) hkk (P.ps (by omega)))⟩) (fun h => absurd h (by decide)) (fun _ _ => rfl) (fun h => absurd h (by decide)) (fun h => absurd h (by decide)) (by omega) h1 (by omega) h2 (by omega) ?_⟩
    rw [hU c1, c2, hkk, kF2]
    simp [NT, nodeT, hk, ET, sepOf]
end Go.Proofs.YtaibgnfjjbncpaaGreat
namespace Go.Proofs.YtaibgnfjjbncpaaGreat
set_option linter.unusedVariables false
set_option maxRecDepth 100000
open Go.RowKit

def kwc (w : List UInt8) : Tag := if w = [102, 117, 110] then .fn else if w = [108, 101, 116] then .lt else if w = [105, 102] then .ite else if w = [109, 97, 116, 99, 104] then .mt else if w = [114, 97, 105, 115, 101] then .ra else if w = [116, 114, 121] then .ty else if w = [114, 101, 102] then .rf else if w = [33] then .ge else .grp
def nd (c : UInt8) : Bool := !dl c
def cl (t : List UInt8) : Tag := match t with
  | [] => .leaf
  | c :: u => if c = 34 then .str else if c = 40 then (match u with
    | [] => .leaf
    | d :: _ => if d = 41 then .unit else if d = 40 ∨ d = 34 then .grp else kwc (u.takeWhile nd)) else .leaf
theorem tw {w : List UInt8} (h : Wd w) {c : UInt8} (hc : dl c = true) (t : List UInt8) : (w ++ c :: t).takeWhile nd = w := by
  induction w with
  | nil => simp [nd, hc]
  | cons d w ih =>
    have hd := h d (by simp)
    simp only [List.cons_append, List.takeWhile_cons, nd, hd, Bool.not_false, if_true]
    rw [ih (fun x hx => h x (by simp [hx]))]
/-- How an expression may begin. -/
structure Okc (c : UInt8) : Prop where
  n41 : c ≠ 41
  n58 : c ≠ 58
  op : c ≠ 43 ∧ c ≠ 45 ∧ c ≠ 42 ∧ c ≠ 47 ∧ c ≠ 37 ∧ c ≠ 94 ∧ c ≠ 61 ∧ c ≠ 60
  d : dl c = false
theorem okc_of {c : UInt8} (h : (97 ≤ c.toNat ∧ c.toNat ≤ 122) ∨ (65 ≤ c.toNat ∧ c.toNat ≤ 91) ∨ (48 ≤ c.toNat ∧ c.toNat ≤ 57) ∨ c = 40 ∨ c = 34) : Okc c := by
  refine ⟨?_, ?_, ⟨?_, ?_, ?_, ?_, ?_, ?_, ?_, ?_⟩, ?_⟩
  case refine_11 =>
    unfold dl
    simp only [Bool.or_eq_false_iff, beq_eq_false_iff_ne, ne_eq]
    refine ⟨⟨⟨?_, ?_⟩, ?_⟩, ?_⟩ <;> (rintro rfl; simp at h)
  all_goals (rintro rfl; simp at h)
theorem name_kwc {s : ByteArray} (h : nameB s = true) : kwc s.toList = .grp := by
  have hk : kwB s = false := by
    unfold nameB at h
    simp only [Bool.and_eq_true, Bool.not_eq_true'] at h
    exact h.2.2
  obtain ⟨c, t, e, h1, h2⟩ := name_low h
  have ne : ∀ x ∈ kws, s.toList ≠ x := fun x hx e => by
    unfold kwB at hk
    rw [List.any_eq_false] at hk
    exact hk x hx (by rw [e]; simp)
  unfold kwc
  rw [if_neg (ne _ (by decide)), if_neg (ne _ (by decide)), if_neg (ne _ (by decide)), if_neg (ne _ (by decide)), if_neg (ne _ (by decide)), if_neg (ne _ (by decide)), if_neg (ne _ (by decide)), if_neg]
  rw [e]
  intro hh
  simp only [List.cons.injEq] at hh
  rw [hh.1] at h1
  simp at h1
theorem name_ne {s : ByteArray} (h : nameB s = true) {x : List UInt8} (hx : x ∈ kws) : s.toList ≠ x := fun e => by
  have hk : kwB s = false := by
    unfold nameB at h
    simp only [Bool.and_eq_true, Bool.not_eq_true'] at h
    exact h.2.2
  unfold kwB at hk
  rw [List.any_eq_false] at hk
  exact hk x hx (by rw [e]; simp)
theorem hd_kwc {w : List UInt8} {c : UInt8} {t : List UInt8} (e : w = c :: t) (h : (48 ≤ c.toNat ∧ c.toNat ≤ 57) ∨ (65 ≤ c.toNat ∧ c.toNat ≤ 91)) : kwc w = .grp := by
  have ne : ∀ d : UInt8, ∀ u, (d.toNat = 33 ∨ 97 ≤ d.toNat) → w ≠ d :: u := fun d u hd hh => by
    rw [e] at hh
    simp only [List.cons.injEq] at hh
    rw [hh.1] at h
    omega
  unfold kwc
  rw [if_neg (ne _ _ (by decide)), if_neg (ne _ _ (by decide)), if_neg (ne _ _ (by decide)), if_neg (ne _ _ (by decide)), if_neg (ne _ _ (by decide)), if_neg (ne _ _ (by decide)), if_neg (ne _ _ (by decide)), if_neg (ne _ _ (by decide))]
theorem con_kwc {s : ByteArray} (h : conW s) : kwc s.toList = .grp := by
  rcases h with h | h | h | h
  · rw [h]; rfl
  · rw [h]; rfl
  · rw [h]; rfl
  · obtain ⟨⟨c, t, e, h1, h2⟩, _⟩ := con_up h
    exact hd_kwc e (.inr ⟨h1, by omega⟩)
theorem con_okc {s : ByteArray} (h : conW s) : ∃ c t, s.toList = c :: t ∧ Okc c ∧ c ≠ 40 ∧ c ≠ 34 := by
  rcases h with h | h | h | h
  · exact ⟨_, _, h, okc_of (by decide), by decide, by decide⟩
  · exact ⟨_, _, h, okc_of (by decide), by decide, by decide⟩
  · exact ⟨_, _, h, okc_of (by decide), by decide, by decide⟩
  · obtain ⟨⟨c, t, e, h1, h2⟩, _⟩ := con_up h
    exact ⟨c, t, e, okc_of (.inr (.inl ⟨h1, by omega⟩)), by rintro rfl; simp at h1, by rintro rfl; simp at h1⟩
theorem leafE_wd {x : Nd} {w : List UInt8} (h : leafE x w) : Wd w ∧ kwc w = .grp ∧ ∃ c t, w = c :: t ∧ Okc c ∧ c ≠ 40 ∧ c ≠ 34 := by
  rcases h with ⟨n, _, rfl, h1, h2⟩ | ⟨s, _, rfl, h⟩ | ⟨s, _, rfl, h⟩
  · obtain ⟨c, t, e, h3, hw⟩ := num_hd n ⟨by omega, h2⟩
    have h4 : 48 ≤ c.toNat ∧ c.toNat ≤ 57 := by
      rcases h3 with h3 | h3
      · exact h3
      · omega
    exact ⟨hw, hd_kwc e (.inl h4), c, t, e, okc_of (.inr (.inr (.inl h4))), by rintro rfl; simp at h4, by rintro rfl; simp at h4⟩
  · obtain ⟨c, t, e, h1, h2⟩ := name_low h
    exact ⟨name_wd h, name_kwc h, c, t, e, okc_of (.inl ⟨h1, h2⟩), by rintro rfl; simp at h1, by rintro rfl; simp at h1⟩
  · obtain ⟨c, t, e, h1, h2, h3⟩ := con_okc h
    exact ⟨conW_wd h, con_kwc h, c, t, e, h1, h2, h3⟩
theorem leafE_inj {x y : Nd} {w : List UInt8} (h : leafE x w) (g : leafE y w) : strip x = strip y := by
  rcases h with ⟨n, e, h1, h2⟩ | ⟨s, e, h1, h2⟩ | ⟨s, e, h1, h2⟩ <;>
  rcases g with ⟨m, d, g1, g2⟩ | ⟨u, d, g1, g2⟩ | ⟨u, d, g1, g2⟩ <;>
  rw [e, d]
  · rw [numL_inj ⟨by omega, h2.2⟩ ⟨by omega, g2.2⟩ (h1.symm.trans g1)]
  · have a := wc_num n ⟨by omega, h2.2⟩
    have b := wc_name g2
    rw [← h1, g1, b] at a
    exact absurd a (by decide)
  · have a := wc_num n ⟨by omega, h2.2⟩
    have b := wc_con g2
    rw [← h1, g1, b] at a
    exact absurd a (by decide)
  · have a := wc_num m ⟨by omega, g2.2⟩
    have b := wc_name h2
    rw [← g1, h1, b] at a
    exact absurd a (by decide)
  · rw [toL_inj (h1.symm.trans g1)]
  · have a := wc_name h2
    have b := wc_con g2
    rw [← h1, g1, b] at a
    exact absurd a (by decide)
  · have a := wc_num m ⟨by omega, g2.2⟩
    have b := wc_con h2
    rw [← g1, h1, b] at a
    exact absurd a (by decide)
  · have a := wc_name g2
    have b := wc_con h2
    rw [← g1, h1, b] at a
    exact absurd a (by decide)
  · rw [toL_inj (h1.symm.trans g1)]
/-- A text begins with '(', with a quote, or is a word. -/
theorem ESh.hd {p : List Nd} {f a : Nat} {T : List UInt8} {τ : Tag} (h : ESh p f a T τ) : (∃ t, T = 40 :: t) ∨ (∃ t, T = 34 :: t) ∨ leafE (p[a]?.getD ⟨0, 0, 0, nn, [], []⟩) T := by
  cases h with
  | leaf w hx ht => rw [ht]; exact .inr (.inr hx)
  | str s hx ht => exact .inr (.inl ⟨_, by rw [ht]; rfl⟩)
  | unit hx ht => exact .inl ⟨_, ht⟩
  | fn s g hs hx hg h1 f1 ht => exact .inl ⟨_, ht⟩
  | lt s m g hs hx hg h1 f1 h2 f2 ht => exact .inl ⟨_, ht⟩
  | rc s s2 m g g2 hs hs2 hx hy hg hg2 h1 f1 h2 f2 ht => exact .inl ⟨_, ht⟩
  | ite m n g hx hg h1 f1 h2 f2 h3 f3 ht => exact .inl ⟨_, ht⟩
  | mt q qs k ks g hx hq hl hg h1 f1 hf ht => exact .inl ⟨_, ht⟩
  | ra g hx hg h1 f1 ht => exact .inl ⟨_, ht⟩
  | rf g hx hg h1 f1 ht => exact .inl ⟨_, ht⟩
  | ge g hx hg h1 f1 ht => exact .inl ⟨_, ht⟩
  | ty s m g hs hx hg h1 f1 h2 f2 ht => exact .inl ⟨_, ht⟩
  | cn s g hs hx hg h1 f1 ht => exact .inl ⟨_, ht⟩
  | bi k s b m g hk hx hy hz hc hl hg h1 f1 h2 f2 ht => exact .inl ⟨_, ht⟩
  | la s m g hs hx hy hg h1 h2 f2 ht => exact .inl ⟨_, ht⟩
theorem et_hd {p : List Nd} (hv : PgV p) {f a : Nat} (ha : a < p.length) (hf : p.length < a + f) : ∃ c t, exprT NT p f 0 a = c :: t ∧ Okc c := by
  obtain ⟨τ, h⟩ := eshape hv f a ha hf
  rcases h.hd with ⟨t, e⟩ | ⟨t, e⟩ | h
  · exact ⟨_, _, e, okc_of (.inr (.inr (.inr (.inl rfl))))⟩
  · exact ⟨_, _, e, okc_of (.inr (.inr (.inr (.inr rfl))))⟩
  · obtain ⟨_, _, c, t, e, h1, _⟩ := leafE_wd h
    exact ⟨c, t, e, h1⟩
theorem sep_hd (k : Int) (s : ByteArray) : ∃ c t, sepOf k s = c :: t ∧ dl c = true := by
  unfold sepOf
  split
  · exact ⟨_, _, rfl, by decide⟩
  · split
    · exact ⟨_, _, rfl, by decide⟩
    · split
      · exact ⟨_, _, rfl, by decide⟩
      · split
        · exact ⟨_, _, rfl, by decide⟩
        · split
          · exact ⟨_, _, rfl, by decide⟩
          · exact ⟨_, _, rfl, by decide⟩
theorem cl_word {w u : List UInt8} {c : UInt8} {t : List UInt8} (hw : Wd w) (e : w = c :: t) (h1 : c ≠ 41) (h2 : c ≠ 40) (h3 : c ≠ 34) {d : UInt8} (hd : dl d = true) : cl (40 :: (w ++ d :: u)) = kwc w := by
  have hq := tw hw hd u
  subst e
  have hcl : cl (40 :: (c :: (t ++ d :: u))) = if c = 41 then .unit else if c = 40 ∨ c = 34 then .grp else kwc ((c :: (t ++ d :: u)).takeWhile nd) := rfl
  simp only [List.cons_append] at hq ⊢
  rw [hcl, if_neg h1, if_neg (fun h => h.elim h2 h3), hq]
theorem cl_of {p : List Nd} (hv : PgV p) {f a : Nat} {T : List UInt8} {τ : Tag} (h : ESh p f a T τ) (r : List UInt8) (hr : Dlm r) : cl (T ++ r) = τ := by
  have kw : ∀ (w : List UInt8) (c : UInt8) (t u : List UInt8), Wd w → w = c :: t → c ≠ 41 → c ≠ 40 → c ≠ 34 → cl (40 :: (w ++ 32 :: u) ++ r) = kwc w := fun w c t u hw e h1 h2 h3 => by
    rw [List.cons_append, List.append_assoc, List.cons_append]
    exact cl_word hw e h1 h2 h3 (by decide)
  have lit : ∀ w : List UInt8, (w.all nd) = true → Wd w := fun w h c hc => by
    have := List.all_eq_true.1 h c hc
    unfold nd at this
    simpa using this
  cases h with
  | leaf w hx ht =>
    obtain ⟨_, _, c, t, e, h1, h2, h3⟩ := leafE_wd hx
    rw [ht, e]
    unfold cl
    simp only [List.cons_append]
    rw [if_neg h3, if_neg h2]
  | str s hx ht => rw [ht]; rfl
  | unit hx ht => rw [ht]; rfl
  | fn s g hs hx hg h1 f1 ht => rw [ht]; exact kw [102, 117, 110] 102 [117, 110] _ (lit _ (by decide)) rfl (by decide) (by decide) (by decide)
  | lt s m g hs hx hg h1 f1 h2 f2 ht => rw [ht]; exact kw [108, 101, 116] 108 [101, 116] _ (lit _ (by decide)) rfl (by decide) (by decide) (by decide)
  | rc s s2 m g g2 hs hs2 hx hy hg hg2 h1 f1 h2 f2 ht => rw [ht]; exact kw [108, 101, 116] 108 [101, 116] _ (lit _ (by decide)) rfl (by decide) (by decide) (by decide)
  | ite m n g hx hg h1 f1 h2 f2 h3 f3 ht => rw [ht]; exact kw [105, 102] 105 [102] _ (lit _ (by decide)) rfl (by decide) (by decide) (by decide)
  | mt q qs k ks g hx hq hl hg h1 f1 hf ht => rw [ht]; exact kw [109, 97, 116, 99, 104] 109 [97, 116, 99, 104] _ (lit _ (by decide)) rfl (by decide) (by decide) (by decide)
  | ra g hx hg h1 f1 ht => rw [ht]; exact kw [114, 97, 105, 115, 101] 114 [97, 105, 115, 101] _ (lit _ (by decide)) rfl (by decide) (by decide) (by decide)
  | rf g hx hg h1 f1 ht => rw [ht]; exact kw [114, 101, 102] 114 [101, 102] _ (lit _ (by decide)) rfl (by decide) (by decide) (by decide)
  | ge g hx hg h1 f1 ht => rw [ht]; exact kw [33] 33 [] _ (lit _ (by decide)) rfl (by decide) (by decide) (by decide)
  | ty s m g hs hx hg h1 f1 h2 f2 ht => rw [ht]; exact kw [116, 114, 121] 116 [114, 121] _ (lit _ (by decide)) rfl (by decide) (by decide) (by decide)
  | cn s g hs hx hg h1 f1 ht =>
    obtain ⟨c, t, e, h3, h4, h5⟩ := con_okc hs
    rw [ht, kw s.toList c t _ (conW_wd hs) e h3.n41 h4 h5, con_kwc hs]
  | bi k s b m g hk hx hy hz hc hl hg h1 f1 h2 f2 ht =>
    obtain ⟨τ2, hb⟩ := eshape hv g b h1 f1
    obtain ⟨d, u, e2, hd⟩ := sep_hd k s
    rw [ht]
    rcases hb.hd with ⟨t, e⟩ | ⟨t, e⟩ | hb
    · rw [show ET p g b = 40 :: t from e]; rfl
    · rw [show ET p g b = 34 :: t from e]; rfl
    · obtain ⟨w1, w2, c, t, e, h3, h4, h5⟩ := leafE_wd hb
      have hw : cl (40 :: (ET p g b ++ d :: (u ++ (ET p g m ++ [41]) ++ r))) = kwc (ET p g b) := cl_word w1 e h3.n41 h4 h5 hd
      have e3 : 40 :: (ET p g b ++ (sepOf k s ++ (ET p g m ++ [41]))) ++ r = 40 :: (ET p g b ++ d :: (u ++ (ET p g m ++ [41]) ++ r)) := by rw [e2]; simp
      rw [e3, hw]
      exact w2
  | la s m g hs hx hy hg h1 h2 f2 ht => rw [ht]; rfl
end Go.Proofs.YtaibgnfjjbncpaaGreat
namespace Go.Proofs.YtaibgnfjjbncpaaGreat
set_option linter.unusedVariables false
set_option maxRecDepth 100000
open Go.RowKit

abbrev KL (p : List Nd) : List (List Int) := p.map Nd.kids
abbrev SL (p : List Nd) : List Nd := p.map strip
abbrev AG (p q : List Nd) (a : Nat) : Prop := Agr (SL p) (SL q) (KL p) (KL q) a
theorem kids_of {p : List Nd} {a : Nat} {k n : Int} {s : ByteArray} {ks : List Int} {ps : List (List PN)} (h : (SL p)[a]? = some ⟨k, 0, n, s, ks, ps⟩) : ∃ h : a < (KL p).length, (KL p)[a] = ks := by
  rw [List.getElem?_map] at h
  cases hh : p[a]? with
  | none => rw [hh] at h; simp at h
  | some x =>
    have ha : a < p.length := (List.getElem?_eq_some_iff.1 hh).1
    rw [hh] at h
    simp only [Option.map_some, Option.some.injEq] at h
    refine ⟨by simpa using ha, ?_⟩
    rw [List.getElem_map]
    have := (List.getElem?_eq_some_iff.1 hh).2
    rw [this]
    exact strip_kids h
theorem ag0 {p q : List Nd} (hv : PgV p) (hw : PgV q) {a : Nat} {k n k' n' : Int} {s s' : ByteArray} {ps ps' : List (List PN)} (hx : (SL p)[a]? = some ⟨k, 0, n, s, [], ps⟩) (hx' : (SL q)[a]? = some ⟨k', 0, n', s', [], ps'⟩) (e : (SL p)[a]? = (SL q)[a]?) : AG p q a := by
  obtain ⟨h1, h2⟩ := kids_of hx
  obtain ⟨g1, g2⟩ := kids_of hx'
  exact .zero e (end_0 hv.pre h1 h2) (end_0 hw.pre g1 g2)
theorem ag1 {p q : List Nd} (hv : PgV p) (hw : PgV q) {a : Nat} {x x' : Int} {k n k' n' : Int} {s s' : ByteArray} {ps ps' : List (List PN)} (hx : (SL p)[a]? = some ⟨k, 0, n, s, [x], ps⟩) (hx' : (SL q)[a]? = some ⟨k', 0, n', s', [x'], ps'⟩) (e : (SL p)[a]? = (SL q)[a]?) (A : AG p q (a + 1)) : AG p q a := by
  obtain ⟨h1, h2⟩ := kids_of hx
  obtain ⟨g1, g2⟩ := kids_of hx'
  obtain ⟨_, _, b1, _⟩ := end_1 hv.pre h1 h2
  obtain ⟨_, _, b2, _⟩ := end_1 hw.pre g1 g2
  exact .one e b1 b2 A
/-- Where the second child lies. -/
theorem sec2 {p : List Nd} (hv : PgV p) {a m : Nat} {x : Int} {k n : Int} {s : ByteArray} {ps : List (List PN)} (hx : (SL p)[a]? = some ⟨k, 0, n, s, [x, (m : Int)], ps⟩) : endN (KL p) (a + 1) = m ∧ endN (KL p) a = endN (KL p) m := by
  obtain ⟨h1, h2⟩ := kids_of hx
  obtain ⟨m', _, b1, _, _, b2, b3, _⟩ := end_2 hv.pre h1 h2
  have : m = m' := by omega
  subst this
  exact ⟨b2, b3⟩
theorem ag2 {p q : List Nd} (hv : PgV p) (hw : PgV q) {a m m' : Nat} {x x' : Int} {k n k' n' : Int} {s s' : ByteArray} {ps ps' : List (List PN)} (hx : (SL p)[a]? = some ⟨k, 0, n, s, [x, (m : Int)], ps⟩) (hx' : (SL q)[a]? = some ⟨k', 0, n', s', [x', (m' : Int)], ps'⟩) (A : AG p q (a + 1)) : m = m' ∧ ((SL p)[a]? = (SL q)[a]? → AG p q m → AG p q a) := by
  obtain ⟨b1, b2⟩ := sec2 hv hx
  obtain ⟨c1, c2⟩ := sec2 hw hx'
  have hm : m = m' := by have := A.e; omega
  subst hm
  exact ⟨rfl, fun e B => .two e A b1 b2 c2 B⟩
/-! ### Separators -/
def opB (c : UInt8) : Bool := c == 43 || c == 45 || c == 42 || c == 47 || c == 37 || c == 94 || c == 61 || c == 60
def scl (t : List UInt8) : Int := match t with
  | [] => 0
  | c :: u => if c = 44 then 11 else if c = 59 then 19 else match u with
    | [] => 0
    | d :: v => if d = 58 then (match v with | [] => 0 | e :: _ => if e = 58 then 4 else 18) else if opB d = true then 10 else 6
theorem prim_hd {s : ByteArray} (h : primB s = true) : Wd s.toList ∧ ∃ c t, s.toList = c :: t ∧ opB c = true := by
  unfold primB at h
  rw [List.any_eq_true] at h
  obtain ⟨x, hx, h⟩ := h
  have e : s.toList = x := by simpa using h
  unfold prims at hx
  simp only [List.mem_cons, List.not_mem_nil, or_false] at hx
  have key : ∀ w : List UInt8, (w.all nd) = true → Wd w := fun w h c hc => by
    have := List.all_eq_true.1 h c hc
    unfold nd at this
    simpa using this
  rcases hx with rfl | rfl | rfl | rfl | rfl | rfl | rfl | rfl | rfl | rfl
  all_goals exact ⟨by rw [e]; exact key _ (by decide), _, _, e, by decide⟩
theorem okc_op {c : UInt8} (h : Okc c) : opB c = false := by
  obtain ⟨_, _, ⟨h1, h2, h3, h4, h5, h6, h7, h8⟩, _⟩ := h
  simp [opB, h1, h2, h3, h4, h5, h6, h7, h8]
theorem scl_of {k : Int} {s : ByteArray} (hk : k = 4 ∨ k = 6 ∨ k = 10 ∧ primB s = true ∨ k = 11 ∨ k = 18 ∨ k = 19) {c : UInt8} {t : List UInt8} (hc : Okc c) : scl (sepOf k s ++ c :: t) = k := by
  rcases hk with rfl | rfl | ⟨rfl, h⟩ | rfl | rfl | rfl
  · rfl
  · have : sepOf 6 s ++ c :: t = 32 :: c :: t := rfl
    rw [this]
    show (if c = 58 then _ else if opB c = true then (10 : Int) else 6) = 6
    rw [if_neg hc.n58, if_neg (by rw [okc_op hc]; simp)]
  · obtain ⟨_, d, u, e, hd⟩ := prim_hd h
    have : sepOf 10 s ++ c :: t = 32 :: d :: (u ++ 32 :: c :: t) := by
      show 32 :: (s.toList ++ [32]) ++ c :: t = _
      rw [e]; simp
    rw [this]
    show (if d = 58 then _ else if opB d = true then (10 : Int) else 6) = 10
    rw [if_neg (by rintro rfl; revert hd; decide), if_pos hd]
  · rfl
  · rfl
  · rfl
theorem sep_inj {k k' : Int} {s s' : ByteArray} (hk : k = 4 ∨ k = 6 ∨ k = 10 ∧ primB s = true ∨ k = 11 ∨ k = 18 ∨ k = 19) (hk' : k' = 4 ∨ k' = 6 ∨ k' = 10 ∧ primB s' = true ∨ k' = 11 ∨ k' = 18 ∨ k' = 19) {c c' : UInt8} {t t' : List UInt8} (hc : Okc c) (hc' : Okc c')
    (h : sepOf k s ++ c :: t = sepOf k' s' ++ c' :: t') : k = k' ∧ (k = 10 → s = s') ∧ c :: t = c' :: t' := by
  have e : k = k' := by rw [← scl_of hk hc (t := t), h, scl_of hk' hc']
  subst e
  refine ⟨rfl, ?_⟩
  by_cases h10 : k = 10
  · subst h10
    have p1 : primB s = true := by rcases hk with h | h | h | h | h | h <;> first | (exact h.2) | (exact absurd h (by decide))
    have p2 : primB s' = true := by rcases hk' with h | h | h | h | h | h <;> first | (exact h.2) | (exact absurd h (by decide))
    have h2 : 32 :: (s.toList ++ [32]) ++ c :: t = 32 :: (s'.toList ++ [32]) ++ c' :: t' := h
    simp only [List.cons_append, List.append_assoc, List.cons.injEq, true_and, List.nil_append] at h2
    obtain ⟨e1, e2⟩ := wd_split _ _ _ _ (prim_hd p1).1 (prim_hd p2).1 (D32 _) (D32 _) h2
    simp only [List.cons.injEq, true_and] at e2
    exact ⟨fun _ => toL_inj e1, by rw [e2.1, e2.2]⟩
  · refine ⟨fun h => absurd h h10, ?_⟩
    have he : sepOf k s = sepOf k s' := by unfold sepOf; simp [h10]
    rw [he] at h
    exact List.append_cancel_left h
theorem sep_dlm (k : Int) (s : ByteArray) (t : List UInt8) : Dlm (sepOf k s ++ t) := by
  obtain ⟨c, u, e, h⟩ := sep_hd k s
  rw [e]
  exact Dlm.cons h
theorem arm_dlm (E : Nat → List UInt8) (qs : List (List PN)) (ks : List Int) : Dlm (armX E [32, 124, 32] qs ks) ∧ Dlm (armX E [32, 119, 105, 116, 104, 32] qs ks) := by
  cases qs <;> cases ks <;> exact ⟨Dlm.cons (by decide), Dlm.cons (by decide)⟩
theorem arm_dlm' (E : Nat → List UInt8) (qs : List (List PN)) (ks : List Int) (r : List UInt8) : Dlm (armX E [32, 124, 32] qs ks ++ r) ∧ Dlm (armX E [32, 119, 105, 116, 104, 32] qs ks ++ r) := by
  cases qs <;> cases ks <;> exact ⟨Dlm.cons (by decide), Dlm.cons (by decide)⟩
end Go.Proofs.YtaibgnfjjbncpaaGreat
namespace Go.Proofs.YtaibgnfjjbncpaaGreat
set_option linter.unusedVariables false
set_option maxRecDepth 100000
open Go.RowKit

def IHx (p q : List Nd) (f : Nat) : Prop := ∀ g, g < f → ∀ (a g' a' : Nat) (r s : List UInt8), a < p.length → a' < q.length → p.length < a + g → q.length < a' + g' → Dlm r → Dlm s → ET p g a ++ r = ET q g' a' ++ s → r = s ∧ (a = a' → AG p q a)
theorem arm_inj {p q : List Nd} (hv : PgV p) (hw : PgV q) {f g g' : Nat} (ih : IHx p q f) (hg : g < f) : ∀ (qs : List (List PN)) (ks : List Int) (qs' : List (List PN)) (ks' : List Int) (c e c' e' : Nat) (d : UInt8) (u r s : List UInt8), d ≠ 101 → Span (KL p) ks c e → Span (KL q) ks' c' e' →
    qs.length = ks.length → qs'.length = ks'.length → (∀ x ∈ qs, patOkB x = true) → (∀ x ∈ qs', patOkB x = true) → p.length < c + g → q.length < c' + g' → Dlm r → Dlm s → armX (ET p g) (32 :: d :: u) qs ks ++ r = armX (ET q g') (32 :: d :: u) qs' ks' ++ s →
    qs = qs' ∧ r = s ∧ (c = c' → ks = ks' ∧ e = e' ∧ ∀ i, c ≤ i → i < e → (SL p)[i]? = (SL q)[i]?) := by
  intro qs
  induction qs with
  | nil =>
    intro ks qs' ks' c e c' e' d u r s hd h1 h2 l1 l2 o1 o2 f1 f2 hr hs h
    obtain rfl : ks = [] := List.eq_nil_of_length_eq_zero (by simpa using l1.symm)
    cases qs' with
    | nil =>
      obtain rfl : ks' = [] := List.eq_nil_of_length_eq_zero (by simpa using l2.symm)
      cases h1
      cases h2
      refine ⟨rfl, by simpa [armX] using h, fun hc => ⟨rfl, hc, fun i g1 g2 => by omega⟩⟩
    | cons x qs' =>
      cases ks' with
      | nil => simp at l2
      | cons k ks' =>
        simp only [armX, List.cons_append, List.cons.injEq, true_and] at h
        exact absurd h.1.symm hd
  | cons x qs ihq =>
    intro ks qs' ks' c e c' e' d u r s hd h1 h2 l1 l2 o1 o2 f1 f2 hr hs h
    cases ks with
    | nil => simp at l1
    | cons k ks =>
      cases qs' with
      | nil =>
        obtain rfl : ks' = [] := List.eq_nil_of_length_eq_zero (by simpa using l2.symm)
        simp only [armX, List.cons_append, List.cons.injEq, true_and] at h
        exact absurd h.1 hd
      | cons x' qs' =>
        cases ks' with
        | nil => simp at l2
        | cons k' ks' =>
          cases h1 with
          | cons _ m _ _ hl s1 s2 =>
            cases h2 with
            | cons _ m' _ _ hl' s1' s2' =>
              have e1 := endN_of hl s1
              have e2 := endN_of hl' s1'
              have g1 := s1.le
              have g2 := s1'.le
              simp only [armX, List.cons_append, List.append_assoc, List.cons.injEq, true_and, Int.toNat_natCast] at h
              have h := List.append_cancel_left h
              obtain ⟨p1, p2⟩ := pTxt_inj (o1 x (by simp)) (o2 x' (by simp)) (D32 _) (D32 _) h
              simp only [List.cons.injEq, true_and] at p2
              obtain ⟨q1, q2⟩ := ih g hg _ g' _ _ _ (by simpa using hl) (by simpa using hl') f1 f2 (arm_dlm' _ _ _ _).1 (arm_dlm' _ _ _ _).1 p2
              obtain ⟨t1, t2, t3⟩ := ihq ks qs' ks' m e m' e' 124 [32] r s (by decide) s2 s2' (by simpa using l1) (by simpa using l2) (fun y hy => o1 y (by simp [hy])) (fun y hy => o2 y (by simp [hy])) (by omega) (by omega) hr hs q1
              refine ⟨by rw [p1, t1], t2, fun hc => ?_⟩
              subst hc
              have A := q2 rfl
              have hm : m = m' := by have := A.e; omega
              obtain ⟨w1, w2, w3⟩ := t3 hm
              refine ⟨by rw [w1], w2, fun i j1 j2 => ?_⟩
              by_cases hi : i < m
              · exact A.at_ i j1 (by rw [e1]; exact hi)
              · exact w3 i (by omega) j2
theorem cn_la {s0 s1 : ByteArray} (hs : conW s0) (u v r s : List UInt8) : 40 :: (s0.toList ++ u) ++ r ≠ 40 :: 40 :: (s1.toList ++ v) ++ s := by
  obtain ⟨c, t, e, _, h1, _⟩ := con_okc hs
  intro h
  rw [e] at h
  simp only [List.cons_append, List.cons.injEq, true_and] at h
  exact h1 h.1
/-- A constructor with its argument is no operator's. -/
theorem cn_bi {p q : List Nd} (hv : PgV p) (hw : PgV q) {s0 s1 : ByteArray} (hs : conW s0) {g a b m g2 : Nat} {k : Int} (h1 : a + 1 < p.length) (f1 : p.length < a + 1 + g) (hk : k = 4 ∨ k = 6 ∨ k = 10 ∧ primB s1 = true ∨ k = 11 ∨ k = 18 ∨ k = 19)
    (hl : k = 6 → ∀ w, ¬ (∃ s, (q.map strip)[b]? = some ⟨4, 0, 0, s, [], []⟩ ∧ w = s.toList)) (h2 : b < q.length) (f2 : q.length < b + g2) (h3 : m < q.length) (f3 : q.length < m + g2) (r s : List UInt8) :
    40 :: (s0.toList ++ 32 :: (ET p g (a + 1) ++ [41])) ++ r ≠ 40 :: (ET q g2 b ++ (sepOf k s1 ++ (ET q g2 m ++ [41]))) ++ s := by
  intro h
  simp only [List.cons_append, List.append_assoc, List.cons.injEq, true_and, List.nil_append] at h
  obtain ⟨c, t, e, oc, n40, n34⟩ := con_okc hs
  obtain ⟨τ, sh⟩ := eshape hw g2 b h2 f2
  rcases sh.hd with ⟨u, e2⟩ | ⟨u, e2⟩ | hb
  · rw [show ET q g2 b = 40 :: u from e2, e] at h
    simp only [List.cons_append, List.cons.injEq] at h
    exact n40 h.1
  · rw [show ET q g2 b = 34 :: u from e2, e] at h
    simp only [List.cons_append, List.cons.injEq] at h
    exact n34 h.1
  · obtain ⟨e3, e4⟩ := wd_split s0.toList (ET q g2 b) _ _ (conW_wd hs) (leafE_wd hb).1 (D32 _) (sep_dlm _ _ _) h
    obtain ⟨c1, t1, ec1, oc1⟩ := et_hd hv h1 f1
    obtain ⟨c2, t2, ec2, oc2⟩ := et_hd hw h3 f3
    have e5 : sepOf 6 nn ++ c1 :: (t1 ++ 41 :: r) = sepOf k s1 ++ c2 :: (t2 ++ 41 :: s) := by
      rw [show ET p g (a + 1) = c1 :: t1 from ec1, show ET q g2 m = c2 :: t2 from ec2] at e4
      simpa [sepOf] using e4
    obtain ⟨e6, _, _⟩ := sep_inj (.inr (.inl rfl)) hk oc1 oc2 e5
    refine hl e6.symm s0.toList ?_
    rw [List.getElem?_eq_getElem h2, Option.getD_some] at hb
    have hE : ET q g2 b = s0.toList := e3.symm
    have hw4 := wc_con hs
    rw [show exprT NT q g2 0 b = s0.toList from hE] at hb
    rcases hb with ⟨n, d, g1, g3⟩ | ⟨u, d, g1, g3⟩ | ⟨u, d, g1, g3⟩
    · rw [g1, wc_num n ⟨by omega, g3.2⟩] at hw4; exact absurd hw4 (by decide)
    · rw [g1, wc_name g3] at hw4; exact absurd hw4 (by decide)
    · exact ⟨u, by rw [List.getElem?_map, List.getElem?_eq_getElem h2, Option.map_some, d], g1⟩
theorem sep_ne (k : Int) (s : ByteArray) : ∃ c t, sepOf k s = c :: t ∧ c ≠ 41 := by
  unfold sepOf
  split
  · exact ⟨_, _, rfl, by decide⟩
  · split
    · exact ⟨_, _, rfl, by decide⟩
    · split
      · exact ⟨_, _, rfl, by decide⟩
      · split
        · exact ⟨_, _, rfl, by decide⟩
        · split
          · exact ⟨_, _, rfl, by decide⟩
          · exact ⟨_, _, rfl, by decide⟩
/-- A constructor alone as a function is no operator's. -/
theorem la_bi {q : List Nd} (hw : PgV q) {s0 s1 : ByteArray} (hs : conW s0) {b g2 : Nat} {k : Int} (hk : k = 4 ∨ k = 6 ∨ k = 10 ∧ primB s1 = true ∨ k = 11 ∨ k = 18 ∨ k = 19) (h2 : b < q.length) (f2 : q.length < b + g2) (v u s r : List UInt8) :
    40 :: 40 :: (s0.toList ++ 41 :: v) ++ r ≠ 40 :: (ET q g2 b ++ (sepOf k s1 ++ u)) ++ s := by
  intro h
  simp only [List.cons_append, List.append_assoc, List.cons.injEq, true_and] at h
  obtain ⟨c, t, e, oc, n40, n34⟩ := con_okc hs
  obtain ⟨τ, sh⟩ := eshape hw g2 b h2 f2
  have hc1 := cl_word (u := v ++ r) (conW_wd hs) e oc.n41 n40 n34 (d := 41) (by decide)
  rw [con_kwc hs] at hc1
  have hc2 := cl_of hw sh (sepOf k s1 ++ (u ++ s)) (sep_dlm _ _ _)
  rw [show exprT NT q g2 0 b ++ (sepOf k s1 ++ (u ++ s)) = 40 :: (s0.toList ++ 41 :: (v ++ r)) from h.symm, hc1] at hc2
  subst hc2
  have key : ∀ (T : List UInt8), ET q g2 b = 40 :: T → s0.toList ++ 41 :: (v ++ r) = T ++ (sepOf k s1 ++ (u ++ s)) := fun T hT => by
    rw [hT] at h
    simp only [List.cons_append, List.cons.injEq, true_and] at h
    exact h
  generalize hT : exprT NT q g2 0 b = T at sh
  cases sh with
  | cn s2 g hs2 hx hg h1 f1 ht =>
    have := key _ (hT.trans ht)
    simp only [List.append_assoc, List.cons_append] at this
    obtain ⟨_, e2⟩ := wd_split _ _ _ _ (conW_wd hs) (conW_wd hs2) (D41 _) (D32 _) this
    simp at e2
  | la s2 m g hs2 hx hy hg h1 h2 f2 ht =>
    have := key _ (hT.trans ht)
    rw [e] at this
    simp only [List.cons_append, List.cons.injEq] at this
    exact n40 this.1
  | bi k2 s2 b2 m g hk2 hx hy hz hc hl hg h1 f1 h2 f2 ht =>
    have := key _ (hT.trans ht)
    simp only [List.append_assoc, List.cons_append] at this
    obtain ⟨τ2, sh2⟩ := eshape hw g b2 h1 f1
    rcases sh2.hd with ⟨w, e2⟩ | ⟨w, e2⟩ | hb
    · rw [show ET q g b2 = 40 :: w from e2, e] at this
      simp only [List.cons_append, List.cons.injEq] at this
      exact n40 this.1
    · rw [show ET q g b2 = 34 :: w from e2, e] at this
      simp only [List.cons_append, List.cons.injEq] at this
      exact n34 this.1
    · obtain ⟨_, e4⟩ := wd_split s0.toList (ET q g b2) _ _ (conW_wd hs) (leafE_wd hb).1 (D41 _) (sep_dlm _ _ _) this
      obtain ⟨d, w, e5, hd⟩ := sep_ne k2 s2
      rw [e5] at e4
      simp only [List.cons_append, List.cons.injEq] at e4
      exact hd e4.1.symm
theorem expr_inj {p q : List Nd} (hv : PgV p) (hw : PgV q) : ∀ f, IHx p q f := by
  intro f
  induction f with
  | zero => intro g hg; omega
  | succ f ihf =>
    intro g hg a g' a' r s ha ha' hf hf' hr hs he
    by_cases hgf : g < f
    · exact ihf g hgf a g' a' r s ha ha' hf hf' hr hs he
    obtain rfl : g = f := by omega
    have ih := ihf
    have AE : ∀ {b : Nat}, AG p q b → endN (p.map Nd.kids) b = endN (q.map Nd.kids) b := fun h => h.e
    have AT : ∀ {b : Nat}, AG p q b → ∀ i, b ≤ i → i < endN (p.map Nd.kids) b → (SL p)[i]? = (SL q)[i]? := fun h => h.at_
    obtain ⟨τ, sh⟩ := eshape hv g a ha hf
    obtain ⟨τ', sh'⟩ := eshape hw g' a' ha' hf'
    have hτ : τ = τ' := by
      rw [← cl_of hv sh r hr, ← cl_of hw sh' s hs]
      exact congrArg cl he
    subst hτ
    have ET0 : ∀ i, ET p g i = exprT NT p g 0 i := fun _ => rfl
    change exprT NT p g 0 a ++ r = exprT NT q g' 0 a' ++ s at he
    generalize hT : exprT NT p g 0 a = T at *
    generalize hT' : exprT NT q g' 0 a' = T' at *
    cases sh with
    | leaf w hx ht =>
      cases sh' with
      | leaf w' hx' ht' =>
        rw [ht, ht'] at he
        obtain ⟨e1, e2⟩ := wd_split _ _ _ _ (leafE_wd hx).1 (leafE_wd hx').1 hr hs he
        refine ⟨e2, fun haa => ?_⟩
        subst haa
        rw [← e1] at hx'
        have := leafE_inj hx hx'
        rw [List.getElem?_eq_getElem ha, Option.getD_some] at this hx
        rw [List.getElem?_eq_getElem ha', Option.getD_some] at this hx'
        have k1 : p[a].kids = [] := by rcases hx with ⟨n, e, _⟩ | ⟨n, e, _⟩ | ⟨n, e, _⟩ <;> exact strip_kids e
        have k2 : q[a].kids = [] := by rcases hx' with ⟨n, e, _⟩ | ⟨n, e, _⟩ | ⟨n, e, _⟩ <;> exact strip_kids e
        have hal : a < (KL p).length := by simpa using ha
        have hal' : a < (KL q).length := by simpa using ha'
        refine .zero ?_ (end_0 hv.pre hal (by rw [List.getElem_map]; exact k1)) (end_0 hw.pre hal' (by rw [List.getElem_map]; exact k2))
        rw [List.getElem?_map, List.getElem?_map, List.getElem?_eq_getElem ha, List.getElem?_eq_getElem ha', Option.map_some, Option.map_some, this]
    | str s0 hx ht =>
      cases sh' with
      | str s1 hx' ht' =>
        rw [ht, ht'] at he
        obtain ⟨e1, e2⟩ := quoteL_inj he
        refine ⟨e2, fun haa => ?_⟩
        subst haa
        exact ag0 hv hw hx hx' (by rw [hx, hx', toL_inj e1])
    | unit hx ht =>
      cases sh' with
      | unit hx' ht' =>
        rw [ht, ht'] at he
        simp only [List.cons_append, List.nil_append, List.cons.injEq, true_and] at he
        refine ⟨he, fun haa => ?_⟩
        subst haa
        exact ag0 hv hw hx hx' (by rw [hx, hx'])
    | fn s0 g1 hs0 hx hg1 h1 f1 ht =>
      cases sh' with
      | fn s1 g2 hs1 hx' hg2 h1' f1' ht' =>
        rw [ht, ht'] at he
        simp only [List.cons_append, List.append_assoc, List.cons.injEq, true_and, List.nil_append] at he
        obtain ⟨e1, e2⟩ := wd_split _ _ _ _ (name_wd hs0) (name_wd hs1) (D32 _) (D32 _) he
        simp only [List.cons.injEq, true_and] at e2
        obtain ⟨e3, e4⟩ := ih g1 hg1 _ _ _ _ _ h1 h1' f1 f1' (D41 _) (D41 _) e2
        simp only [List.cons.injEq, true_and] at e3
        refine ⟨e3, fun haa => ?_⟩
        subst haa
        exact ag1 hv hw hx hx' (by rw [hx, hx', toL_inj e1]) (e4 rfl)
    | ra g1 hx hg1 h1 f1 ht =>
      cases sh' with
      | ra g2 hx' hg2 h1' f1' ht' =>
        rw [ht, ht'] at he
        simp only [List.cons_append, List.append_assoc, List.cons.injEq, true_and, List.nil_append] at he
        obtain ⟨e3, e4⟩ := ih g1 hg1 _ _ _ _ _ h1 h1' f1 f1' (D41 _) (D41 _) he
        simp only [List.cons.injEq, true_and] at e3
        refine ⟨e3, fun haa => ?_⟩
        subst haa
        exact ag1 hv hw hx hx' (by rw [hx, hx']) (e4 rfl)
    | rf g1 hx hg1 h1 f1 ht =>
      cases sh' with
      | rf g2 hx' hg2 h1' f1' ht' =>
        rw [ht, ht'] at he
        simp only [List.cons_append, List.append_assoc, List.cons.injEq, true_and, List.nil_append] at he
        obtain ⟨e3, e4⟩ := ih g1 hg1 _ _ _ _ _ h1 h1' f1 f1' (D41 _) (D41 _) he
        simp only [List.cons.injEq, true_and] at e3
        refine ⟨e3, fun haa => ?_⟩
        subst haa
        exact ag1 hv hw hx hx' (by rw [hx, hx']) (e4 rfl)
    | ge g1 hx hg1 h1 f1 ht =>
      cases sh' with
      | ge g2 hx' hg2 h1' f1' ht' =>
        rw [ht, ht'] at he
        simp only [List.cons_append, List.append_assoc, List.cons.injEq, true_and, List.nil_append] at he
        obtain ⟨e3, e4⟩ := ih g1 hg1 _ _ _ _ _ h1 h1' f1 f1' (D41 _) (D41 _) he
        simp only [List.cons.injEq, true_and] at e3
        refine ⟨e3, fun haa => ?_⟩
        subst haa
        exact ag1 hv hw hx hx' (by rw [hx, hx']) (e4 rfl)
    | lt s0 m g1 hs0 hx hg1 h1 f1 h2 f2 ht =>
      cases sh' with
      | lt s1 m' g2 hs1 hx' hg2 h1' f1' h2' f2' ht' =>
        rw [ht, ht'] at he
        simp only [List.cons_append, List.append_assoc, List.cons.injEq, true_and, List.nil_append] at he
        obtain ⟨e1, e2⟩ := wd_split _ _ _ _ (name_wd hs0) (name_wd hs1) (D32 _) (D32 _) he
        simp only [List.cons.injEq, true_and] at e2
        obtain ⟨e3, e4⟩ := ih g1 hg1 _ _ _ _ _ h1 h1' f1 f1' (D32 _) (D32 _) e2
        simp only [List.cons.injEq, true_and] at e3
        obtain ⟨e5, e6⟩ := ih g1 hg1 _ _ _ _ _ h2 h2' f2 f2' (D41 _) (D41 _) e3
        simp only [List.cons.injEq, true_and] at e5
        refine ⟨e5, fun haa => ?_⟩
        subst haa
        obtain ⟨hm, A⟩ := ag2 hv hw hx hx' (e4 rfl)
        subst hm
        exact A (by rw [hx, hx', toL_inj e1]) (e6 rfl)
      | rc s1 t1 m' g2 g3 hs1 ht1 hx' hy' hg2 hg3 h1' f1' h2' f2' ht' =>
        rw [ht, ht'] at he
        simp only [List.cons_append, List.append_assoc, List.cons.injEq, true_and, List.nil_append] at he
        have lit : Wd [114, 101, 99] := fun c hc => by simp only [List.mem_cons, List.not_mem_nil, or_false] at hc; rcases hc with rfl | rfl | rfl <;> decide
        have he2 : s0.toList ++ 32 :: 61 :: 32 :: _ = [114, 101, 99] ++ 32 :: _ := he
        obtain ⟨e1, _⟩ := wd_split _ _ _ _ (name_wd hs0) lit (D32 _) (D32 _) he2
        exact absurd e1 (name_ne hs0 (by decide))
    | rc s0 t0 m g1 g10 hs0 ht0 hx hy hg1 hg10 h1 f1 h2 f2 ht =>
      cases sh' with
      | lt s1 m' g2 hs1 hx' hg2 h1' f1' h2' f2' ht' =>
        rw [ht, ht'] at he
        simp only [List.cons_append, List.append_assoc, List.cons.injEq, true_and, List.nil_append] at he
        have lit : Wd [114, 101, 99] := fun c hc => by simp only [List.mem_cons, List.not_mem_nil, or_false] at hc; rcases hc with rfl | rfl | rfl <;> decide
        have he2 : s1.toList ++ 32 :: 61 :: 32 :: _ = [114, 101, 99] ++ 32 :: _ := he.symm
        obtain ⟨e1, _⟩ := wd_split _ _ _ _ (name_wd hs1) lit (D32 _) (D32 _) he2
        exact absurd e1 (name_ne hs1 (by decide))
      | rc s1 t1 m' g2 g3 hs1 ht1 hx' hy' hg2 hg3 h1' f1' h2' f2' ht' =>
        rw [ht, ht'] at he
        simp only [List.cons_append, List.append_assoc, List.cons.injEq, true_and, List.nil_append] at he
        obtain ⟨e1, e2⟩ := wd_split _ _ _ _ (name_wd hs0) (name_wd hs1) (D32 _) (D32 _) he
        simp only [List.cons.injEq, true_and] at e2
        obtain ⟨e3, e4⟩ := wd_split _ _ _ _ (name_wd ht0) (name_wd ht1) (D32 _) (D32 _) e2
        simp only [List.cons.injEq, true_and] at e4
        obtain ⟨e5, e6⟩ := ih g10 hg10 _ _ _ _ _ h1 h1' f1 f1' (D32 _) (D32 _) e4
        simp only [List.cons.injEq, true_and] at e5
        obtain ⟨e7, e8⟩ := ih g1 hg1 _ _ _ _ _ h2 h2' f2 f2' (D41 _) (D41 _) e5
        simp only [List.cons.injEq, true_and] at e7
        refine ⟨e7, fun haa => ?_⟩
        subst haa
        have A1 : AG p q (a + 1) := ag1 hv hw hy hy' (by rw [hy, hy', toL_inj e3]) (e6 rfl)
        obtain ⟨hm, A⟩ := ag2 hv hw hx hx' A1
        subst hm
        exact A (by rw [hx, hx', toL_inj e1]) (e8 rfl)
    | ite m n g1 hx hg1 h1 f1 h2 f2 h3 f3 ht =>
      cases sh' with
      | ite m' n' g2 hx' hg2 h1' f1' h2' f2' h3' f3' ht' =>
        rw [ht, ht'] at he
        simp only [List.cons_append, List.append_assoc, List.cons.injEq, true_and, List.nil_append] at he
        obtain ⟨e1, e2⟩ := ih g1 hg1 _ _ _ _ _ h1 h1' f1 f1' (D32 _) (D32 _) he
        simp only [List.cons.injEq, true_and] at e1
        obtain ⟨e3, e4⟩ := ih g1 hg1 _ _ _ _ _ h2 h2' f2 f2' (D32 _) (D32 _) e1
        simp only [List.cons.injEq, true_and] at e3
        obtain ⟨e5, e6⟩ := ih g1 hg1 _ _ _ _ _ h3 h3' f3 f3' (D41 _) (D41 _) e3
        simp only [List.cons.injEq, true_and] at e5
        refine ⟨e5, fun haa => ?_⟩
        subst haa
        obtain ⟨k1, k2⟩ := kids_of hx
        obtain ⟨l1, l2⟩ := kids_of hx'
        obtain ⟨i1, i2, _, b1, b2, _, _, _, b3, b4, b5, b6, b7, b8⟩ := end_3 hv.pre k1 k2
        obtain ⟨j1, j2, _, d1, d2, _, _, _, d3, d4, d5, d6, d7, d8⟩ := end_3 hw.pre l1 l2
        have A1 := e2 rfl
        have z1 : m = m' := by have := AE A1; omega
        subst z1
        have A2 := e4 rfl
        have w1 : i1 = m := by omega
        have w2 : j1 = m := by omega
        subst w1
        subst w2
        have z2 : n = n' := by have := AE A2; omega
        subst z2
        have A3 := e6 rfl
        have w3 : i2 = n := by omega
        have w4 : j2 = n := by omega
        subst w3
        subst w4
        have hst : (SL p)[a]? = (SL q)[a]? := by rw [hx, hx']
        refine ⟨show endN (p.map Nd.kids) a = endN (q.map Nd.kids) a by (have := AE A3; omega), fun i y1 y2 => ?_⟩
        have y2 : i < endN (p.map Nd.kids) a := y2
        by_cases hi : i = a
        · subst hi; exact hst
        · by_cases hi2 : i < j1
          · exact AT A1 i (by omega) (by omega)
          · by_cases hi3 : i < j2
            · exact AT A2 i (by omega) (by omega)
            · exact AT A3 i (by omega) (by omega)
    | ty s0 m g1 hs0 hx hg1 h1 f1 h2 f2 ht =>
      cases sh' with
      | ty s1 m' g2 hs1 hx' hg2 h1' f1' h2' f2' ht' =>
        rw [ht, ht'] at he
        simp only [List.cons_append, List.append_assoc, List.cons.injEq, true_and, List.nil_append] at he
        obtain ⟨e1, e2⟩ := ih g1 hg1 _ _ _ _ _ h1 h1' f1 f1' (D32 _) (D32 _) he
        simp only [List.cons.injEq, true_and] at e1
        obtain ⟨e3, e4⟩ := wd_split _ _ _ _ (name_wd hs0) (name_wd hs1) (D32 _) (D32 _) e1
        simp only [List.cons.injEq, true_and] at e4
        obtain ⟨e5, e6⟩ := ih g1 hg1 _ _ _ _ _ h2 h2' f2 f2' (D32 _) (D32 _) e4
        simp only [List.cons.injEq, true_and] at e5
        refine ⟨e5, fun haa => ?_⟩
        subst haa
        obtain ⟨hm, A⟩ := ag2 hv hw hx hx' (e2 rfl)
        subst hm
        exact A (by rw [hx, hx', toL_inj e3]) (e6 rfl)
    | mt q0 qs k ks g1 hx hq hl hg1 h1 f1 hff ht =>
      cases sh' with
      | mt q1 qs' k' ks' g2 hx' hq' hl' hg2 h1' f1' hff' ht' =>
        rw [ht, ht'] at he
        simp only [List.cons_append, List.append_assoc, List.cons.injEq, true_and, List.nil_append] at he
        obtain ⟨e1, e2⟩ := ih g1 hg1 _ _ _ _ _ h1 h1' f1 f1' (arm_dlm' _ _ _ _).2 (arm_dlm' _ _ _ _).2 he
        obtain ⟨k1, k2⟩ := kids_of hx
        obtain ⟨l1, l2⟩ := kids_of hx'
        obtain ⟨e, hsp, _, _⟩ := span_at hv.pre a k1
        obtain ⟨e', hsp', _, _⟩ := span_at hw.pre a' l1
        have he1 : endN (p.map Nd.kids) a = e := endN_of k1 hsp
        have he2 : endN (q.map Nd.kids) a' = e' := endN_of l1 hsp'
        rw [k2] at hsp
        rw [l2] at hsp'
        cases hsp with
        | cons _ m _ _ hml s1 s2 =>
          cases hsp' with
          | cons _ m' _ _ hml' s1' s2' =>
            have n1 : endN (p.map Nd.kids) (a + 1) = m := endN_of hml s1
            have n2 : endN (q.map Nd.kids) (a' + 1) = m' := endN_of hml' s1'
            have v1 := s1.le
            have v2 := s1'.le
            obtain ⟨t1, t2, t3⟩ := arm_inj hv hw ih hg1 (q0 :: qs) (k :: ks) (q1 :: qs') (k' :: ks') m e m' e' 119 [105, 116, 104, 32] r s (by decide) s2 s2' (by simp [hl]) (by simp [hl']) hq hq' (by omega) (by omega) hr hs e1
            refine ⟨t2, fun haa => ?_⟩
            subst haa
            have A := e2 rfl
            have hm : m = m' := by have := AE A; omega
            obtain ⟨w1, w2, w3⟩ := t3 hm
            have hst : (SL p)[a]? = (SL q)[a]? := by rw [hx, hx', t1, w1]
            refine ⟨show endN (p.map Nd.kids) a = endN (q.map Nd.kids) a by omega, fun i y1 y2 => ?_⟩
            have y2 : i < endN (p.map Nd.kids) a := y2
            by_cases hi : i = a
            · subst hi; exact hst
            · by_cases hi2 : i < m
              · exact AT A i (by omega) (by omega)
              · exact w3 i (by omega) (by omega)
    | cn s0 g1 hs0 hx hg1 h1 f1 ht =>
      cases sh' with
      | cn s1 g2 hs1 hx' hg2 h1' f1' ht' =>
        rw [ht, ht'] at he
        simp only [List.cons_append, List.append_assoc, List.cons.injEq, true_and, List.nil_append] at he
        obtain ⟨e1, e2⟩ := wd_split _ _ _ _ (conW_wd hs0) (conW_wd hs1) (D32 _) (D32 _) he
        simp only [List.cons.injEq, true_and] at e2
        obtain ⟨e3, e4⟩ := ih g1 hg1 _ _ _ _ _ h1 h1' f1 f1' (D41 _) (D41 _) e2
        simp only [List.cons.injEq, true_and] at e3
        refine ⟨e3, fun haa => ?_⟩
        subst haa
        exact ag1 hv hw hx hx' (by rw [hx, hx', toL_inj e1]) (e4 rfl)
      | bi k s1 b m g2 hk hx' hy hz hc hl hg2 h1' f1' h2' f2' ht' =>
        rw [ht, ht'] at he
        exact absurd he (cn_bi hv hw hs0 h1 f1 hk hl h1' f1' h2' f2' _ _)
      | la s1 m g2 hs1 hx' hy hg2 h1' h2' f2' ht' =>
        rw [ht, ht'] at he
        exact absurd he (cn_la hs0 _ _ _ _)
    | bi k s0 b m g1 hk hx hy hz hc hl hg1 h1 f1 h2 f2 ht =>
      cases sh' with
      | cn s1 g2 hs1 hx' hg2 h1' f1' ht' =>
        rw [ht, ht'] at he
        exact absurd he.symm (cn_bi hw hv hs1 h1' f1' hk hl h1 f1 h2 f2 _ _)
      | la s1 m' g2 hs1 hx' hy' hg2 h1' h2' f2' ht' =>
        rw [ht, ht'] at he
        exact absurd he.symm (la_bi hv hs1 hk h1 f1 _ _ _ _)
      | bi k' s1 b' m' g2 hk' hx' hy' hz' hc' hl' hg2 h1' f1' h2' f2' ht' =>
        rw [ht, ht'] at he
        simp only [List.cons_append, List.append_assoc, List.cons.injEq, true_and, List.nil_append] at he
        obtain ⟨e1, e2⟩ := ih g1 hg1 _ _ _ _ _ h1 h1' f1 f1' (sep_dlm _ _ _) (sep_dlm _ _ _) he
        obtain ⟨c, t, ec, oc⟩ := et_hd hv h2 f2
        obtain ⟨c', t', ec', oc'⟩ := et_hd hw h2' f2'
        have e1' : sepOf k s0 ++ c :: (t ++ 41 :: r) = sepOf k' s1 ++ c' :: (t' ++ 41 :: s) := by
          have : ET p g1 m = c :: t := ec
          have : ET q g2 m' = c' :: t' := ec'
          simp_all
        obtain ⟨rfl, e3, e4⟩ := sep_inj hk hk' oc oc' e1'
        have e5 : ET p g1 m ++ 41 :: r = ET q g2 m' ++ 41 :: s := by
          rw [show ET p g1 m = c :: t from ec, show ET q g2 m' = c' :: t' from ec']
          exact e4
        obtain ⟨e6, e7⟩ := ih g1 hg1 _ _ _ _ _ h2 h2' f2 f2' (D41 _) (D41 _) e5
        simp only [List.cons.injEq, true_and] at e6
        refine ⟨e6, fun haa => ?_⟩
        subst haa
        have hs : s0 = s1 := by
          by_cases h10 : k = 10
          · exact e3 h10
          · by_cases h4 : k = 4
            · exact toL_inj ((hc h4).trans (hc' h4).symm)
            · rw [hz h10 h4, hz' h10 h4]
        subst hs
        by_cases h4 : k = 4
        · obtain ⟨z1, z2, z3⟩ := hy h4
          obtain ⟨y1, y2, y3⟩ := hy' h4
          subst z1
          subst y1
          have A2 := e2 rfl
          obtain ⟨hm, A⟩ := ag2 hv hw z3 y3 A2
          subst hm
          exact ag1 hv hw z2 y2 (by rw [z2, y2]) (A (by rw [z3, y3]) (e7 rfl))
        · obtain ⟨z1, z2⟩ := hx h4
          obtain ⟨y1, y2⟩ := hx' h4
          subst z1
          subst y1
          obtain ⟨hm, A⟩ := ag2 hv hw z2 y2 (e2 rfl)
          subst hm
          exact A (by rw [z2, y2]) (e7 rfl)
    | la s0 m g1 hs0 hx hy hg1 h1 h2 f2 ht =>
      cases sh' with
      | cn s1 g2 hs1 hx' hg2 h1' f1' ht' =>
        rw [ht, ht'] at he
        exact absurd he.symm (cn_la hs1 _ _ _ _)
      | bi k s1 b m' g2 hk hx' hy' hz hc hl hg2 h1' f1' h2' f2' ht' =>
        rw [ht, ht'] at he
        exact absurd he (la_bi hw hs0 hk h1' f1' _ _ _ _)
      | la s1 m' g2 hs1 hx' hy' hg2 h1' h2' f2' ht' =>
        rw [ht, ht'] at he
        simp only [List.cons_append, List.append_assoc, List.cons.injEq, true_and, List.nil_append] at he
        obtain ⟨e1, e2⟩ := wd_split _ _ _ _ (conW_wd hs0) (conW_wd hs1) (D41 _) (D41 _) he
        simp only [List.cons.injEq, true_and] at e2
        obtain ⟨e3, e4⟩ := ih g1 hg1 _ _ _ _ _ h2 h2' f2 f2' (D41 _) (D41 _) e2
        simp only [List.cons.injEq, true_and] at e3
        refine ⟨e3, fun haa => ?_⟩
        subst haa
        have A1 : AG p q (a + 1) := ag0 hv hw hy hy' (by rw [hy, hy', toL_inj e1])
        obtain ⟨hm, A⟩ := ag2 hv hw hx hx' A1
        subst hm
        exact A (by rw [hx, hx']) (e4 rfl)
end Go.Proofs.YtaibgnfjjbncpaaGreat
namespace Go.Proofs.YtaibgnfjjbncpaaGreat
set_option linter.unusedVariables false
set_option maxRecDepth 100000
open Go.ChangeShapes Go.WideShapes Go.ChangeAt Go.RowKit

theorem pr_ne {l : List TyI} (h : tyOkB l = true) : prTy varL (l.length + 1) l 0 ≠ [] := by
  obtain ⟨_, _, h3⟩ := tyOk_parts h
  have h0 : 0 < l.length := by
    by_cases hc : 0 < l.length
    · exact hc
    · rw [endF_out _ _ _ (.inr (by omega))] at h3; omega
  intro h
  rw [prTy, show (0 : Int).toNat = 0 from rfl, List.getElem?_eq_getElem h0] at h
  simp only at h
  split at h
  · unfold varL at h; split at h <;> simp at h
  · rename_i hn
    split at h
    · exact hn h
    · split at h
      · simp at h
      · split at h <;> simp at h
end Go.Proofs.YtaibgnfjjbncpaaGreat
namespace Go.Proofs.YtaibgnfjjbncpaaGreat
set_option linter.unusedVariables false
set_option maxRecDepth 100000
open Go.ChangeShapes Go.WideShapes Go.ChangeAt Go.RowKit

/-- The text of a constructor, of a type's head, of a type, of types. -/
def conD (c : Cn) : List UInt8 := if c.has = true then c.name.toList ++ [32, 111, 102, 32] ++ prTy varL (c.arg.length + 1) c.arg 0 else c.name.toList
def headP (t : Tp) : List UInt8 := if t.params = 0 then [] else if t.params = 1 then [39, 97, 32] else [40, 39, 97, 44, 32, 39, 98, 41, 32]
def typeH (t : Tp) : List UInt8 := [116, 121, 112, 101, 32] ++ headP t ++ t.name.toList ++ [32, 61, 32]
def typeT (t : Tp) : List UInt8 := typeH t ++ Lib.join (t.cons.map conD) [32, 124, 32] ++ [59, 32]
def prgT (l : List Tp) : List UInt8 := (l.map typeT).flatten
noncomputable def prPgRes (p : Pg) : ByteArray := if pgOkB p = true then ⟨(prgT p.types ++ exprT NT p.nodes (p.nodes.length + 1) 0 0).toArray⟩ else ⟨#[]⟩
theorem prgT_s (l : List Tp) (k : Nat) (h : k < l.length) : prgT (l.take (k + 1)) = prgT (l.take k) ++ typeT l[k] := by
  unfold prgT
  rw [List.take_succ_eq_append_getElem h, List.map_append, List.flatten_append]
  simp
theorem join_s (L : List (List UInt8)) (s : List UInt8) (j : Nat) (h : j < L.length) : Lib.join (L.take (j + 1)) s = (if j = 0 then [] else Lib.join (L.take j) s ++ s) ++ L[j] := by
  cases L with
  | nil => simp at h
  | cons x r =>
    cases j with
    | zero => simp [Lib.join_one]
    | succ j =>
      have hj : j < r.length := by simpa using h
      rw [List.take_succ_cons, List.take_succ_cons, Lib.join_cons, Lib.join_cons, Lib.joinTail_take_succ s r j r[j] (List.getElem?_eq_getElem hj)]
      simp
theorem nm_len {s : ByteArray} (h : nameB s = true ∨ conB s = true) : s.size ≤ 12 := by
  rcases h with h | h
  · unfold nameB wordB lenB at h
    simp only [Bool.and_eq_true, decide_eq_true_eq] at h
    exact h.1.1.2
  · unfold conB wordB lenB at h
    simp only [Bool.and_eq_true, decide_eq_true_eq] at h
    exact h.1.1.2
theorem prTy_top {l : List TyI} (h : tyOkB l = true) : (prTy varL (l.length + 1) l 0).length ≤ 8000 := by
  obtain ⟨h1, h2, h3⟩ := tyOk_parts h
  have := prTy_len l h1 (l.length + 1) 0 (by omega) (by omega)
  omega
theorem conD_len {params : Int} {c : Cn} (h : isConB params c = true) : (conD c).length ≤ 9000 := by
  unfold isConB at h
  simp only [Bool.and_eq_true] at h
  have h1 := nm_len (.inr h.1)
  have h2 : c.name.toList.length = c.name.size := by rw [pr_toList]; rfl
  unfold conD
  split
  · next hh =>
    rw [if_neg (by simp [hh])] at h
    simp only [Bool.and_eq_true] at h
    have := prTy_top h.2.1
    simp only [List.length_append, List.length_cons, List.length_nil]; omega
  · omega
theorem join_le (L : List (List UInt8)) (s : List UInt8) (M : Nat) (hs : s.length ≤ M) (h : ∀ t ∈ L, t.length ≤ M) : (Lib.join L s).length ≤ 2 * M * L.length := by
  cases L with
  | nil => simp [Lib.join_nil]
  | cons x r =>
    rw [Lib.join_cons, List.length_append]
    have h0 := h x (by simp)
    have : (Lib.joinTail s r).length ≤ 2 * M * r.length := by
      have h2 : ∀ t ∈ r, t.length ≤ M := fun t ht => h t (by simp [ht])
      clear h h0
      unfold Lib.joinTail
      induction r with
      | nil => simp
      | cons y r ih =>
        have := ih fun t ht => h2 t (by simp [ht])
        have := h2 y (by simp)
        simp only [List.map_cons, List.flatten_cons, List.length_append, List.length_cons, Nat.mul_succ]
        omega
    rw [List.length_cons, Nat.mul_succ]
    omega
theorem typeH_len {t : Tp} (h : nameB t.name = true) : (typeH t).length ≤ 40 := by
  have h1 := nm_len (.inl h)
  have h2 : t.name.toList.length = t.name.size := by rw [pr_toList]; rfl
  have h3 : (headP t).length ≤ 9 := by unfold headP; split; · simp
                                       · split <;> simp
  unfold typeH
  simp only [List.length_append, List.length_cons, List.length_nil]
  omega
theorem isType_parts {t : Tp} (h : isTypeB t = true) : nameB t.name = true ∧ 0 ≤ t.params ∧ t.params ≤ 2 ∧ 1 ≤ t.cons.length ∧ t.cons.length ≤ 8 ∧ ∀ c ∈ t.cons, isConB t.params c = true := by
  unfold isTypeB at h
  simp only [Bool.and_eq_true, decide_eq_true_eq, List.all_eq_true] at h
  exact ⟨h.1, h.2.1, h.2.2.1, h.2.2.2.1, h.2.2.2.2.1, h.2.2.2.2.2⟩
theorem typeT_len {t : Tp} (h : isTypeB t = true) : (typeT t).length ≤ 200000 := by
  obtain ⟨h1, _, _, _, h5, h6⟩ := isType_parts h
  have h7 := typeH_len h1
  have h8 := join_le (t.cons.map conD) [32, 124, 32] 9000 (by simp) (fun x hx => by
    obtain ⟨c, hc, rfl⟩ := List.mem_map.1 hx
    exact conD_len (h6 c hc))
  rw [List.length_map] at h8
  unfold typeT
  simp only [List.length_append, List.length_cons, List.length_nil]
  omega
theorem prgT_len {l : List Tp} (h : ∀ t ∈ l, isTypeB t = true) : (prgT l).length ≤ 200000 * l.length := by
  induction l with
  | nil => simp [prgT]
  | cons t l ih =>
    have := ih fun t ht => h t (by simp [ht])
    have := typeT_len (h t (by simp))
    unfold prgT at *
    simp only [List.map_cons, List.flatten_cons, List.length_append, List.length_cons, Nat.mul_succ]
    omega
theorem pgV_of {p : Pg} (h : pgOkB p = true) : p.types.length ≤ 8 ∧ (∀ t ∈ p.types, isTypeB t = true) ∧ PgV p.nodes ∧ p.nodes.length ≤ 600 ∧ 0 < p.nodes.length := by
  rw [pg_ok] at h
  simp only [Bool.and_eq_true, decide_eq_true_eq, List.all_eq_true] at h
  obtain ⟨h1, h2, h3, h4⟩ := h
  have h5 := (preB_iff _).1 h3
  simp only [List.length_map] at h5
  refine ⟨h1, h2, ⟨h3, fun i hi => ?_, fun i hi => ?_⟩, h5.2.1, h5.1⟩
  · have := h4 _ (List.getElem_mem hi)
    unfold rightNB at this
    simp only [Bool.and_eq_true] at this
    exact this.1
  · have := h4 _ (List.getElem_mem hi)
    unfold rightNB at this
    simp only [Bool.and_eq_true] at this
    exact this.2
end Go.Proofs.YtaibgnfjjbncpaaGreat
namespace Go.Proofs.YtaibgnfjjbncpaaGreat
set_option linter.unusedVariables false
set_option maxRecDepth 100000
open Go.RowKit

/-- What stands behind a constructor of a type. -/
def Sep (r : List UInt8) : Prop := (∃ t, r = 59 :: t) ∨ (∃ t, r = 32 :: 124 :: t)
theorem Sep.dlm {r : List UInt8} (h : Sep r) : Dlm r := by
  rcases h with ⟨t, rfl⟩ | ⟨t, rfl⟩
  · exact Dlm.cons (by decide)
  · exact Dlm.cons (by decide)
theorem Sep.no {r : List UInt8} (h : Sep r) (t : List UInt8) : r ≠ 32 :: 111 :: t := by
  rcases h with ⟨u, rfl⟩ | ⟨u, rfl⟩
  · intro e; simp at e
  · intro e; simp at e
theorem cn_arg {P : Int} {c : Cn} (h : isConB P c = true) : conB c.name = true ∧ (c.has = false → c.arg = []) ∧ (c.has = true → tyOkB c.arg = true) := by
  unfold isConB at h
  simp only [Bool.and_eq_true] at h
  refine ⟨h.1, fun e => ?_, fun e => ?_⟩
  · have h2 := h.2
    rw [if_pos e] at h2
    exact List.eq_nil_of_length_eq_zero (by simpa using h2)
  · have h2 := h.2
    rw [if_neg (by simp [e])] at h2
    simp only [Bool.and_eq_true] at h2
    exact h2.1
theorem cn_eq {c d : Cn} (h1 : c.name = d.name) (h2 : c.has = d.has) (h3 : c.arg = d.arg) : c = d := by
  cases c; cases d; simp only at h1 h2 h3; rw [h1, h2, h3]
theorem con_inj {P Q : Int} {c d : Cn} (h : isConB P c = true) (g : isConB Q d = true) {r s : List UInt8} (hr : Sep r) (hs : Sep s) (he : conD c ++ r = conD d ++ s) : c = d ∧ r = s := by
  obtain ⟨h1, h2, h3⟩ := cn_arg h
  obtain ⟨g1, g2, g3⟩ := cn_arg g
  have w1 := (con_up h1).2
  have w2 := (con_up g1).2
  unfold conD at he
  cases hc : c.has <;> cases hd : d.has
  · rw [if_neg (by simp [hc]), if_neg (by simp [hd])] at he
    obtain ⟨e1, e2⟩ := wd_split _ _ _ _ w1 w2 hr.dlm hs.dlm he
    exact ⟨cn_eq (toL_inj e1) (by rw [hc, hd]) (by rw [h2 hc, g2 hd]), e2⟩
  · rw [if_neg (by simp [hc]), if_pos hd] at he
    simp only [List.append_assoc, List.cons_append, List.nil_append] at he
    exact absurd (wd_split _ _ _ _ w1 w2 hr.dlm (D32 _) he).2 (hr.no _)
  · rw [if_pos hc, if_neg (by simp [hd])] at he
    simp only [List.append_assoc, List.cons_append, List.nil_append] at he
    exact absurd (wd_split _ _ _ _ w1 w2 (D32 _) hs.dlm he).2.symm (hs.no _)
  · rw [if_pos hc, if_pos hd] at he
    simp only [List.append_assoc, List.cons_append, List.nil_append] at he
    obtain ⟨e1, e2⟩ := wd_split _ _ _ _ w1 w2 (D32 _) (D32 _) he
    simp only [List.cons.injEq, true_and] at e2
    obtain ⟨a1, a2, a3⟩ := tyOk_parts (h3 hc)
    obtain ⟨b1, b2, b3⟩ := tyOk_parts (g3 hd)
    have a3' : endF (c.arg.length + 1) c.arg ((0 : Nat) : Int) = c.arg.length := a3
    have b3' : endF (d.arg.length + 1) d.arg ((0 : Nat) : Int) = d.arg.length := b3
    obtain ⟨e3, e4⟩ := pr_inj a1 b1 (c.arg.length + 1) 0 (d.arg.length + 1) 0 r s (by omega) (by omega) hr.dlm hs.dlm e2
    unfold segT at e3
    rw [a3', b3'] at e3
    exact ⟨cn_eq (toL_inj e1) (by rw [hc, hd]) (by simpa using e3), e4⟩
/-- The constructors of a type behind its first one. -/
def consT : List Cn → List UInt8
  | [] => []
  | c :: r => 32 :: 124 :: 32 :: (conD c ++ consT r)
theorem join_con (c : Cn) (r : List Cn) : Lib.join ((c :: r).map conD) [32, 124, 32] = conD c ++ consT r := by
  rw [List.map_cons, Lib.join_cons]
  congr 1
  induction r with
  | nil => simp [Lib.joinTail, consT]
  | cons d r ih =>
    unfold Lib.joinTail at ih ⊢
    rw [List.map_cons, List.map_cons, List.flatten_cons, ih]
    simp [consT]
theorem consT_sep (l : List Cn) (r : List UInt8) : Sep (consT l ++ 59 :: r) := by
  cases l with
  | nil => exact .inl ⟨_, rfl⟩
  | cons c l => exact .inr ⟨_, rfl⟩
theorem cons_inj {P Q : Int} : ∀ (l l' : List Cn) (r s : List UInt8), (∀ c ∈ l, isConB P c = true) → (∀ c ∈ l', isConB Q c = true) → consT l ++ 59 :: r = consT l' ++ 59 :: s → l = l' ∧ r = s := by
  intro l
  induction l with
  | nil =>
    intro l' r s h g he
    cases l' with
    | nil => simpa [consT] using he
    | cons d l' => simp [consT] at he
  | cons c l ih =>
    intro l' r s h g he
    cases l' with
    | nil => simp [consT] at he
    | cons d l' =>
      simp only [consT, List.cons_append, List.append_assoc, List.cons.injEq, true_and] at he
      obtain ⟨e1, e2⟩ := con_inj (h c (by simp)) (g d (by simp)) (consT_sep _ _) (consT_sep _ _) he
      obtain ⟨e3, e4⟩ := ih l' r s (fun c hc => h c (by simp [hc])) (fun c hc => g c (by simp [hc])) e2
      exact ⟨by rw [e1, e3], e4⟩
theorem tp_eq {t u : Tp} (h1 : t.name = u.name) (h2 : t.params = u.params) (h3 : t.cons = u.cons) : t = u := by
  cases t; cases u; simp only at h1 h2 h3; rw [h1, h2, h3]
theorem head_inj {t u : Tp} (h : isTypeB t = true) (g : isTypeB u = true) {r s : List UInt8} (he : headP t ++ (t.name.toList ++ 32 :: r) = headP u ++ (u.name.toList ++ 32 :: s)) : t.params = u.params ∧ t.name = u.name ∧ r = s := by
  obtain ⟨h1, h2, h3, _⟩ := isType_parts h
  obtain ⟨g1, g2, g3, _⟩ := isType_parts g
  have key : t.params = u.params → t.params = u.params ∧ t.name = u.name ∧ r = s := fun e => by
    have : headP t = headP u := by unfold headP; rw [e]
    rw [this] at he
    obtain ⟨e1, e2⟩ := wd_split _ _ _ _ (name_wd h1) (name_wd g1) (D32 _) (D32 _) (List.append_cancel_left he)
    simp only [List.cons.injEq, true_and] at e2
    exact ⟨e, toL_inj e1, e2⟩
  have k1 : t.params = 0 ∨ t.params = 1 ∨ t.params = 2 := by omega
  have k2 : u.params = 0 ∨ u.params = 1 ∨ u.params = 2 := by omega
  rcases k1 with k1 | k1 | k1 <;> rcases k2 with k2 | k2 | k2
  · exact key (by omega)
  · exact absurd (by simpa [headP, k1, k2] using he) (low_ne h1 39 (by decide) _ _)
  · exact absurd (by simpa [headP, k1, k2] using he) (low_ne h1 40 (by decide) _ _)
  · exact absurd (by simpa [headP, k1, k2] using he.symm) (low_ne g1 39 (by decide) _ _)
  · exact key (by omega)
  · exact absurd he (by simp [headP, k1, k2])
  · exact absurd (by simpa [headP, k1, k2] using he.symm) (low_ne g1 40 (by decide) _ _)
  · exact absurd he (by simp [headP, k1, k2])
  · exact key (by omega)
theorem type_inj {t u : Tp} (h : isTypeB t = true) (g : isTypeB u = true) {r s : List UInt8} (he : typeT t ++ r = typeT u ++ s) : t = u ∧ r = s := by
  obtain ⟨h1, h2, h3, h4, h5, h6⟩ := isType_parts h
  obtain ⟨g1, g2, g3, g4, g5, g6⟩ := isType_parts g
  unfold typeT typeH at he
  obtain ⟨c, l, hc⟩ : ∃ c l, t.cons = c :: l := by
    cases hx : t.cons with
    | nil => rw [hx] at h4; simp at h4
    | cons c l => exact ⟨c, l, rfl⟩
  obtain ⟨d, m, hd⟩ : ∃ c l, u.cons = c :: l := by
    cases hx : u.cons with
    | nil => rw [hx] at g4; simp at g4
    | cons c l => exact ⟨c, l, rfl⟩
  rw [hc] at h6
  rw [hd] at g6
  rw [hc, hd, join_con, join_con] at he
  simp only [List.append_assoc, List.cons_append, List.nil_append, List.cons.injEq, true_and] at he
  obtain ⟨e1, e2, e3⟩ := head_inj h g he
  simp only [List.cons.injEq, true_and] at e3
  obtain ⟨e4, e5⟩ := con_inj (h6 c (by simp)) (g6 d (by simp)) (consT_sep _ _) (consT_sep _ _) e3
  obtain ⟨e6, e7⟩ := cons_inj l m _ _ (fun c hc => h6 c (by simp [hc])) (fun c hc => g6 c (by simp [hc])) e5
  simp only [List.cons.injEq, true_and] at e7
  exact ⟨tp_eq e2 e1 (by rw [hc, hd, e4, e6]), e7⟩
theorem types_inj : ∀ (l l' : List Tp) (r s : List UInt8), (∀ t ∈ l, isTypeB t = true) → (∀ t ∈ l', isTypeB t = true) → (∀ u, r ≠ 116 :: 121 :: 112 :: 101 :: 32 :: u) → (∀ u, s ≠ 116 :: 121 :: 112 :: 101 :: 32 :: u) →
    prgT l ++ r = prgT l' ++ s → l = l' ∧ r = s := by
  intro l
  induction l with
  | nil =>
    intro l' r s h g hr hs he
    cases l' with
    | nil => simpa [prgT] using he
    | cons d l' => exact absurd (by simpa [prgT, typeT, typeH] using he) (hr _)
  | cons c l ih =>
    intro l' r s h g hr hs he
    cases l' with
    | nil => exact absurd (by simpa [prgT, typeT, typeH] using he.symm) (hs _)
    | cons d l' =>
      have he2 : typeT c ++ (prgT l ++ r) = typeT d ++ (prgT l' ++ s) := by simpa [prgT] using he
      obtain ⟨e1, e2⟩ := type_inj (h c (by simp)) (g d (by simp)) he2
      obtain ⟨e3, e4⟩ := ih l' r s (fun c hc => h c (by simp [hc])) (fun c hc => g c (by simp [hc])) hr hs e2
      exact ⟨by rw [e1, e3], e4⟩
theorem et_not {p : List Nd} (hv : PgV p) {f a : Nat} (ha : a < p.length) (hf : p.length < a + f) (u : List UInt8) : exprT NT p f 0 a ≠ 116 :: 121 :: 112 :: 101 :: 32 :: u := by
  intro he
  obtain ⟨τ, h⟩ := eshape hv f a ha hf
  rw [he] at h
  rcases h.hd with ⟨t, e⟩ | ⟨t, e⟩ | h
  · simp at e
  · simp at e
  · have := (leafE_wd h).1 32 (by simp)
    exact absurd this (by decide)
theorem rowM_strip (c : Nat) (x : Nd) : rowM NT c (strip x) = rowM NT c x := rfl
theorem exprT_strip (p : List Nd) : ∀ (f c a : Nat), exprT NT (SL p) f c a = exprT NT p f c a := by
  intro f
  induction f with
  | zero => intro c a; rfl
  | succ f ih =>
    intro c a
    have hf : exprT NT (SL p) f = exprT NT p f := funext fun c => funext fun a => ih c a
    unfold exprT
    rw [hf, List.getElem?_map]
    cases p[a]? <;> rfl
/-- Two right programs have one text only if they differ in nothing but where their nodes stood. -/
theorem prg_inj {p q : Pg} (hp : pgOkB p = true) (hq : pgOkB q = true) : prPgRes p = prPgRes q ↔ p.types = q.types ∧ p.nodes.map strip = q.nodes.map strip := by
  obtain ⟨p8, pt, pv, p6, p0⟩ := pgV_of hp
  obtain ⟨q8, qt, qv, q6, q0⟩ := pgV_of hq
  unfold prPgRes
  rw [if_pos hp, if_pos hq]
  constructor
  · intro he
    have he2 : prgT p.types ++ exprT NT p.nodes (p.nodes.length + 1) 0 0 = prgT q.types ++ exprT NT q.nodes (q.nodes.length + 1) 0 0 := by
      have := congrArg (fun b : ByteArray => b.data.toList) he
      simpa using this
    obtain ⟨e1, e2⟩ := types_inj _ _ _ _ pt qt (et_not pv p0 (by omega)) (et_not qv q0 (by omega)) he2
    refine ⟨e1, ?_⟩
    have h := (expr_inj pv qv (p.nodes.length + 2) (p.nodes.length + 1) (by omega) 0 (q.nodes.length + 1) 0 [] [] p0 q0 (by omega) (by omega) Dlm.nil Dlm.nil (by simpa using e2)).2 rfl
    exact agr_all pv.pre qv.pre (by simp) (by simp) h
  · rintro ⟨e1, e2⟩
    have hl : p.nodes.length = q.nodes.length := by simpa using congrArg List.length e2
    rw [e1, ← exprT_strip p.nodes, ← exprT_strip q.nodes, hl]
    unfold SL
    rw [e2]
end Go.Proofs.YtaibgnfjjbncpaaGreat
