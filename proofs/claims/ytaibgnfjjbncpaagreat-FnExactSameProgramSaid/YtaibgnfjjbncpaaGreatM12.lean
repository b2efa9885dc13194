/- Texts of this proof, merged: QpS. -/
import Derived.Test.YtaibgnfjjbncpaaGreatM9
import Derived.Test.YtaibgnfjjbncpaaGreatM10
import Derived.Test.YtaibgnfjjbncpaaGreatM11
import Derived.Deep.QuietTactic
import Derived.BigQuiet
namespace Go.Proofs.YtaibgnfjjbncpaaGreat
set_option linter.unusedVariables false
set_option maxRecDepth 100000
open Go.ChangeShapes Go.WideShapes Go.ChangeAt Go.RowKit

/-- What is below a node is written in its own way. -/
def skipB (n : Nd) (i : Nat) : Bool := (decide (n.kind = 8) && decide (i = 0)) || isConsN n
def kTx (E : Nat → List UInt8) (n : Nd) (i : Nat) (k : Int) : List UInt8 := if skipB n i = true then [] else E k.toNat
theorem nk_range {n : Nd} (h : isNodeB n = true) : n.kind = 1 ∨ n.kind = 2 ∨ n.kind = 3 ∨ n.kind = 4 ∨ n.kind = 5 ∨ n.kind = 6 ∨ n.kind = 7 ∨ n.kind = 8 ∨ n.kind = 9 ∨ n.kind = 10 ∨ n.kind = 11 ∨ n.kind = 12 ∨ n.kind = 13 ∨ n.kind = 14 ∨ n.kind = 15 ∨ n.kind = 16 ∨ n.kind = 17 ∨ n.kind = 18 ∨ n.kind = 19 := by
  simp only [isNodeB, Bool.and_eq_true] at h
  obtain ⟨_, _, _, h4, _⟩ := h
  unfold rkB at h4
  repeat' split at h4
  all_goals first | omega | (simp at h4)
theorem nk_int {n : Nd} (h : isNodeB n = true) : -9223372036854775808 ≤ n.n ∧ n.n ≤ 9223372036854775807 := by
  simp only [isNodeB, Bool.and_eq_true] at h
  obtain ⟨_, h4, _⟩ := h
  unfold rnB at h4
  split at h4
  · simp at h4; omega
  · simp at h4; omega
theorem nk_kids {n : Nd} (h : isNodeB n = true) (c : Int) (m : Nat) (hk : n.kind = c) (hm : kidsN c = (m : Int)) (h4 : c ≠ 4) (h13 : c ≠ 13) : n.kids.length = m := by
  have hr := nk_range h
  simp only [isNodeB, Bool.and_eq_true] at h
  obtain ⟨_, _, _, h, _⟩ := h
  rw [hk] at h hr
  rcases hr with rfl | rfl | rfl | rfl | rfl | rfl | rfl | rfl | rfl | rfl | rfl | rfl | rfl | rfl | rfl | rfl | rfl | rfl | rfl
  all_goals first
    | exact absurd rfl h4
    | exact absurd rfl h13
    | (simp [kidsN] at hm
       simp [rkB] at h
       first | omega | (rw [h]; simp only [List.length_nil]; omega))
theorem asc_len : ∀ (ks : List Int) (lo hi : Nat), ks.Pairwise (· < ·) → (∀ k ∈ ks, (lo : Int) ≤ k ∧ k < hi) → ks.length ≤ hi - lo := by
  intro ks
  induction ks with
  | nil => intro lo hi _ _; simp
  | cons k ks ih =>
    intro lo hi h h2
    obtain ⟨h3, h4⟩ := List.pairwise_cons.1 h
    have h5 := h2 k (by simp)
    have := ih (k.toNat + 1) hi h4 fun x hx => by have := h3 x hx; have := h2 x (by simp [hx]); omega
    simp only [List.length_cons]
    omega
theorem kids_len {p : List Nd} (hv : PgV p) (a : Nat) (ha : a < p.length) : p[a].kids.length ≤ p.length := by
  obtain ⟨e, hs, _, _⟩ := span_at hv.pre a (by simpa using ha)
  rw [List.getElem_map] at hs
  have := asc_len p[a].kids 0 p.length hs.asc fun k hk => by have := hv.kid ha hk; omega
  omega
theorem skip_no {n : Nd} {c : Int} (h : n.kind = c) (h8 : c ≠ 8) (h4 : c ≠ 4) (i : Nat) : skipB n i = false := by simp [skipB, isConsN, h, h8, h4]
theorem kids1 {ks : List Int} {m : Int} (h : ∀ k ∈ ks, 0 ≤ k ∧ k < m) (hl : ks.length = 1) : ∃ x : Nat, ks = [(x : Int)] ∧ (x : Int) < m := by
  match ks, hl with
  | [x], _ => have := h x (by simp); exact ⟨x.toNat, by rw [Int.toNat_of_nonneg (by omega)], by omega⟩
theorem kids2 {ks : List Int} {m : Int} (h : ∀ k ∈ ks, 0 ≤ k ∧ k < m) (hl : ks.length = 2) : ∃ x y : Nat, ks = [(x : Int), (y : Int)] ∧ (x : Int) < m ∧ (y : Int) < m := by
  match ks, hl with
  | [x, y], _ => have := h x (by simp); have := h y (by simp); exact ⟨x.toNat, y.toNat, by rw [Int.toNat_of_nonneg (by omega), Int.toNat_of_nonneg (by omega)], by omega, by omega⟩
theorem kids3 {ks : List Int} {m : Int} (h : ∀ k ∈ ks, 0 ≤ k ∧ k < m) (hl : ks.length = 3) : ∃ x y z : Nat, ks = [(x : Int), (y : Int), (z : Int)] ∧ (x : Int) < m ∧ (y : Int) < m ∧ (z : Int) < m := by
  match ks, hl with
  | [x, y, z], _ => have := h x (by simp); have := h y (by simp); have := h z (by simp); exact ⟨x.toNat, y.toNat, z.toNat, by rw [Int.toNat_of_nonneg (by omega), Int.toNat_of_nonneg (by omega), Int.toNat_of_nonneg (by omega)], by omega, by omega, by omega⟩
theorem us_eq {us : List ByteArray} {ks : List Int} {G : Nat → Int → List UInt8} (hl : us.length = ks.length) (h : ∀ j (h : j < us.length) (h2 : j < ks.length), us[j] = ⟨(G j ks[j]).toArray⟩) : us = strs (ks.mapIdx G) := by
  apply List.ext_getElem
  · simp [hl, strs]
  · intro j h1 h2
    rw [h j h1 (by omega)]
    simp [strs]
/-- The text as far as a child. -/
def pfx (T K : List (List UInt8)) : Nat → List UInt8
  | 0 => T[0]?.getD [] ++ K[0]?.getD []
  | d + 1 => pfx T K d ++ (T[d + 1]?.getD [] ++ K[d + 1]?.getD [])
theorem kF_pfx (g : Nat → Nat → List UInt8) (T : List (List UInt8)) (ks : List Int) : ∀ d, d < ks.length → T[0]?.getD [] ++ kF g T 0 0 ks = pfx T (ks.map fun k => g 0 k.toNat) d ++ (T[d + 1]?.getD [] ++ kF g T (d + 1) 0 (ks.drop (d + 1))) := by
  intro d
  induction d with
  | zero =>
    intro h
    cases ks with
    | nil => simp at h
    | cons k ks => simp [kF, pfx]
  | succ d ih =>
    intro h
    rw [ih (by omega), List.drop_eq_getElem_cons h, kF, pfx]
    simp only [List.append_assoc, List.getElem?_map, List.getElem?_eq_getElem h, Option.map_some, Option.getD_some]
theorem arms_get (pt : List PN → List UInt8) : ∀ (l : List (List PN)) (b : List UInt8) (i : Nat) (h : i < l.length), (armsT pt b l)[i]? = some ((if i = 0 then b else [32, 124, 32]) ++ pt l[i] ++ [32, 45, 62, 32]) := by
  intro l
  induction l with
  | nil => intro b i h; simp at h
  | cons q qs ih =>
    intro b i h
    rw [armsT]
    cases i with
    | zero => simp
    | succ i =>
      have := ih [32, 124, 32] i (by simpa using h)
      simp only [List.getElem?_cons_succ, List.getElem_cons_succ, this]
      split <;> simp
theorem arms_len (pt : List PN → List UInt8) : ∀ (l : List (List PN)) (b : List UInt8), (armsT pt b l).length = l.length := by
  intro l
  induction l with
  | nil => intro b; rfl
  | cons q qs ih => intro b; rw [armsT, List.length_cons, ih, List.length_cons]
/-- The text ahead of an arm. -/
def outI (T K : List (List UInt8)) (k : Nat) : List UInt8 := if k = 0 then pfx T K 0 ++ [32, 119, 105, 116, 104, 32] else pfx T K k
theorem nt13 {n : Nd} (hk : n.kind = 13) : NT n = ([40, 109, 97, 116, 99, 104, 32] :: armsT pTxt [32, 119, 105, 116, 104, 32] n.pats) ++ [[32, 101, 110, 100, 41]] := by simp [NT, nodeT, hk]
theorem outI_0 {n : Nd} (hk : n.kind = 13) {K : List (List UInt8)} (h : 0 < K.length) : outI (NT n) K 0 = ([40, 109, 97, 116, 99, 104, 32] : List UInt8) ++ K[0] ++ [32, 119, 105, 116, 104, 32] := by
  rw [outI, if_pos rfl, pfx, nt13 hk, List.getElem?_eq_getElem h]; simp
theorem outI_s {n : Nd} (hk : n.kind = 13) {K : List (List UInt8)} {k : Nat} (h : k < n.pats.length) (h2 : k + 1 < K.length) : outI (NT n) K (k + 1) = (if k = 0 then outI (NT n) K k else outI (NT n) K k ++ [32, 124, 32]) ++ pTxt n.pats[k] ++ [32, 45, 62, 32] ++ K[k + 1] := by
  have h3 : (NT n)[k + 1]? = some ((if k = 0 then [32, 119, 105, 116, 104, 32] else [32, 124, 32]) ++ pTxt n.pats[k] ++ [32, 45, 62, 32]) := by
    rw [nt13 hk, List.getElem?_append_left (by simp [arms_len]; omega), List.getElem?_cons_succ, arms_get _ _ _ _ h]
  rw [outI, if_neg (by omega), pfx, h3, List.getElem?_eq_getElem h2]
  unfold outI
  split
  · next h0 => subst h0; simp
  · simp
theorem ex_match {p : List Nd} {f a : Nat} (ha : a < p.length) (hk : p[a].kind = 13) (hl : p[a].kids.length = p[a].pats.length + 1) (h1 : 0 < p[a].pats.length) :
    exprT NT p (f + 1) 0 a = outI (NT p[a]) (p[a].kids.map fun k => exprT NT p f 0 k.toNat) p[a].pats.length ++ [32, 101, 110, 100, 41] := by
  rw [ex_at ha (ncons hk (by decide)), mode0 hk (by decide) (by decide) (by decide), kF_pfx _ _ _ p[a].pats.length (by omega), outI, if_neg (by omega)]
  have : (NT p[a])[p[a].pats.length + 1]? = some [32, 101, 110, 100, 41] := by
    rw [nt13 hk, List.getElem?_append_right (by simp [arms_len])]
    simp [arms_len]
  rw [this, show p[a].kids.drop (p[a].pats.length + 1) = [] from List.drop_eq_nil_of_le (by omega)]
  simp [kF]
theorem outI_le {p : List Nd} {f a : Nat} (ha : a < p.length) (hk : p[a].kind = 13) (hl : p[a].kids.length = p[a].pats.length + 1) {B : Nat} (hB : (exprT NT p (f + 1) 0 a).length ≤ B) (k : Nat) (hkk : k ≤ p[a].pats.length) :
    (outI (NT p[a]) (p[a].kids.map fun k => exprT NT p f 0 k.toNat) k).length ≤ B + 6 := by
  rw [ex_at ha (ncons hk (by decide)), mode0 hk (by decide) (by decide) (by decide), kF_pfx _ _ _ k (by omega), List.length_append] at hB
  unfold outI
  split
  · next h0 => subst h0; simp only [List.length_append, List.length_cons, List.length_nil] at hB ⊢; omega
  · omega
/-- The cells of the row of texts. -/
structure KRow (W : World) (v : Value) (T : List (List UInt8)) : Prop where
  ex : ∃ g cap, v = .slice (some ⟨g, 0, none⟩) T.length cap ∧ T.length ≤ cap ∧ ∀ j (h : j < T.length), W.cell? ⟨g, j, none⟩ = some (.string ⟨T[j].toArray⟩)
theorem krow {W : World} {B e n : Nat} {v : Value} {us : List ByteArray} {T : List (List UInt8)} (h : W.ownsRow B e 1 v n (sc us)) (hn : n = us.length) (hu : us = strs T) (h0 : 0 < T.length) : KRow W v T := by
  subst hn hu
  obtain ⟨g, cap, rfl, -, -, h3, h4, -⟩ := own_shape h (by rw [strs_length]; exact h0)
  rw [strs_length] at h3 h4
  exact ⟨g, cap, by rw [strs_length], h3, fun j hj => by rw [h4 j hj, sc, strs]; simp [hj]⟩
set_option maxHeartbeats 40000000 in
theorem sExpr (p : List Nd) (hv : PgV p) (hS : ∀ x ∈ p, x.s.size ≤ 1048576) (hpl : p.length ≤ 600) : ∀ (f : Nat) (t v : Value) (a : Nat) (w : World) (ht : ∃ pt nt ct, t = .slice pt nt ct) (hR : RowRd 6 NdEl w v p) (ha : a < p.length) (hf : p.length < a + f),
    Calls Tryz.prog 29 #[.agg #[t, v], .int .i64 a] w fun e w' => e = .returned (.string ⟨(exprT NT p f 0 a).toArray⟩) ∧ Below w.heap.size w w' := by
  intro f
  induction f using Nat.strongRecOn with
  | _ f ih =>
    intro t v a w ht hR ha hf
    obtain ⟨pt, nt, ct, rfl⟩ := ht
    obtain ⟨f', rfl⟩ : ∃ f', f = f' + 1 := ⟨f - 1, by omega⟩
    have hR0 := hR
    obtain ⟨pp, cap, rfl, hm, hqf⟩ := hR.form
    unfold maxLen at hm
    obtain ⟨b, o, rfl, hbw, hc⟩ := hqf (by omega)
    have ex := hc a ha
    have hn := hv.nd a ha
    have hkid : ∀ k ∈ p[a].kids, 0 ≤ k ∧ k < (p.length : Int) := fun k hk => by have := hv.kid ha hk; omega
    have hkgt : ∀ k ∈ p[a].kids, (a : Int) < k := fun k hk => (hv.kid ha hk).1
    have hkl6 := kids_len hv a ha
    have hU := fun h4 => ex_at (N := NT) (p := p) (f := f') (a := a) ha h4
    have hs6 := hS p[a] (List.getElem_mem ha)
    have hlen : ∀ f c x, x < p.length → (exprT NT p f c x).length ≤ 6000000000 := fun f c x hx => ex_len hv hS f c x hx
    have IH := fun f (hf : f < f' + 1) (k : Nat) (hk : k < p.length) (hfk : p.length < k + f) W (hK : Kept w W) => ih f hf (.slice pt nt ct) _ k W ⟨_, _, _, rfl⟩ (hR0.kept NdEl.st hK) hk hfk
    have hfst := hv.fst a ha
    have hnode := hc
    generalize hq' : p[a] = n at *
    obtain ⟨⟨e0, i0⟩, ⟨e1, i1⟩, ⟨e2, i2⟩, ⟨e3, i3⟩, ⟨u4, e4, r4⟩, ⟨u5, e5, r5⟩⟩ := ex
    obtain ⟨pk, ck, rfl, hmk, hkf⟩ := r4.form
    have hr5 := r5
    obtain ⟨pq, cq, rfl, hmq, -⟩ := r5.form
    obtain ⟨ii, hi, hz0, hz1, hz2⟩ := info_parts info_str'
    unfold maxLen at hmk hmq
    clear ih hR hc hqf
    go_enter Tryz.func29, Tryz.ntmps29
    go_wp2
    refine gen_world (P := fun W => Code.wp _ _ _ _ W) _ ?_
    intro W0 hW0
    have B0 : Below w.heap.size w W0 := by rw [hW0]; exact (Joins.below_alloc2 w _ _).alloc (by simp; omega) _
    have z0 : W0.heap.size = w.heap.size + 3 := by rw [hW0]; simp
    have K0 := Kept.of_below B0
    have o0 : W0.ownsRow (w.heap.size + 2) 9 1 (.slice (some ⟨w.heap.size + 2, 0, none⟩) 0 0) 0 [] := by rw [hW0]; exact pr_own_lit0 (by simp) (by simp)
    have hb0 : W0.heap[w.heap.size]? = some (.cells #[.slice pt nt ct, .slice (some ⟨b, o, none⟩) p.length cap] 31 (0, 0)) := by rw [hW0, pp_alloc_was _ _ _ (by simp; omega), pp_alloc_was _ _ _ (by simp), pp_alloc_at _ _ rfl]
    have hb1 : W0.heap[w.heap.size + 1]? = some (.cells #[.int .i64 n.kind, .int .i64 n.at_, .int .i64 n.n, .string n.s, .slice pk n.kids.length ck, .slice pq n.pats.length cq] 49 (0, 0)) := by rw [hW0, pp_alloc_was _ _ _ (by simp), pp_alloc_at _ _ (by simp)]
    have b0 : W0.cell? ⟨w.heap.size, 0, none⟩ = some (.slice pt nt ct) := (pp_blk_cell hb0 0).1
    have b1 : W0.cell? ⟨w.heap.size, 1, none⟩ = some (.slice (some ⟨b, o, none⟩) p.length cap) := (pp_blk_cell hb0 1).1
    have d0 : W0.cell? ⟨w.heap.size + 1, 0, none⟩ = some (.int .i64 n.kind) := (pp_blk_cell hb1 0).1
    have d2 : W0.cell? ⟨w.heap.size + 1, 2, none⟩ = some (.int .i64 n.n) := (pp_blk_cell hb1 2).1
    have d3 : W0.cell? ⟨w.heap.size + 1, 3, none⟩ = some (.string n.s) := (pp_blk_cell hb1 3).1
    have d4 : W0.cell? ⟨w.heap.size + 1, 4, none⟩ = some (.slice pk n.kids.length ck) := (pp_blk_cell hb1 4).1
    have d5 : W0.cell? ⟨w.heap.size + 1, 5, none⟩ = some (.slice pq n.pats.length cq) := (pp_blk_cell hb1 5).1
    clear hb0 hb1
    clear hW0 e0 e1 e2 e3 e4 e5
    go_loopw [6, 24] (fun nx i wr => ∃ (k : Nat) (us : List ByteArray), i = .int .i64 k ∧ k ≤ n.kids.length ∧ us.length = k ∧ wr.ownsRow (w.heap.size + 2) 9 1 nx us.length (sc us) ∧ Hid (∀ j (h : j < us.length) (h2 : j < n.kids.length), us[j] = ⟨(kTx (exprT NT p f' 0) n j n.kids[j]).toArray⟩) ∧ Below (w.heap.size + 2) W0 wr ∧ w.heap.size + 3 ≤ wr.heap.size) (fun _ i _ => n.kids.length - (intOf i).toNat)
    case atStart => exact ⟨0, [], rfl, Nat.zero_le _, rfl, o0, Lib.hid (by simp), Below.refl _ _, by omega⟩
    case round =>
      obtain ⟨k, us, rfl, hkl, hul, hown, hin, hbel, hsz⟩ := hrel
      have b0 := (hbel.cell (p := ⟨w.heap.size, 0, none⟩) (by show w.heap.size < _; omega)).trans b0
      have b1 := (hbel.cell (p := ⟨w.heap.size, 1, none⟩) (by show w.heap.size < _; omega)).trans b1
      have d0 := (hbel.cell (p := ⟨w.heap.size + 1, 0, none⟩) (by show w.heap.size + 1 < _; omega)).trans d0
      have d2 := (hbel.cell (p := ⟨w.heap.size + 1, 2, none⟩) (by show w.heap.size + 1 < _; omega)).trans d2
      have d3 := (hbel.cell (p := ⟨w.heap.size + 1, 3, none⟩) (by show w.heap.size + 1 < _; omega)).trans d3
      have d4 := (hbel.cell (p := ⟨w.heap.size + 1, 4, none⟩) (by show w.heap.size + 1 < _; omega)).trans d4
      have d5 := (hbel.cell (p := ⟨w.heap.size + 1, 5, none⟩) (by show w.heap.size + 1 < _; omega)).trans d5
      have Br : Below w.heap.size w wr := B0.trans (hbel.mono (by omega))
      have Kr := Kept.of_below Br
      clear o0
      by_cases hlt : k < n.kids.length
      · obtain ⟨bk, ok, rfl, hbk, hck⟩ := hkf (by omega)
        obtain ⟨g0, j0, j1⟩ := IntEl.st w wr bk _ _ Kr hbk (hck k hlt)
        rw [Nat.mul_one] at g0
        obtain ⟨k1, k2⟩ := hkid n.kids[k] (List.getElem_mem hlt)
        have k3 := hkgt n.kids[k] (List.getElem_mem hlt)
        obtain ⟨x, hx⟩ : ∃ x : Nat, n.kids[k] = x := ⟨n.kids[k].toNat, by omega⟩
        have HX := Lib.hid hx
        rw [hx] at g0 k1 k2 k3
        have hax : x < p.length := by omega
        have IHx := Lib.hid (IH f' (by omega) x hax (by omega))
        have hnu : us.length ≤ 1048576 := by omega
        clear hck hx j0 j1 hkf IH hU hlen hnode hfst
        by_cases hs : skipB n k = true
        · have HT := Lib.hid (show kTx (exprT NT p f' 0) n k n.kids[k] = [] from by rw [kTx, if_pos hs])
          have hin2 : Hid (∀ j (h : j < (us ++ [(⟨#[]⟩ : ByteArray)]).length) (h2 : j < n.kids.length), (us ++ [(⟨#[]⟩ : ByteArray)])[j] = ⟨(kTx (exprT NT p f' 0) n j n.kids[j]).toArray⟩) := Lib.hid (by
            intro j h h2
            by_cases hj : j < us.length
            · rw [List.getElem_append_left hj]; exact hin.out j hj h2
            · have : j = k := by simp at h; omega
              subst this
              rw [List.getElem_append_right (by omega)]
              simp only [HT.out, hul, Nat.sub_self, List.getElem_singleton])
          have hc : (n.kind = 8 ∧ k = 0) ∨ (n.kind = 4 ∧ n.s.toList = [58, 58]) := by simpa [skipB, isConsN] using hs
          clear hs
          rcases hc with ⟨h1, h2⟩ | ⟨h1, h2⟩
          all_goals
            first
              | (have q1 : ((k : Int) == 0) = true := by (simp; omega))
              | (have q1 : (n.s.toList == [58, 58]) = true := by simpa using h2)
            rw [h1] at d0
            have t4 := Lib.hid h1
            have t5 := Lib.hid h2
            clear h1 h2
            go_wp2_with (first | (at_builtin; go_loud (refine wpList_append_own _ rfl (.tmp 46) (.tmp 47) 70 rfl (w.heap.size + 2) 9 ii (.string ⟨#[]⟩) 1 16 Tryz.underlying70 hi hz0 hz1 hz2 rfl (by decide) _ us.length (sc us) rfl (hown.alloc _) ⟨wr.heap.size, 0, none⟩ 1 1 [.string ⟨#[]⟩] rfl rfl (new_cells _ _ _ _ rfl) (sc_one [⟨#[]⟩]) (by unfold maxLen; omega) (by omega) (by simp; omega) ?_); intro v' w2 hown' hgrow _))
            have R := own_app hown hbel (Nat.le_refl _) (by omega) hgrow
            have O := own_strs rfl rfl (l' := [⟨#[]⟩]) rfl rfl hown'
            have zz := hgrow.size
            simp at zz
            clear hown hown' hgrow hbel hin
            go_roundw
            case rel => exact ⟨k + 1, us ++ [⟨#[]⟩], by go_num, by omega, by simp; omega, O, hin2, R.1, by omega⟩
            case measure => simp [intOf]; omega
        · have HT := Lib.hid (show kTx (exprT NT p f' 0) n k n.kids[k] = exprT NT p f' 0 x from by rw [kTx, if_neg hs, HX.out, Int.toNat_natCast])
          generalize exprT NT p f' 0 x = A at *
          have hin2 : Hid (∀ j (h : j < (us ++ [(⟨A.toArray⟩ : ByteArray)]).length) (h2 : j < n.kids.length), (us ++ [(⟨A.toArray⟩ : ByteArray)])[j] = ⟨(kTx (exprT NT p f' 0) n j n.kids[j]).toArray⟩) := Lib.hid (by
            intro j h h2
            by_cases hj : j < us.length
            · rw [List.getElem_append_left hj]; exact hin.out j hj h2
            · have : j = k := by simp at h; omega
              subst this
              rw [List.getElem_append_right (by omega)]
              simp only [HT.out, hul, Nat.sub_self, List.getElem_singleton])
          have hc : (n.kind = 8 ∧ ¬ k = 0) ∨ (n.kind = 4 ∧ ¬ n.s.toList = [58, 58]) ∨ (¬ n.kind = 8 ∧ ¬ n.kind = 4) := by
            simp [skipB, isConsN] at hs
            by_cases h8 : n.kind = 8
            · left; exact ⟨h8, hs.1 h8⟩
            · by_cases h4 : n.kind = 4
              · right; left; exact ⟨h4, hs.2 h4⟩
              · right; right; exact ⟨h8, h4⟩
          clear hs
          rcases hc with ⟨h1, h2⟩ | ⟨h1, h2⟩ | ⟨h1, h2⟩
          all_goals
            have q8 : (n.kind == 8) = decide (n.kind = 8) := by rw [Bool.eq_iff_iff]; simp
            have q4 : (n.kind == 4) = decide (n.kind = 4) := by rw [Bool.eq_iff_iff]; simp
            have qk : ((k : Int) == 0) = decide (k = 0) := by rw [Bool.eq_iff_iff]; simp
            have qs : (n.s.toList == [58, 58]) = decide (n.s.toList = [58, 58]) := by rw [Bool.eq_iff_iff]; simp
            simp only [h1, h2, decide_true, decide_false] at q8 q4 qk qs
            have t1 := Lib.hid h1
            have t2 := Lib.hid h2
            try rw [h1] at d0
            clear h1 h2
            go_wp2_with (first
              | (go_at_call 29; refine (IHx.out _ Kr).mono ?_; rintro e w1 ⟨rfl, hb1⟩; have hown1 := own_below hown hb1; have hbel1 := hbel.trans (hb1.mono (by omega)); have hs1 := hb1.size)
              | (at_builtin; go_loud (refine wpList_append_own _ rfl (.tmp 49) (.tmp 53) 70 rfl (w.heap.size + 2) 9 ii (.string ⟨#[]⟩) 1 16 Tryz.underlying70 hi hz0 hz1 hz2 rfl (by decide) _ us.length (sc us) rfl (hown1.alloc _) ⟨w1.heap.size, 0, none⟩ 1 1 [.string ⟨A.toArray⟩] rfl rfl (new_cells _ _ _ _ rfl) (sc_one [⟨A.toArray⟩]) (by unfold maxLen; omega) (by omega) (by simp; omega) ?_); intro v' w2 hown' hgrow _))
            have R := own_app hown1 hbel1 (Nat.le_refl _) (by omega) hgrow
            have O := own_strs rfl rfl (l' := [⟨A.toArray⟩]) rfl rfl hown'
            have zz := hgrow.size
            simp at zz
            clear hown hown1 hown' hgrow hbel hbel1 hin
            go_roundw
            case rel => exact ⟨k + 1, us ++ [⟨A.toArray⟩], by go_num, by omega, by simp; omega, O, hin2, R.1, by omega⟩
            case measure => simp [intOf]; omega
      · obtain rfl : k = n.kids.length := by omega
        have HE := Lib.hid (us_eq (G := fun j k => kTx (exprT NT p f' 0) n j k) hul hin.out)
        clear hin hlt hkl
        rcases nk_range hn with hk | hk | hk | hk | hk | hk | hk | hk | hk | hk | hk | hk | hk | hk | hk | hk | hk | hk | hk
        · -- kind 1
          have HS := Lib.hid (show (⟨n.s.toList.toArray⟩ : ByteArray) = n.s from by rw [pr_toList])
          have hk0 : n.kids = [] := List.eq_nil_of_length_eq_zero (nk_kids hn 1 0 hk (by decide) (by decide) (by decide))
          have HB := Lib.hid (show exprT NT p (f' + 1) 0 a = numL n.n from by
            rw [hU (ncons hk (by decide)), hk0, kF0]
            simp [NT, nodeT, hk])
          have hi6 := nk_int hn
          rw [hk] at d0
          clear hown hU hlen IH hnode hfst HE hkid hk hbel hk0 hkf hkgt
          go_wp2_with (go_at_call 60; refine (sNumText n.n _ (by omega)).mono ?_; rintro e w1 ⟨rfl, hb⟩)
          go_ret
          exact ⟨by rw [HB.out]; rfl, below_tr Br hb⟩
        · -- kind 2
          have HS := Lib.hid (show (⟨n.s.toList.toArray⟩ : ByteArray) = n.s from by rw [pr_toList])
          have hk0 : n.kids = [] := List.eq_nil_of_length_eq_zero (nk_kids hn 2 0 hk (by decide) (by decide) (by decide))
          have HB := Lib.hid (show exprT NT p (f' + 1) 0 a = quoteL n.s.data.toList from by
            rw [hU (ncons hk (by decide)), hk0, kF0]
            simp [NT, nodeT, hk]; rw [pr_toList])
          rw [hk] at d0
          clear hown hU hlen IH hnode hfst HE hkid hk hbel hk0 hkf hkgt
          go_wp2_with (go_at_call 61; refine (sQuote n.s _ hs6).mono ?_; rintro e w1 ⟨rfl, hb⟩)
          go_ret
          exact ⟨by rw [HB.out]; rfl, below_tr Br hb⟩
        · -- kind 3
          have HS := Lib.hid (show (⟨n.s.toList.toArray⟩ : ByteArray) = n.s from by rw [pr_toList])
          have hk0 : n.kids = [] := List.eq_nil_of_length_eq_zero (nk_kids hn 3 0 hk (by decide) (by decide) (by decide))
          have HB := Lib.hid (show exprT NT p (f' + 1) 0 a = n.s.toList from by
            rw [hU (ncons hk (by decide)), hk0, kF0]
            simp [NT, nodeT, hk])
          rw [hk] at d0
          clear hown hU hlen IH hnode hfst HE hkid hk hbel hk0 hkf hkgt
          go_wp2
          go_ret
          exact ⟨by rw [HB.out, HS.out]; rfl, Br⟩
        · -- kind 4
          have HS := Lib.hid (show (⟨n.s.toList.toArray⟩ : ByteArray) = n.s from by rw [pr_toList])
          have hl1 : n.kids.length ≤ 1 := by
            have h := hn
            simp only [isNodeB, Bool.and_eq_true] at h
            obtain ⟨_, _, _, h, _⟩ := h
            rw [hk] at h
            unfold rkB at h
            simp at h
            omega
          by_cases hk0 : n.kids = []
          · have hnc : isConsN n = false := by
              cases hcc : isConsN n with
              | false => rfl
              | true =>
                have := hv.cons1 ha (by rw [hq']; exact hcc)
                rw [hq', hk0] at this
                simp at this
            have HB := Lib.hid (show exprT NT p (f' + 1) 0 a = n.s.toList from by
              rw [hU hnc, hk0, kF0]
              simp [NT, nodeT, hk, hk0])
            have hu0 : us.length = 0 := by rw [hul, hk0]; rfl
            rw [hu0] at hown
            rw [hk] at d0
            clear hU hlen IH hnode hfst HE hkid hk hbel hk0 hkf hkgt hul hnc
            obtain ⟨_, ⟨rfl, _⟩ | ⟨g, gcap, gcur, rfl, -⟩⟩ := hown
            all_goals
              go_wp2
              go_ret
              exact ⟨by rw [HB.out, HS.out]; rfl, Br⟩
          obtain ⟨x, hkk, hx⟩ := kids1 hkid (by cases h : n.kids with | nil => exact absurd h hk0 | cons _ _ => rw [h] at hl1; simp at hl1 ⊢; exact hl1)
          have hxg : (a : Int) < x := hkgt x (by rw [hkk]; simp)
          obtain ⟨f2, rfl⟩ : ∃ f2, f' = f2 + 1 := ⟨f' - 1, by omega⟩
          have hxn : x < p.length := by omega
          have HU := HE.out
          rw [hkk] at HU
          have hln : n.kids.length = 1 := by rw [hkk]; rfl
          clear hl1 hk0
          by_cases hs : n.s.toList = [58, 58]
          · have hcc : isConsN n = true := by simp [isConsN, hk, hs]
            simp only [List.mapIdx_cons, List.mapIdx_nil, kTx, show skipB n 0 = true from by simp [skipB, hcc], if_true] at HU
            have HK := krow hown rfl HU (by simp)
            have ex2 := hnode x hxn
            have hn2 := hv.nd x hxn
            have hkid2 : ∀ k ∈ p[x].kids, 0 ≤ k ∧ k < (p.length : Int) := fun k hk => by have := hv.kid hxn hk; omega
            have hkgt2 : ∀ k ∈ p[x].kids, (x : Int) < k := fun k hk => (hv.kid hxn hk).1
            have hs7 := hS p[x] (List.getElem_mem hxn)
            have hq2 : p[x].kind = 11 := by
              unfold rfB at hfst
              rw [if_neg (by omega), if_pos hcc] at hfst
              simpa [hkk, firstNK, List.getElem?_eq_getElem hxn] using hfst
            obtain ⟨y, z, hz, hyl, hzl⟩ := kids2 hkid2 (nk_kids hn2 11 2 hq2 (by decide) (by decide) (by decide))
            have hyg : (x : Int) < y := hkgt2 y (by rw [hz]; simp)
            have hzg : (x : Int) < z := hkgt2 z (by rw [hz]; simp)
            have hyn : y < p.length := by omega
            have hzn : z < p.length := by omega
            have HB := Lib.hid (show exprT NT p (f2 + 1 + 1) 0 a = [40] ++ (exprT NT p f2 0 y ++ ([32, 58, 58, 32] ++ (exprT NT p f2 0 z ++ [41]))) from by
              rw [ex_cons (f := f2 + 1) ha (by rw [hq']; exact hcc) (by rw [hq']; exact hkk), ex_pair hxn hq2 hz])
            have l0 := hlen f2 0 y hyn
            have l1 := hlen f2 0 z hzn
            have T1 := fun W (hK : Kept w W) => Lib.hid (IH f2 (by omega) y hyn (by omega) W hK)
            have T2 := fun W (hK : Kept w W) => Lib.hid (IH f2 (by omega) z hzn (by omega) W hK)
            generalize exprT NT p f2 0 y = A0 at *
            generalize exprT NT p f2 0 z = A1 at *
            obtain ⟨g, gc, rfl, g1, g2⟩ := HK
            simp only [List.length_cons, List.length_nil, Nat.zero_add] at g1 g2
            obtain ⟨bk, ok, rfl, hbk, hck⟩ := hkf (by rw [hkk]; simp)
            have c9 := (IntEl.st w wr bk _ _ Kr hbk (hck 0 (by rw [hkk]; simp))).1
            simp only [hkk, List.getElem_cons_zero, Nat.zero_mul, Nat.add_zero] at c9
            generalize p[x] = m at *
            obtain ⟨⟨m0, -⟩, ⟨m1, -⟩, ⟨m2, -⟩, ⟨m3, -⟩, ⟨v4, m4, s4⟩, ⟨v5, m5, s5⟩⟩ := ex2
            obtain ⟨pk2, ck2, rfl, hmk2, hkf2⟩ := s4.form
            obtain ⟨pq2, cq2, rfl, -, -⟩ := s5.form
            obtain ⟨bk2, ok2, rfl, hbk2, hck2⟩ := hkf2 (by rw [hz]; simp)
            have c7 := (IntEl.st w wr bk2 _ _ Kr hbk2 (hck2 0 (by rw [hz]; simp))).1
            have c8 := (IntEl.st w wr bk2 _ _ Kr hbk2 (hck2 1 (by rw [hz]; simp))).1
            simp only [hz, List.getElem_cons_zero, List.getElem_cons_succ, Nat.zero_mul, Nat.one_mul, Nat.add_zero] at c7 c8
            have hml : m.kids.length = 2 := by rw [hz]; rfl
            replace m0 := (Kr.cell _ _ hbw).trans m0
            replace m1 := (Kr.cell _ _ hbw).trans m1
            replace m2 := (Kr.cell _ _ hbw).trans m2
            replace m3 := (Kr.cell _ _ hbw).trans m3
            replace m4 := (Kr.cell _ _ hbw).trans m4
            replace m5 := (Kr.cell _ _ hbw).trans m5
            rw [hln] at d4
            rw [hk] at d0
            have q1 : (n.s.toList == [58, 58]) = true := by simpa using hs
            have bk2l : bk2 < wr.heap.size := by have := Kr.size; omega
            have bl : b < wr.heap.size := by have := Kr.size; omega
            have bkl : bk < wr.heap.size := by have := Kr.size; omega
            have KS : ∀ W, Below wr.heap.size wr W → W.cell? ⟨w.heap.size, 1, none⟩ = some (.slice (some ⟨b, o, none⟩) p.length cap) ∧ W.cell? ⟨w.heap.size + 1, 4, none⟩ = some (.slice (some ⟨bk, ok, none⟩) 1 ck) ∧ W.cell? ⟨bk, ok, none⟩ = some (.int .i64 x) ∧ W.cell? ⟨b, o + x * 6, none⟩ = some (.int .i64 m.kind) ∧ W.cell? ⟨b, o + x * 6 + 1, none⟩ = some (.int .i64 m.at_) ∧ W.cell? ⟨b, o + x * 6 + 2, none⟩ = some (.int .i64 m.n) ∧ W.cell? ⟨b, o + x * 6 + 3, none⟩ = some (.string m.s) ∧ W.cell? ⟨b, o + x * 6 + 4, none⟩ = some (.slice (some ⟨bk2, ok2, none⟩) m.kids.length ck2) ∧ W.cell? ⟨b, o + x * 6 + 5, none⟩ = some (.slice pq2 m.pats.length cq2) := fun W h =>
              ⟨(h.cell (p := ⟨w.heap.size, 1, none⟩) (by show w.heap.size < _; omega)).trans b1, (h.cell (p := ⟨w.heap.size + 1, 4, none⟩) (by show w.heap.size + 1 < _; omega)).trans d4, (h.cell (p := ⟨bk, ok, none⟩) bkl).trans c9, (h.cell (p := ⟨b, o + x * 6, none⟩) bl).trans m0, (h.cell (p := ⟨b, o + x * 6 + 1, none⟩) bl).trans m1, (h.cell (p := ⟨b, o + x * 6 + 2, none⟩) bl).trans m2, (h.cell (p := ⟨b, o + x * 6 + 3, none⟩) bl).trans m3, (h.cell (p := ⟨b, o + x * 6 + 4, none⟩) bl).trans m4, (h.cell (p := ⟨b, o + x * 6 + 5, none⟩) bl).trans m5⟩
            have v1 : (x : Int) < p.length := by omega
            clear HU g2 hown hU hlen IH hnode hfst HE hkk hkid hn hk hbel hck hkf hkgt m0 m1 m2 m3 m4 m5 hz hkid2 hkgt2 hn2 hq2 hkf2 hck2 d5 d2 hcc hs
            go_wp2_with fail
            go_region_held3 (fun W => W.cell? ⟨w.heap.size, 1, none⟩ = some (.slice (some ⟨b, o, none⟩) p.length cap) ∧ W.cell? ⟨w.heap.size + 1, 4, none⟩ = some (.slice (some ⟨bk, ok, none⟩) 1 ck) ∧ W.cell? ⟨bk, ok, none⟩ = some (.int .i64 x) ∧ W.cell? ⟨b, o + x * 6, none⟩ = some (.int .i64 m.kind) ∧ W.cell? ⟨b, o + x * 6 + 1, none⟩ = some (.int .i64 m.at_) ∧ W.cell? ⟨b, o + x * 6 + 2, none⟩ = some (.int .i64 m.n) ∧ W.cell? ⟨b, o + x * 6 + 3, none⟩ = some (.string m.s) ∧ W.cell? ⟨b, o + x * 6 + 4, none⟩ = some (.slice (some ⟨bk2, ok2, none⟩) m.kids.length ck2) ∧ W.cell? ⟨b, o + x * 6 + 5, none⟩ = some (.slice pq2 m.pats.length cq2))
              (first | exact KS _ (Below.refl _ _) | exact KS _ (Below.refl _ _).drew | exact KS _ ((Below.refl _ _).drew.alloc (Nat.le_refl _) _) | exact KS _ (((Below.refl _ _).drew.alloc (Nat.le_refl _) _).setCell (Nat.le_refl _) _))
              (fail)
            clear KS
            go_wp2_with fail
            refine gen_world (P := fun W => Code.wp _ _ _ _ W) _ ?_
            intro W1 hW1
            have B1 : Below wr.heap.size wr W1 := by rw [hW1]; exact ((Below.refl _ _).alloc (Nat.le_refl _) _).drew
            have hb9 : W1.heap[wr.heap.size]? = some (.cells #[.int .i64 m.kind, .int .i64 m.at_, .int .i64 m.n, .string m.s, .slice (some ⟨bk2, ok2, none⟩) 2 ck2, .slice pq2 m.pats.length cq2] 49 (0, 0)) := by rw [hW1]; exact pp_alloc_at wr _ rfl
            have z1 : W1.heap.size = wr.heap.size + 1 := by rw [hW1]; simp
            clear hW1
            have e4 : W1.cell? ⟨wr.heap.size, 4, none⟩ = some (.slice (some ⟨bk2, ok2, none⟩) 2 ck2) := (pp_blk_cell hb9 4).1
            have e0 := (B1.cell (p := ⟨w.heap.size, 0, none⟩) (by show w.heap.size < _; omega)).trans b0
            have e1 := (B1.cell (p := ⟨w.heap.size, 1, none⟩) (by show w.heap.size < _; omega)).trans b1
            have e6 := (B1.cell (p := ⟨bk2, ok2, none⟩) bk2l).trans c7
            have e7 := (B1.cell (p := ⟨bk2, ok2 + 1, none⟩) bk2l).trans c8
            have B2 := below_tr Br B1
            have K2 := Kept.of_below B2
            clear hb9 b0 b1 d3 d4 c8 c9 c7
            have u0 : ¬ (9223372036854775807 < 1 + A0.length) := by omega
            have u1 : ¬ (9223372036854775807 < 1 + A0.length + 4) := by omega
            have u2 : ¬ (9223372036854775807 < 1 + A0.length + 4 + A1.length) := by omega
            have u3 : ¬ (9223372036854775807 < 1 + A0.length + 4 + A1.length + 1) := by omega
            have KS : ∀ W, Below W1.heap.size W1 W → W.cell? ⟨w.heap.size, 0, none⟩ = some (.slice pt nt ct) ∧ W.cell? ⟨w.heap.size, 1, none⟩ = some (.slice (some ⟨b, o, none⟩) p.length cap) ∧ W.cell? ⟨wr.heap.size, 4, none⟩ = some (.slice (some ⟨bk2, ok2, none⟩) 2 ck2) ∧ W.cell? ⟨bk2, ok2, none⟩ = some (.int .i64 y) ∧ W.cell? ⟨bk2, ok2 + 1, none⟩ = some (.int .i64 z) ∧ Kept w W := fun W h =>
              ⟨(h.cell (p := ⟨w.heap.size, 0, none⟩) (by show w.heap.size < _; omega)).trans e0, (h.cell (p := ⟨w.heap.size, 1, none⟩) (by show w.heap.size < _; omega)).trans e1, (h.cell (p := ⟨wr.heap.size, 4, none⟩) (by show wr.heap.size < _; omega)).trans e4, (h.cell (p := ⟨bk2, ok2, none⟩) (by show bk2 < _; omega)).trans e6, (h.cell (p := ⟨bk2, ok2 + 1, none⟩) (by show bk2 < _; omega)).trans e7, K2.trans (Kept.of_below h)⟩
            go_wp2_with fail
            go_region_held3 (fun W => W.cell? ⟨w.heap.size, 0, none⟩ = some (.slice pt nt ct) ∧ W.cell? ⟨w.heap.size, 1, none⟩ = some (.slice (some ⟨b, o, none⟩) p.length cap) ∧ W.cell? ⟨wr.heap.size, 4, none⟩ = some (.slice (some ⟨bk2, ok2, none⟩) 2 ck2) ∧ W.cell? ⟨bk2, ok2, none⟩ = some (.int .i64 y) ∧ W.cell? ⟨bk2, ok2 + 1, none⟩ = some (.int .i64 z) ∧ Kept w W)
              (first | exact KS _ (Below.refl _ _) | exact KS _ (Below.refl _ _).drew | exact KS _ ((Below.refl _ _).drew.trans hbA) | exact KS _ ((Below.refl _ _).drew.trans (hbA.trans (hbB.mono hbA.size))))
              (first | (have hA' := hbA; go_at_call 29; refine (T2 _ ((K2.trans (Kept.drew _)).trans (Kept.of_below hA'))).out.mono ?_; rintro e wB ⟨rfl, hbB⟩) | (go_at_call 29; refine (T1 _ (K2.trans (by first | exact Kept.drew _ | exact Kept.refl _))).out.mono ?_; rintro e wA ⟨rfl, hbA⟩))
            go_wp2
            go_ret
            exact ⟨by rw [HB.out]; exact ret_str (by simp only [str_app, List.append_assoc]), below_tr B2 ((Below.refl _ _).drew.trans (hbA.trans (hbB.mono hbA.size)))⟩
          · have hcc : isConsN n = false := by simp [isConsN, hs]
            simp only [List.mapIdx_cons, List.mapIdx_nil, kTx, show skipB n 0 = false from by simp [skipB, hcc, hk], Bool.false_eq_true, if_false, Int.toNat_natCast] at HU
            have HK := krow hown rfl HU (by simp)
            have HB := Lib.hid (show exprT NT p (f2 + 1 + 1) 0 a = [40] ++ n.s.toList ++ [32] ++ exprT NT p (f2 + 1) 0 x ++ [41] from by
              rw [hU hcc, show modeN n = 0 from by simp [modeN, hcc, hk], hkk, kF1]
              simp [NT, nodeT, hk, hkk])
            have l0 := hlen (f2 + 1) 0 x hxn
            generalize exprT NT p (f2 + 1) 0 x = A0 at *
            obtain ⟨g, gc, rfl, g1, g2⟩ := HK
            simp only [List.length_cons, List.length_nil, Nat.zero_add] at g1 g2
            have c0 := g2 0 (by omega)
            simp only [List.getElem_cons_zero] at c0
            have u0 : ¬ (9223372036854775807 < 1 + n.s.size) := by omega
            have u1 : ¬ (9223372036854775807 < 1 + n.s.size + 1) := by omega
            have u2 : ¬ (9223372036854775807 < 1 + n.s.size + 1 + A0.length) := by omega
            have u3 : ¬ (9223372036854775807 < 1 + n.s.size + 1 + A0.length + 1) := by omega
            have q1 : (n.s.toList == [58, 58]) = false := by simpa using hs
            rw [hk] at d0
            clear HU g2 hown hU hlen IH hnode hfst HE hkk hkid hn hk hbel hkf hkgt l0 hcc hs hln
            go_wp2_with fail
            go_quiet (fail)
            go_wp2
            go_ret
            exact ⟨by rw [HB.out]; exact ret_str (by simp only [← str_app]; rw [HS.out]), below_drewN Br _⟩
        · -- kind 5
          obtain ⟨x, hkk, hx⟩ := kids1 hkid (nk_kids hn 5 1 hk (by decide) (by decide) (by decide))
          have HB := Lib.hid (show exprT NT p (f' + 1) 0 a = [40, 102, 117, 110, 32] ++ n.s.toList ++ [32, 45, 62, 32] ++ exprT NT p f' 0 x ++ [41] from by
            rw [hU (ncons hk (by decide)), mode0 hk (by decide) (by decide) (by decide), hkk, kF1]
            simp [NT, nodeT, hk])
          have HU := HE.out
          rw [hkk] at HU
          simp only [List.mapIdx_cons, List.mapIdx_nil, kTx, skip_no hk (by decide) (by decide), Bool.false_eq_true, if_false, Int.toNat_natCast] at HU
          have HK := krow hown rfl HU (by simp)
          have l0 := hlen f' 0 x (by omega)
          generalize exprT NT p f' 0 x = A0 at *
          obtain ⟨g, gc, rfl, g1, g2⟩ := HK
          simp only [List.length_cons, List.length_nil, Nat.zero_add] at g1 g2
          have c0 := g2 0 (by omega)
          simp only [List.getElem_cons_zero] at c0
          have HS := Lib.hid (show (⟨n.s.toList.toArray⟩ : ByteArray) = n.s from by rw [pr_toList])
          have u0 : ¬ (9223372036854775807 < 5 + n.s.size) := by omega
          have u1 : ¬ (9223372036854775807 < 5 + n.s.size + 4) := by omega
          have u2 : ¬ (9223372036854775807 < 5 + n.s.size + 4 + A0.length) := by omega
          have u3 : ¬ (9223372036854775807 < 5 + n.s.size + 4 + A0.length + 1) := by omega
          rw [hk] at d0
          clear HU g2 hown hU hlen IH hnode hfst HE hkk hkid hn hk hbel hkf hkgt l0
          go_wp2_with fail
          go_quiet (fail)
          go_wp2
          go_ret
          exact ⟨by rw [HB.out]; exact ret_str (by simp only [← str_app]; rw [HS.out]), below_drewN Br _⟩
        · -- kind 6
          have HS := Lib.hid (show (⟨n.s.toList.toArray⟩ : ByteArray) = n.s from by rw [pr_toList])
          obtain ⟨x, y, hkk, hx, hy⟩ := kids2 hkid (nk_kids hn 6 2 hk (by decide) (by decide) (by decide))
          have hxg : (a : Int) < x := hkgt x (by rw [hkk]; simp)
          obtain ⟨f2, rfl⟩ : ∃ f2, f' = f2 + 1 := ⟨f' - 1, by omega⟩
          have hxn : x < p.length := by omega
          have HB0 : exprT NT p (f2 + 1 + 1) 0 a = [40] ++ exprT NT p (f2 + 1) 3 x ++ [32] ++ exprT NT p (f2 + 1) 0 y ++ [41] := by
            rw [hU (ncons hk (by decide)), show modeN n = 3 from by simp [modeN, isConsN, hk], hkk, kF2]
            simp [NT, nodeT, hk]
          rw [ex_app hv hxn] at HB0
          have HU := HE.out
          rw [hkk] at HU
          simp only [List.mapIdx_cons, List.mapIdx_nil, kTx, skip_no hk (by decide) (by decide), Bool.false_eq_true, if_false, Int.toNat_natCast] at HU
          have HK := krow hown rfl HU (by simp)
          have l0 := hlen (f2 + 1) 0 x hxn
          have l1 := hlen (f2 + 1) 0 y (by omega)
          generalize exprT NT p (f2 + 1) 0 x = A0 at *
          generalize exprT NT p (f2 + 1) 0 y = A1 at *
          obtain ⟨g, gc, rfl, g1, g2⟩ := HK
          simp only [List.length_cons, List.length_nil, Nat.zero_add] at g1 g2
          have c0 := g2 0 (by omega)
          have c1 := g2 1 (by omega)
          simp only [List.getElem_cons_zero, List.getElem_cons_succ] at c0 c1
          obtain ⟨bk, ok, rfl, hbk, hck⟩ := hkf (by rw [hkk]; simp)
          have c9 := (IntEl.st w wr bk _ _ Kr hbk (hck 0 (by rw [hkk]; simp))).1
          simp only [hkk, List.getElem_cons_zero, Nat.zero_mul, Nat.add_zero] at c9
          have ex2 := hnode x hxn
          generalize p[x] = m at *
          obtain ⟨⟨m0, -⟩, ⟨m1, -⟩, ⟨m2, -⟩, ⟨m3, -⟩, ⟨v4, m4, s4⟩, ⟨v5, m5, s5⟩⟩ := ex2
          obtain ⟨pk2, ck2, rfl, hmk2, -⟩ := s4.form
          obtain ⟨pq2, cq2, rfl, -, -⟩ := s5.form
          replace m0 := (Kr.cell _ _ hbw).trans m0
          replace m1 := (Kr.cell _ _ hbw).trans m1
          replace m2 := (Kr.cell _ _ hbw).trans m2
          replace m3 := (Kr.cell _ _ hbw).trans m3
          replace m4 := (Kr.cell _ _ hbw).trans m4
          replace m5 := (Kr.cell _ _ hbw).trans m5
          rw [show n.kids.length = 2 from by rw [hkk]; rfl] at d4
          rw [hk] at d0
          have gl : g < wr.heap.size := World.block_lt_of_cell? wr _ c0
          have bl : b < wr.heap.size := by have := Kr.size; omega
          have bkl : bk < wr.heap.size := by have := Kr.size; omega
          have KS : ∀ W, Below wr.heap.size wr W → W.cell? ⟨w.heap.size, 1, none⟩ = some (.slice (some ⟨b, o, none⟩) p.length cap) ∧ W.cell? ⟨w.heap.size + 1, 4, none⟩ = some (.slice (some ⟨bk, ok, none⟩) 2 ck) ∧ W.cell? ⟨bk, ok, none⟩ = some (.int .i64 x) ∧ W.cell? ⟨b, o + x * 6, none⟩ = some (.int .i64 m.kind) ∧ W.cell? ⟨b, o + x * 6 + 1, none⟩ = some (.int .i64 m.at_) ∧ W.cell? ⟨b, o + x * 6 + 2, none⟩ = some (.int .i64 m.n) ∧ W.cell? ⟨b, o + x * 6 + 3, none⟩ = some (.string m.s) ∧ W.cell? ⟨b, o + x * 6 + 4, none⟩ = some (.slice pk2 m.kids.length ck2) ∧ W.cell? ⟨b, o + x * 6 + 5, none⟩ = some (.slice pq2 m.pats.length cq2) ∧ W.cell? ⟨g, 0, none⟩ = some (.string ⟨A0.toArray⟩) ∧ W.cell? ⟨g, 1, none⟩ = some (.string ⟨A1.toArray⟩) := fun W h =>
            ⟨(h.cell (p := ⟨w.heap.size, 1, none⟩) (by show w.heap.size < _; omega)).trans b1, (h.cell (p := ⟨w.heap.size + 1, 4, none⟩) (by show w.heap.size + 1 < _; omega)).trans d4, (h.cell (p := ⟨bk, ok, none⟩) bkl).trans c9, (h.cell (p := ⟨b, o + x * 6, none⟩) bl).trans m0, (h.cell (p := ⟨b, o + x * 6 + 1, none⟩) bl).trans m1, (h.cell (p := ⟨b, o + x * 6 + 2, none⟩) bl).trans m2, (h.cell (p := ⟨b, o + x * 6 + 3, none⟩) bl).trans m3, (h.cell (p := ⟨b, o + x * 6 + 4, none⟩) bl).trans m4, (h.cell (p := ⟨b, o + x * 6 + 5, none⟩) bl).trans m5, (h.cell (p := ⟨g, 0, none⟩) gl).trans c0, (h.cell (p := ⟨g, 1, none⟩) gl).trans c1⟩
          have HB1 := Lib.hid HB0
          have v1 : (x : Int) < p.length := by omega
          clear HU g2 hown hU hlen IH hnode hfst HE hkk hkid hn hk hbel HB0 hck hkf hkgt m0 m1 m2 m3 m4 m5 c0 c1
          by_cases h4 : m.kind = 4
          · by_cases h0 : m.kids.length = 0
            · have HB := Lib.hid (show exprT NT p (f2 + 1 + 1) 0 a = [40, 40] ++ A0 ++ [41, 32] ++ A1 ++ [41] from by rw [HB1.out, if_pos (show isLoneN m = true from by simp [isLoneN, h4, h0])]; simp)
              have t1 : (m.kind == 4) = true := by simpa using h4
              have t2 : (m.kids.length == 0) = true := by simpa using h0
              clear h4 h0 HB1
              go_wp2_with fail
              go_region_held3 (fun W => W.cell? ⟨w.heap.size, 1, none⟩ = some (.slice (some ⟨b, o, none⟩) p.length cap) ∧ W.cell? ⟨w.heap.size + 1, 4, none⟩ = some (.slice (some ⟨bk, ok, none⟩) 2 ck) ∧ W.cell? ⟨bk, ok, none⟩ = some (.int .i64 x) ∧ W.cell? ⟨b, o + x * 6, none⟩ = some (.int .i64 m.kind) ∧ W.cell? ⟨b, o + x * 6 + 1, none⟩ = some (.int .i64 m.at_) ∧ W.cell? ⟨b, o + x * 6 + 2, none⟩ = some (.int .i64 m.n) ∧ W.cell? ⟨b, o + x * 6 + 3, none⟩ = some (.string m.s) ∧ W.cell? ⟨b, o + x * 6 + 4, none⟩ = some (.slice pk2 m.kids.length ck2) ∧ W.cell? ⟨b, o + x * 6 + 5, none⟩ = some (.slice pq2 m.pats.length cq2) ∧ W.cell? ⟨g, 0, none⟩ = some (.string ⟨A0.toArray⟩) ∧ W.cell? ⟨g, 1, none⟩ = some (.string ⟨A1.toArray⟩))
                (first | exact KS _ (Below.refl _ _) | exact KS _ (Below.refl _ _).drew | exact KS _ ((Below.refl _ _).drew.alloc (Nat.le_refl _) _) | exact KS _ (((Below.refl _ _).drew.alloc (Nat.le_refl _) _).setCell (Nat.le_refl _) _))
                (fail)
              go_wp2_with fail
              refine gen_world (P := fun W => Code.wp _ _ _ _ W) _ ?_
              intro W1 hW1
              have B1 : Below wr.heap.size wr W1 := by rw [hW1]; exact ((Below.refl _ _).alloc (Nat.le_refl _) _).drew
              obtain ⟨-, -, -, -, -, -, -, -, -, c0, c1⟩ := KS W1 B1
              have B2 := below_tr Br B1
              clear KS hW1
              have u0 : ¬ (9223372036854775807 < 2 + A0.length) := by omega
              have u1 : ¬ (9223372036854775807 < 2 + A0.length + 2) := by omega
              have u2 : ¬ (9223372036854775807 < 2 + A0.length + 2 + A1.length) := by omega
              have u3 : ¬ (9223372036854775807 < 2 + A0.length + 2 + A1.length + 1) := by omega
              clear l0 l1
              go_quiet (fail)
              go_wp2
              go_ret
              exact ⟨by rw [HB.out]; exact ret_str (by simp only [← str_app]), below_drewN B2 _⟩
            · have HB := Lib.hid (show exprT NT p (f2 + 1 + 1) 0 a = [40] ++ A0 ++ [32] ++ A1 ++ [41] from by rw [HB1.out, if_neg (show ¬ isLoneN m = true from by simp [isLoneN, h0])])
              have t1 : (m.kind == 4) = true := by simpa using h4
              have t2 : (m.kids.length == 0) = false := by simpa using h0
              clear h4 h0 HB1
              go_wp2_with fail
              go_region_held3 (fun W => W.cell? ⟨w.heap.size, 1, none⟩ = some (.slice (some ⟨b, o, none⟩) p.length cap) ∧ W.cell? ⟨w.heap.size + 1, 4, none⟩ = some (.slice (some ⟨bk, ok, none⟩) 2 ck) ∧ W.cell? ⟨bk, ok, none⟩ = some (.int .i64 x) ∧ W.cell? ⟨b, o + x * 6, none⟩ = some (.int .i64 m.kind) ∧ W.cell? ⟨b, o + x * 6 + 1, none⟩ = some (.int .i64 m.at_) ∧ W.cell? ⟨b, o + x * 6 + 2, none⟩ = some (.int .i64 m.n) ∧ W.cell? ⟨b, o + x * 6 + 3, none⟩ = some (.string m.s) ∧ W.cell? ⟨b, o + x * 6 + 4, none⟩ = some (.slice pk2 m.kids.length ck2) ∧ W.cell? ⟨b, o + x * 6 + 5, none⟩ = some (.slice pq2 m.pats.length cq2) ∧ W.cell? ⟨g, 0, none⟩ = some (.string ⟨A0.toArray⟩) ∧ W.cell? ⟨g, 1, none⟩ = some (.string ⟨A1.toArray⟩))
                (first | exact KS _ (Below.refl _ _) | exact KS _ (Below.refl _ _).drew | exact KS _ ((Below.refl _ _).drew.alloc (Nat.le_refl _) _) | exact KS _ (((Below.refl _ _).drew.alloc (Nat.le_refl _) _).setCell (Nat.le_refl _) _))
                (fail)
              go_wp2_with fail
              refine gen_world (P := fun W => Code.wp _ _ _ _ W) _ ?_
              intro W1 hW1
              have B1 : Below wr.heap.size wr W1 := by rw [hW1]; exact ((Below.refl _ _).alloc (Nat.le_refl _) _).drew
              obtain ⟨-, -, -, -, -, -, -, -, -, c0, c1⟩ := KS W1 B1
              have B2 := below_tr Br B1
              clear KS hW1
              have u0 : ¬ (9223372036854775807 < 1 + A0.length) := by omega
              have u1 : ¬ (9223372036854775807 < 1 + A0.length + 1) := by omega
              have u2 : ¬ (9223372036854775807 < 1 + A0.length + 1 + A1.length) := by omega
              have u3 : ¬ (9223372036854775807 < 1 + A0.length + 1 + A1.length + 1) := by omega
              clear l0 l1
              go_quiet (fail)
              go_wp2
              go_ret
              exact ⟨by rw [HB.out]; exact ret_str (by simp only [← str_app]), below_drewN B2 _⟩
          · have HB := Lib.hid (show exprT NT p (f2 + 1 + 1) 0 a = [40] ++ A0 ++ [32] ++ A1 ++ [41] from by rw [HB1.out, if_neg (show ¬ isLoneN m = true from by simp [isLoneN, h4])])
            have t1 : (m.kind == 4) = false := by simpa using h4
            clear h4 HB1
            go_wp2_with fail
            go_region_held3 (fun W => W.cell? ⟨w.heap.size, 1, none⟩ = some (.slice (some ⟨b, o, none⟩) p.length cap) ∧ W.cell? ⟨w.heap.size + 1, 4, none⟩ = some (.slice (some ⟨bk, ok, none⟩) 2 ck) ∧ W.cell? ⟨bk, ok, none⟩ = some (.int .i64 x) ∧ W.cell? ⟨b, o + x * 6, none⟩ = some (.int .i64 m.kind) ∧ W.cell? ⟨b, o + x * 6 + 1, none⟩ = some (.int .i64 m.at_) ∧ W.cell? ⟨b, o + x * 6 + 2, none⟩ = some (.int .i64 m.n) ∧ W.cell? ⟨b, o + x * 6 + 3, none⟩ = some (.string m.s) ∧ W.cell? ⟨b, o + x * 6 + 4, none⟩ = some (.slice pk2 m.kids.length ck2) ∧ W.cell? ⟨b, o + x * 6 + 5, none⟩ = some (.slice pq2 m.pats.length cq2) ∧ W.cell? ⟨g, 0, none⟩ = some (.string ⟨A0.toArray⟩) ∧ W.cell? ⟨g, 1, none⟩ = some (.string ⟨A1.toArray⟩))
              (first | exact KS _ (Below.refl _ _) | exact KS _ (Below.refl _ _).drew | exact KS _ ((Below.refl _ _).drew.alloc (Nat.le_refl _) _) | exact KS _ (((Below.refl _ _).drew.alloc (Nat.le_refl _) _).setCell (Nat.le_refl _) _))
              (fail)
            go_wp2_with fail
            refine gen_world (P := fun W => Code.wp _ _ _ _ W) _ ?_
            intro W1 hW1
            have B1 : Below wr.heap.size wr W1 := by rw [hW1]; exact ((Below.refl _ _).alloc (Nat.le_refl _) _).drew
            obtain ⟨-, -, -, -, -, -, -, -, -, c0, c1⟩ := KS W1 B1
            have B2 := below_tr Br B1
            clear KS hW1
            have u0 : ¬ (9223372036854775807 < 1 + A0.length) := by omega
            have u1 : ¬ (9223372036854775807 < 1 + A0.length + 1) := by omega
            have u2 : ¬ (9223372036854775807 < 1 + A0.length + 1 + A1.length) := by omega
            have u3 : ¬ (9223372036854775807 < 1 + A0.length + 1 + A1.length + 1) := by omega
            clear l0 l1
            go_quiet (fail)
            go_wp2
            go_ret
            exact ⟨by rw [HB.out]; exact ret_str (by simp only [← str_app]), below_drewN B2 _⟩
        · -- kind 7
          obtain ⟨x, y, hkk, hx, hy⟩ := kids2 hkid (nk_kids hn 7 2 hk (by decide) (by decide) (by decide))
          have HB := Lib.hid (show exprT NT p (f' + 1) 0 a = [40, 108, 101, 116, 32] ++ n.s.toList ++ [32, 61, 32] ++ exprT NT p f' 0 x ++ [32, 105, 110, 32] ++ exprT NT p f' 0 y ++ [41] from by
            rw [hU (ncons hk (by decide)), mode0 hk (by decide) (by decide) (by decide), hkk, kF2]
            simp [NT, nodeT, hk])
          have HU := HE.out
          rw [hkk] at HU
          simp only [List.mapIdx_cons, List.mapIdx_nil, kTx, skip_no hk (by decide) (by decide), Bool.false_eq_true, if_false, Int.toNat_natCast] at HU
          have HK := krow hown rfl HU (by simp)
          have l0 := hlen f' 0 x (by omega)
          generalize exprT NT p f' 0 x = A0 at *
          have l1 := hlen f' 0 y (by omega)
          generalize exprT NT p f' 0 y = A1 at *
          obtain ⟨g, gc, rfl, g1, g2⟩ := HK
          simp only [List.length_cons, List.length_nil, Nat.zero_add] at g1 g2
          have c0 := g2 0 (by omega)
          have c1 := g2 1 (by omega)
          simp only [List.getElem_cons_zero, List.getElem_cons_succ] at c0 c1
          have HS := Lib.hid (show (⟨n.s.toList.toArray⟩ : ByteArray) = n.s from by rw [pr_toList])
          have u0 : ¬ (9223372036854775807 < 5 + n.s.size) := by omega
          have u1 : ¬ (9223372036854775807 < 5 + n.s.size + 3) := by omega
          have u2 : ¬ (9223372036854775807 < 5 + n.s.size + 3 + A0.length) := by omega
          have u3 : ¬ (9223372036854775807 < 5 + n.s.size + 3 + A0.length + 4) := by omega
          have u4 : ¬ (9223372036854775807 < 5 + n.s.size + 3 + A0.length + 4 + A1.length) := by omega
          have u5 : ¬ (9223372036854775807 < 5 + n.s.size + 3 + A0.length + 4 + A1.length + 1) := by omega
          rw [hk] at d0
          clear HU g2 hown hU hlen IH hnode hfst HE hkk hkid hn hk hbel hkf hkgt l0 l1
          go_wp2_with fail
          go_quiet (fail)
          go_wp2
          go_ret
          exact ⟨by rw [HB.out]; exact ret_str (by simp only [← str_app]; rw [HS.out]), below_drewN Br _⟩
        · -- kind 8
          have HS := Lib.hid (show (⟨n.s.toList.toArray⟩ : ByteArray) = n.s from by rw [pr_toList])
          obtain ⟨x, y, hkk, hx, hy⟩ := kids2 hkid (nk_kids hn 8 2 hk (by decide) (by decide) (by decide))
          have hxg : (a : Int) < x := hkgt x (by rw [hkk]; simp)
          obtain ⟨f2, rfl⟩ : ∃ f2, f' = f2 + 1 := ⟨f' - 1, by omega⟩
          have hxn : x < p.length := by omega
          have hyn : y < p.length := by omega
          have ex2 := hnode x hxn
          have hn2 := hv.nd x hxn
          have hkid2 : ∀ k ∈ p[x].kids, 0 ≤ k ∧ k < (p.length : Int) := fun k hk => by have := hv.kid hxn hk; omega
          have hkgt2 : ∀ k ∈ p[x].kids, (x : Int) < k := fun k hk => (hv.kid hxn hk).1
          have hs7 := hS p[x] (List.getElem_mem hxn)
          have hq2 : p[x].kind = 5 := by
            unfold rfB at hfst
            rw [if_pos hk] at hfst
            simpa [hkk, firstNK, List.getElem?_eq_getElem hxn] using hfst
          obtain ⟨z, hz, hzl⟩ := kids1 hkid2 (nk_kids hn2 5 1 hq2 (by decide) (by decide) (by decide))
          have hzg : (x : Int) < z := hkgt2 z (by rw [hz]; simp)
          have hzn : z < p.length := by omega
          have HB := Lib.hid (show exprT NT p (f2 + 1 + 1) 0 a = [40, 108, 101, 116, 32, 114, 101, 99, 32] ++ n.s.toList ++ [32] ++ p[x].s.toList ++ [32, 61, 32] ++ exprT NT p f2 0 z ++ [32, 105, 110, 32] ++ exprT NT p (f2 + 1) 0 y ++ [41] from by
            rw [hU (ncons hk (by decide)), show modeN n = 2 from by simp [modeN, isConsN, hk], hkk, kF2, ex_rec hxn hq2 hz]
            simp [NT, nodeT, hk])
          have HU := HE.out
          rw [hkk] at HU
          simp only [List.mapIdx_cons, List.mapIdx_nil, kTx, show skipB n 0 = true from by simp [skipB, hk], show skipB n (0 + 1) = false from by simp [skipB, isConsN, hk], Bool.false_eq_true, if_false, if_true, Int.toNat_natCast] at HU
          have HK := krow hown rfl HU (by simp)
          have l0 := hlen f2 0 z hzn
          have l1 := hlen (f2 + 1) 0 y hyn
          have T1 := fun W (hK : Kept w W) => Lib.hid (IH f2 (by omega) z hzn (by omega) W hK)
          generalize exprT NT p f2 0 z = A0 at *
          generalize exprT NT p (f2 + 1) 0 y = A1 at *
          obtain ⟨g, gc, rfl, g1, g2⟩ := HK
          simp only [List.length_cons, List.length_nil, Nat.zero_add] at g1 g2
          have c1 := g2 1 (by omega)
          simp only [List.getElem_cons_zero, List.getElem_cons_succ] at c1
          obtain ⟨bk, ok, rfl, hbk, hck⟩ := hkf (by rw [hkk]; simp)
          have c9 := (IntEl.st w wr bk _ _ Kr hbk (hck 0 (by rw [hkk]; simp))).1
          simp only [hkk, List.getElem_cons_zero, Nat.zero_mul, Nat.add_zero] at c9
          generalize p[x] = m at *
          obtain ⟨⟨m0, -⟩, ⟨m1, -⟩, ⟨m2, -⟩, ⟨m3, -⟩, ⟨v4, m4, s4⟩, ⟨v5, m5, s5⟩⟩ := ex2
          obtain ⟨pk2, ck2, rfl, hmk2, hkf2⟩ := s4.form
          obtain ⟨pq2, cq2, rfl, -, -⟩ := s5.form
          obtain ⟨bk2, ok2, rfl, hbk2, hck2⟩ := hkf2 (by rw [hz]; simp)
          have c8 := (IntEl.st w wr bk2 _ _ Kr hbk2 (hck2 0 (by rw [hz]; simp))).1
          simp only [hz, List.getElem_cons_zero, Nat.zero_mul, Nat.add_zero] at c8
          have hml : m.kids.length = 1 := by rw [hz]; rfl
          replace m0 := (Kr.cell _ _ hbw).trans m0
          replace m1 := (Kr.cell _ _ hbw).trans m1
          replace m2 := (Kr.cell _ _ hbw).trans m2
          replace m3 := (Kr.cell _ _ hbw).trans m3
          replace m4 := (Kr.cell _ _ hbw).trans m4
          replace m5 := (Kr.cell _ _ hbw).trans m5
          rw [show n.kids.length = 2 from by rw [hkk]; rfl] at d4
          rw [hk] at d0
          have gl : g < wr.heap.size := World.block_lt_of_cell? wr _ c1
          have bk2l : bk2 < wr.heap.size := by have := Kr.size; omega
          have bl : b < wr.heap.size := by have := Kr.size; omega
          have bkl : bk < wr.heap.size := by have := Kr.size; omega
          have KS : ∀ W, Below wr.heap.size wr W → W.cell? ⟨w.heap.size, 1, none⟩ = some (.slice (some ⟨b, o, none⟩) p.length cap) ∧ W.cell? ⟨w.heap.size + 1, 4, none⟩ = some (.slice (some ⟨bk, ok, none⟩) 2 ck) ∧ W.cell? ⟨bk, ok, none⟩ = some (.int .i64 x) ∧ W.cell? ⟨b, o + x * 6, none⟩ = some (.int .i64 m.kind) ∧ W.cell? ⟨b, o + x * 6 + 1, none⟩ = some (.int .i64 m.at_) ∧ W.cell? ⟨b, o + x * 6 + 2, none⟩ = some (.int .i64 m.n) ∧ W.cell? ⟨b, o + x * 6 + 3, none⟩ = some (.string m.s) ∧ W.cell? ⟨b, o + x * 6 + 4, none⟩ = some (.slice (some ⟨bk2, ok2, none⟩) m.kids.length ck2) ∧ W.cell? ⟨b, o + x * 6 + 5, none⟩ = some (.slice pq2 m.pats.length cq2) := fun W h =>
            ⟨(h.cell (p := ⟨w.heap.size, 1, none⟩) (by show w.heap.size < _; omega)).trans b1, (h.cell (p := ⟨w.heap.size + 1, 4, none⟩) (by show w.heap.size + 1 < _; omega)).trans d4, (h.cell (p := ⟨bk, ok, none⟩) bkl).trans c9, (h.cell (p := ⟨b, o + x * 6, none⟩) bl).trans m0, (h.cell (p := ⟨b, o + x * 6 + 1, none⟩) bl).trans m1, (h.cell (p := ⟨b, o + x * 6 + 2, none⟩) bl).trans m2, (h.cell (p := ⟨b, o + x * 6 + 3, none⟩) bl).trans m3, (h.cell (p := ⟨b, o + x * 6 + 4, none⟩) bl).trans m4, (h.cell (p := ⟨b, o + x * 6 + 5, none⟩) bl).trans m5⟩
          have v1 : (x : Int) < p.length := by omega
          have HS2 := Lib.hid (show (⟨m.s.toList.toArray⟩ : ByteArray) = m.s from by rw [pr_toList])
          clear HU g2 hown hU hlen IH hnode hfst HE hkk hkid hn hk hbel hck hkf hkgt m0 m1 m2 m3 m4 m5 hz hkid2 hkgt2 hn2 hq2 hkf2 hck2 d5 d2
          go_wp2_with fail
          go_region_held3 (fun W => W.cell? ⟨w.heap.size, 1, none⟩ = some (.slice (some ⟨b, o, none⟩) p.length cap) ∧ W.cell? ⟨w.heap.size + 1, 4, none⟩ = some (.slice (some ⟨bk, ok, none⟩) 2 ck) ∧ W.cell? ⟨bk, ok, none⟩ = some (.int .i64 x) ∧ W.cell? ⟨b, o + x * 6, none⟩ = some (.int .i64 m.kind) ∧ W.cell? ⟨b, o + x * 6 + 1, none⟩ = some (.int .i64 m.at_) ∧ W.cell? ⟨b, o + x * 6 + 2, none⟩ = some (.int .i64 m.n) ∧ W.cell? ⟨b, o + x * 6 + 3, none⟩ = some (.string m.s) ∧ W.cell? ⟨b, o + x * 6 + 4, none⟩ = some (.slice (some ⟨bk2, ok2, none⟩) m.kids.length ck2) ∧ W.cell? ⟨b, o + x * 6 + 5, none⟩ = some (.slice pq2 m.pats.length cq2))
            (first | exact KS _ (Below.refl _ _) | exact KS _ (Below.refl _ _).drew | exact KS _ ((Below.refl _ _).drew.alloc (Nat.le_refl _) _) | exact KS _ (((Below.refl _ _).drew.alloc (Nat.le_refl _) _).setCell (Nat.le_refl _) _))
            (fail)
          clear KS
          go_wp2_with fail
          refine gen_world (P := fun W => Code.wp _ _ _ _ W) _ ?_
          intro W1 hW1
          have B1 : Below wr.heap.size wr W1 := by rw [hW1]; exact ((Below.refl _ _).alloc (Nat.le_refl _) _).drew
          have hb9 : W1.heap[wr.heap.size]? = some (.cells #[.int .i64 m.kind, .int .i64 m.at_, .int .i64 m.n, .string m.s, .slice (some ⟨bk2, ok2, none⟩) 1 ck2, .slice pq2 m.pats.length cq2] 49 (0, 0)) := by rw [hW1]; exact pp_alloc_at wr _ rfl
          have z1 : W1.heap.size = wr.heap.size + 1 := by rw [hW1]; simp
          clear hW1
          have e3 : W1.cell? ⟨wr.heap.size, 3, none⟩ = some (.string m.s) := (pp_blk_cell hb9 3).1
          have e4 : W1.cell? ⟨wr.heap.size, 4, none⟩ = some (.slice (some ⟨bk2, ok2, none⟩) 1 ck2) := (pp_blk_cell hb9 4).1
          have e0 := (B1.cell (p := ⟨w.heap.size, 0, none⟩) (by show w.heap.size < _; omega)).trans b0
          have e1 := (B1.cell (p := ⟨w.heap.size, 1, none⟩) (by show w.heap.size < _; omega)).trans b1
          have e5 := (B1.cell (p := ⟨w.heap.size + 1, 3, none⟩) (by show w.heap.size + 1 < _; omega)).trans d3
          have e6 := (B1.cell (p := ⟨bk2, ok2, none⟩) bk2l).trans c8
          have e7 := (B1.cell (p := ⟨g, 1, none⟩) gl).trans c1
          have B2 := below_tr Br B1
          have K2 := Kept.of_below B2
          clear hb9 b0 b1 d3 d4 c8 c9 c1
          have u0 : ¬ (9223372036854775807 < 9 + n.s.size) := by omega
          have u1 : ¬ (9223372036854775807 < 9 + n.s.size + 1) := by omega
          have u2 : ¬ (9223372036854775807 < 9 + n.s.size + 1 + m.s.size) := by omega
          have u3 : ¬ (9223372036854775807 < 9 + n.s.size + 1 + m.s.size + 3) := by omega
          have u4 : ¬ (9223372036854775807 < 9 + n.s.size + 1 + m.s.size + 3 + A0.length) := by omega
          have u5 : ¬ (9223372036854775807 < 9 + n.s.size + 1 + m.s.size + 3 + A0.length + 4) := by omega
          have u6 : ¬ (9223372036854775807 < 9 + n.s.size + 1 + m.s.size + 3 + A0.length + 4 + A1.length) := by omega
          have u7 : ¬ (9223372036854775807 < 9 + n.s.size + 1 + m.s.size + 3 + A0.length + 4 + A1.length + 1) := by omega
          have KS : ∀ W, Below W1.heap.size W1 W → W.cell? ⟨w.heap.size, 0, none⟩ = some (.slice pt nt ct) ∧ W.cell? ⟨w.heap.size, 1, none⟩ = some (.slice (some ⟨b, o, none⟩) p.length cap) ∧ W.cell? ⟨w.heap.size + 1, 3, none⟩ = some (.string n.s) ∧ W.cell? ⟨wr.heap.size, 3, none⟩ = some (.string m.s) ∧ W.cell? ⟨wr.heap.size, 4, none⟩ = some (.slice (some ⟨bk2, ok2, none⟩) 1 ck2) ∧ W.cell? ⟨bk2, ok2, none⟩ = some (.int .i64 z) ∧ W.cell? ⟨g, 1, none⟩ = some (.string ⟨A1.toArray⟩) ∧ Kept w W := fun W h =>
            ⟨(h.cell (p := ⟨w.heap.size, 0, none⟩) (by show w.heap.size < _; omega)).trans e0, (h.cell (p := ⟨w.heap.size, 1, none⟩) (by show w.heap.size < _; omega)).trans e1, (h.cell (p := ⟨w.heap.size + 1, 3, none⟩) (by show w.heap.size + 1 < _; omega)).trans e5, (h.cell (p := ⟨wr.heap.size, 3, none⟩) (by show wr.heap.size < _; omega)).trans e3, (h.cell (p := ⟨wr.heap.size, 4, none⟩) (by show wr.heap.size < _; omega)).trans e4, (h.cell (p := ⟨bk2, ok2, none⟩) (by show bk2 < _; omega)).trans e6, (h.cell (p := ⟨g, 1, none⟩) (by show g < _; omega)).trans e7, K2.trans (Kept.of_below h)⟩
          go_wp2_with fail
          go_region_held3 (fun W => W.cell? ⟨w.heap.size, 0, none⟩ = some (.slice pt nt ct) ∧ W.cell? ⟨w.heap.size, 1, none⟩ = some (.slice (some ⟨b, o, none⟩) p.length cap) ∧ W.cell? ⟨w.heap.size + 1, 3, none⟩ = some (.string n.s) ∧ W.cell? ⟨wr.heap.size, 3, none⟩ = some (.string m.s) ∧ W.cell? ⟨wr.heap.size, 4, none⟩ = some (.slice (some ⟨bk2, ok2, none⟩) 1 ck2) ∧ W.cell? ⟨bk2, ok2, none⟩ = some (.int .i64 z) ∧ W.cell? ⟨g, 1, none⟩ = some (.string ⟨A1.toArray⟩) ∧ Kept w W)
            (first | exact KS _ (Below.refl _ _) | exact KS _ (Below.refl _ _).drew | exact KS _ ((Below.refl _ _).drew.trans hbA))
            ((go_at_call 29; refine (T1 _ (K2.trans (by first | exact Kept.drew _ | exact Kept.refl _))).out.mono ?_; rintro e wA ⟨rfl, hbA⟩))
          go_wp2
          go_ret
          exact ⟨by rw [HB.out]; exact ret_str (by simp only [← str_app]; rw [HS.out, HS2.out]), below_tr B2 ((Below.refl _ _).drew.trans hbA)⟩
        · -- kind 9
          obtain ⟨x, y, z, hkk, hx, hy, hz⟩ := kids3 hkid (nk_kids hn 9 3 hk (by decide) (by decide) (by decide))
          have HB := Lib.hid (show exprT NT p (f' + 1) 0 a = [40, 105, 102, 32] ++ exprT NT p f' 0 x ++ [32, 116, 104, 101, 110, 32] ++ exprT NT p f' 0 y ++ [32, 101, 108, 115, 101, 32] ++ exprT NT p f' 0 z ++ [41] from by
            rw [hU (ncons hk (by decide)), mode0 hk (by decide) (by decide) (by decide), hkk, kF3]
            simp [NT, nodeT, hk])
          have HU := HE.out
          rw [hkk] at HU
          simp only [List.mapIdx_cons, List.mapIdx_nil, kTx, skip_no hk (by decide) (by decide), Bool.false_eq_true, if_false, Int.toNat_natCast] at HU
          have HK := krow hown rfl HU (by simp)
          have l0 := hlen f' 0 x (by omega)
          generalize exprT NT p f' 0 x = A0 at *
          have l1 := hlen f' 0 y (by omega)
          generalize exprT NT p f' 0 y = A1 at *
          have l2 := hlen f' 0 z (by omega)
          generalize exprT NT p f' 0 z = A2 at *
          obtain ⟨g, gc, rfl, g1, g2⟩ := HK
          simp only [List.length_cons, List.length_nil, Nat.zero_add] at g1 g2
          have c0 := g2 0 (by omega)
          have c1 := g2 1 (by omega)
          have c2 := g2 2 (by omega)
          simp only [List.getElem_cons_zero, List.getElem_cons_succ] at c0 c1 c2
          have HS := Lib.hid (show (⟨n.s.toList.toArray⟩ : ByteArray) = n.s from by rw [pr_toList])
          have u0 : ¬ (9223372036854775807 < 4 + A0.length) := by omega
          have u1 : ¬ (9223372036854775807 < 4 + A0.length + 6) := by omega
          have u2 : ¬ (9223372036854775807 < 4 + A0.length + 6 + A1.length) := by omega
          have u3 : ¬ (9223372036854775807 < 4 + A0.length + 6 + A1.length + 6) := by omega
          have u4 : ¬ (9223372036854775807 < 4 + A0.length + 6 + A1.length + 6 + A2.length) := by omega
          have u5 : ¬ (9223372036854775807 < 4 + A0.length + 6 + A1.length + 6 + A2.length + 1) := by omega
          rw [hk] at d0
          clear HU g2 hown hU hlen IH hnode hfst HE hkk hkid hn hk hbel hkf hkgt l0 l1 l2
          go_wp2_with fail
          go_quiet (fail)
          go_wp2
          go_ret
          exact ⟨by rw [HB.out]; exact ret_str (by simp only [← str_app]), below_drewN Br _⟩
        · -- kind 10
          obtain ⟨x, y, hkk, hx, hy⟩ := kids2 hkid (nk_kids hn 10 2 hk (by decide) (by decide) (by decide))
          have HB := Lib.hid (show exprT NT p (f' + 1) 0 a = [40] ++ exprT NT p f' 0 x ++ [32] ++ n.s.toList ++ [32] ++ exprT NT p f' 0 y ++ [41] from by
            rw [hU (ncons hk (by decide)), mode0 hk (by decide) (by decide) (by decide), hkk, kF2]
            simp [NT, nodeT, hk])
          have HU := HE.out
          rw [hkk] at HU
          simp only [List.mapIdx_cons, List.mapIdx_nil, kTx, skip_no hk (by decide) (by decide), Bool.false_eq_true, if_false, Int.toNat_natCast] at HU
          have HK := krow hown rfl HU (by simp)
          have l0 := hlen f' 0 x (by omega)
          generalize exprT NT p f' 0 x = A0 at *
          have l1 := hlen f' 0 y (by omega)
          generalize exprT NT p f' 0 y = A1 at *
          obtain ⟨g, gc, rfl, g1, g2⟩ := HK
          simp only [List.length_cons, List.length_nil, Nat.zero_add] at g1 g2
          have c0 := g2 0 (by omega)
          have c1 := g2 1 (by omega)
          simp only [List.getElem_cons_zero, List.getElem_cons_succ] at c0 c1
          have HS := Lib.hid (show (⟨n.s.toList.toArray⟩ : ByteArray) = n.s from by rw [pr_toList])
          have u0 : ¬ (9223372036854775807 < 1 + A0.length) := by omega
          have u1 : ¬ (9223372036854775807 < 1 + A0.length + 1) := by omega
          have u2 : ¬ (9223372036854775807 < 1 + A0.length + 1 + n.s.size) := by omega
          have u3 : ¬ (9223372036854775807 < 1 + A0.length + 1 + n.s.size + 1) := by omega
          have u4 : ¬ (9223372036854775807 < 1 + A0.length + 1 + n.s.size + 1 + A1.length) := by omega
          have u5 : ¬ (9223372036854775807 < 1 + A0.length + 1 + n.s.size + 1 + A1.length + 1) := by omega
          rw [hk] at d0
          clear HU g2 hown hU hlen IH hnode hfst HE hkk hkid hn hk hbel hkf hkgt l0 l1
          go_wp2_with fail
          go_quiet (fail)
          go_wp2
          go_ret
          exact ⟨by rw [HB.out]; exact ret_str (by simp only [← str_app]; rw [HS.out]), below_drewN Br _⟩
        · -- kind 11
          obtain ⟨x, y, hkk, hx, hy⟩ := kids2 hkid (nk_kids hn 11 2 hk (by decide) (by decide) (by decide))
          have HB := Lib.hid (show exprT NT p (f' + 1) 0 a = [40] ++ exprT NT p f' 0 x ++ [44, 32] ++ exprT NT p f' 0 y ++ [41] from by
            rw [hU (ncons hk (by decide)), mode0 hk (by decide) (by decide) (by decide), hkk, kF2]
            simp [NT, nodeT, hk])
          have HU := HE.out
          rw [hkk] at HU
          simp only [List.mapIdx_cons, List.mapIdx_nil, kTx, skip_no hk (by decide) (by decide), Bool.false_eq_true, if_false, Int.toNat_natCast] at HU
          have HK := krow hown rfl HU (by simp)
          have l0 := hlen f' 0 x (by omega)
          generalize exprT NT p f' 0 x = A0 at *
          have l1 := hlen f' 0 y (by omega)
          generalize exprT NT p f' 0 y = A1 at *
          obtain ⟨g, gc, rfl, g1, g2⟩ := HK
          simp only [List.length_cons, List.length_nil, Nat.zero_add] at g1 g2
          have c0 := g2 0 (by omega)
          have c1 := g2 1 (by omega)
          simp only [List.getElem_cons_zero, List.getElem_cons_succ] at c0 c1
          have HS := Lib.hid (show (⟨n.s.toList.toArray⟩ : ByteArray) = n.s from by rw [pr_toList])
          have u0 : ¬ (9223372036854775807 < 1 + A0.length) := by omega
          have u1 : ¬ (9223372036854775807 < 1 + A0.length + 2) := by omega
          have u2 : ¬ (9223372036854775807 < 1 + A0.length + 2 + A1.length) := by omega
          have u3 : ¬ (9223372036854775807 < 1 + A0.length + 2 + A1.length + 1) := by omega
          rw [hk] at d0
          clear HU g2 hown hU hlen IH hnode hfst HE hkk hkid hn hk hbel hkf hkgt l0 l1
          go_wp2_with fail
          go_quiet (fail)
          go_wp2
          go_ret
          exact ⟨by rw [HB.out]; exact ret_str (by simp only [← str_app]), below_drewN Br _⟩
        · -- kind 12
          have HS := Lib.hid (show (⟨n.s.toList.toArray⟩ : ByteArray) = n.s from by rw [pr_toList])
          have hk0 : n.kids = [] := List.eq_nil_of_length_eq_zero (nk_kids hn 12 0 hk (by decide) (by decide) (by decide))
          have HB := Lib.hid (show exprT NT p (f' + 1) 0 a = [40, 41] from by
            rw [hU (ncons hk (by decide)), hk0, kF0]
            simp [NT, nodeT, hk])
          rw [hk] at d0
          clear hown hU hlen IH hnode hfst HE hkid hk hbel hk0 hkf hkgt
          go_wp2
          go_ret
          exact ⟨by rw [HB.out]; rfl, Br⟩
        · -- kind 13
          have HS := Lib.hid (show (⟨n.s.toList.toArray⟩ : ByteArray) = n.s from by rw [pr_toList])
          have hpp : n.kids.length = n.pats.length + 1 ∧ 0 < n.pats.length ∧ ∀ q ∈ n.pats, patOkB q = true := by
            have h := hn
            simp only [isNodeB, Bool.and_eq_true] at h
            obtain ⟨_, _, _, h4, h5⟩ := h
            unfold rkB at h4
            unfold rpB at h5
            rw [if_pos hk] at h5
            rw [hk] at h4
            simp at h4
            simp only [Bool.and_eq_true, decide_eq_true_eq, List.all_eq_true] at h5
            exact ⟨by omega, by omega, h5.2⟩
          obtain ⟨hpk, hp0, hpq⟩ := hpp
          have HB := Lib.hid (show exprT NT p (f' + 1) 0 a = _ from ex_match (f := f') ha (by rw [hq']; exact hk) (by rw [hq']; exact hpk) (by rw [hq']; exact hp0))
          rw [hq'] at HB
          have hol := fun k (h : k ≤ n.pats.length) => outI_le (f := f') ha (by rw [hq']; exact hk) (by rw [hq']; exact hpk) (hlen (f' + 1) 0 a ha) k (by rw [hq']; exact h)
          rw [hq'] at hol
          have HU := HE.out
          have hmm : (n.kids.mapIdx fun j k => kTx (exprT NT p f' 0) n j k) = n.kids.map fun k => exprT NT p f' 0 k.toNat := by
            apply List.ext_getElem
            · simp
            · intro j h1 h2
              simp [kTx, skip_no hk (by decide) (by decide)]
          rw [hmm] at HU
          obtain ⟨K, hK⟩ : ∃ K, K = n.kids.map fun k => exprT NT p f' 0 k.toNat := ⟨_, rfl⟩
          rw [← hK] at HU HB hol
          have hKl : K.length = n.pats.length + 1 := by rw [hK, List.length_map, hpk]
          have hKe : ∀ j (h : j < K.length), K[j].length ≤ 6000000000 := fun j h => by
            subst hK
            rw [List.getElem_map]
            have := hkid n.kids[j] (List.getElem_mem (by simpa using h))
            exact hlen f' 0 _ (by omega)
          have HK := krow hown rfl HU (by omega)
          obtain ⟨g, gc, rfl, g1, g2⟩ := HK
          have c0 := g2 0 (by omega)
          have hk0 := hKe 0 (by omega)
          have O0 := Lib.hid (outI_0 hk (K := K) (by omega))
          have OS := fun k h h2 => Lib.hid (outI_s hk (K := K) (k := k) h h2)
          have gl : g < wr.heap.size := World.block_lt_of_cell? wr _ c0
          obtain ⟨pt5, cq5, hpe, -, hqf5⟩ := hr5.form
          cases hpe
          obtain ⟨b5, o5, rfl, hb5, hc5⟩ := hqf5 hp0
          have hpl5 : n.pats.length ≤ 1048576 := by omega
          have hgc : K.length ≤ gc := g1
          rw [hk] at d0
          obtain ⟨A0, hA0⟩ : ∃ A0, A0 = K[0] := ⟨_, rfl⟩
          rw [← hA0] at c0 hk0
          have O0' := Lib.hid (show outI (NT n) K 0 = [40, 109, 97, 116, 99, 104, 32] ++ A0 ++ [32, 119, 105, 116, 104, 32] from by rw [O0.out, ← hA0])
          have u0 : ¬ (9223372036854775807 < 7 + A0.length) := by omega
          have u1 : ¬ (9223372036854775807 < 7 + A0.length + 6) := by omega
          have G2 := Lib.hid g2
          clear g2 hK
          clear hown hU hlen IH hnode hfst HE hmm HU hkid hn hbel hkf hkgt hul O0 hA0 r4 r5 hr5
          have kl0 : 0 < K.length := by omega
          have u2 : 7 + A0.length ≤ 9223372036854775807 := by omega
          have u3 : 7 + A0.length + 6 ≤ 9223372036854775807 := by omega
          have HKl := Lib.hid hKl
          clear hKl hpk hk
          have kl1 : (0 : Int) < (K.length : Int) := by omega
          go_wp2
          generalize wr = wo at *
          go_loopw [12, 328] (fun vo i wr => ∃ k : Nat, i = .int .i64 k ∧ k ≤ n.pats.length ∧ vo = .string ⟨(outI (NT n) K k).toArray⟩ ∧ Below wo.heap.size wo wr) (fun _ i _ => n.pats.length - (intOf i).toNat)
          case atStart => exact ⟨0, rfl, Nat.zero_le _, by rw [O0'.out]; simp only [← str_app], Below.refl _ _⟩
          case round =>
            obtain ⟨k, rfl, hkm, rfl, hbo⟩ := hrel
            have hol1 := hol k hkm
            have Bw := below_tr Br hbo
            have Kw := Kept.of_below Bw
            have hKl := HKl.out
            by_cases hlt : k < n.pats.length
            · have hE := OS k hlt (by omega)
              obtain ⟨vq, eq5, rq⟩ := hc5 k hlt
              rw [Nat.mul_one] at eq5
              have hqk := hpq n.pats[k] (List.getElem_mem hlt)
              have hpl := pTxt_len hqk
              obtain ⟨q0, q1⟩ := patOk_len hqk
              have HP := fun W (hK : Kept w W) => Lib.hid (sPatText n.pats[k] (patV_of hqk) q1 (n.pats[k].length + 1) _ 0 W (rq.kept PNEl.st hK) q0 (by omega))
              have rq' := rq
              obtain ⟨pv, cv, rfl, -, -⟩ := rq'.form
              clear rq'
              have hKk := hKe (k + 1) (by omega)
              have ck1 := (hbo.cell (p := ⟨g, k + 1, none⟩) gl).trans (G2.out (k + 1) (by omega))
              have e5 := (Kw.cell _ _ hb5).trans eq5
              obtain ⟨A1, hA1⟩ : ∃ A1, A1 = K[k + 1] := ⟨_, rfl⟩
              obtain ⟨A2, hA2⟩ : ∃ A2, A2 = pTxt n.pats[k] := ⟨_, rfl⟩
              rw [← hA1] at ck1 hKk
              rw [← hA2] at hpl
              have HE2 := Lib.hid (show outI (NT n) K (k + 1) = (if k = 0 then outI (NT n) K k else outI (NT n) K k ++ [32, 124, 32]) ++ A2 ++ [32, 45, 62, 32] ++ A1 from by rw [hE.out, ← hA1, ← hA2])
              have HP2 := fun W (hK : Kept w W) => Lib.hid (show Calls Tryz.prog 62 #[.agg #[.slice pv n.pats[k].length cv], .int .i64 0] W fun e w' => e = .returned (.string ⟨A2.toArray⟩) ∧ Below W.heap.size W w' from by rw [hA2]; exact (HP W hK).out)
              clear HP
              generalize n.pats[k].length = lv at *
              have d5w := (hbo.cell (p := ⟨w.heap.size + 1, 5, none⟩) (by show w.heap.size + 1 < _; omega)).trans d5
              clear hE hA1 hA2 rq hc5 OS G2 hKe hol O0' u0 u1
              generalize outI (NT n) K k = B at *
              by_cases hk0' : k = 0
              · have HE3 := Lib.hid (show outI (NT n) K (k + 1) = B ++ A2 ++ [32, 45, 62, 32] ++ A1 from by rw [HE2.out, if_pos hk0'])
                have t0 : decide ((0 : Int) < (k : Int)) = false := by simp; omega
                have t0' : decide (0 < k) = false := by simp; omega
                clear HE2
                have u0 : ¬ (9223372036854775807 < B.length + A2.length) := by omega
                have u1 : ¬ (9223372036854775807 < B.length + A2.length + 4) := by omega
                have u2 : ¬ (9223372036854775807 < B.length + A2.length + 4 + A1.length) := by omega
                have t2 : ((k : Int) + 1 < (K.length : Int)) := by omega
                have t4 : (0 : Int) ≤ (k : Int) + 1 := by omega
                have t5 : ((k : Int) + 1).toNat = k + 1 := by omega
                have t6 : k + 1 < K.length := by omega
                have t3 : IntKind.i64.wrap ((k : Int) + 1) = (k : Int) + 1 := IntWalk.i64_in _ (by omega)
                have hm5 : n.pats.length ≤ 1048576 := hpl5
                clear hk0' hk0 hKl
                go_wp2_with fail
                refine gen_world (P := fun W => Code.wp _ _ _ _ W) _ ?_
                intro W1 hW1
                have B1 : Below wr.heap.size wr W1 := by rw [hW1]; exact Joins.below_alloc1 wr _
                have e6 : W1.cell? ⟨wr.heap.size, 0, none⟩ = some (.slice pv lv cv) := by rw [hW1]; simp
                have z1 : W1.heap.size = wr.heap.size + 1 := by rw [hW1]; simp
                have e7 := (B1.cell (p := ⟨g, k + 1, none⟩) (by have := hbo.size; show g < _; omega)).trans ck1
                have B2 := below_tr Bw B1
                have K2 := Kept.of_below B2
                have gl2 : g < wr.heap.size := by have := hbo.size; omega
                have B3 := below_tr hbo B1
                clear hW1
                have KS : ∀ W, Below W1.heap.size W1 W → W.cell? ⟨wr.heap.size, 0, none⟩ = some (.slice pv lv cv) ∧ W.cell? ⟨g, k + 1, none⟩ = some (.string ⟨A1.toArray⟩) ∧ Kept w W := fun W h => ⟨(h.cell (p := ⟨wr.heap.size, 0, none⟩) (by show wr.heap.size < _; omega)).trans e6, (h.cell (p := ⟨g, k + 1, none⟩) (by show g < _; omega)).trans e7, K2.trans (Kept.of_below h)⟩
                go_region_held3 (fun W => W.cell? ⟨wr.heap.size, 0, none⟩ = some (.slice pv lv cv) ∧ W.cell? ⟨g, k + 1, none⟩ = some (.string ⟨A1.toArray⟩) ∧ Kept w W)
                  (first | exact KS _ (Below.refl _ _) | exact KS _ (Below.refl _ _).drew | exact KS _ ((Below.refl _ _).drew.trans hbA))
                  ((go_at_call 62; refine (HP2 _ (K2.trans (by first | exact Kept.drew _ | exact Kept.refl _))).out.mono ?_; rintro e wA ⟨rfl, hbA⟩))
                go_wp2
                go_roundw
                case rel => exact ⟨k + 1, by go_num, by omega, by rw [HE3.out]; simp only [← str_app], below_tr B3 ((Below.refl _ _).drew.trans hbA)⟩
                case measure => simp [intOf]; omega
              · have HE3 := Lib.hid (show outI (NT n) K (k + 1) = B ++ [32, 124, 32] ++ A2 ++ [32, 45, 62, 32] ++ A1 from by rw [HE2.out, if_neg hk0'])
                have t0 : (0 : Int) < (k : Int) := by omega
                have t0' : 0 < k := by omega
                clear HE2
                have u9 : ¬ (9223372036854775807 < B.length + 3) := by omega
                have u0 : ¬ (9223372036854775807 < B.length + 3 + A2.length) := by omega
                have u1 : ¬ (9223372036854775807 < B.length + 3 + A2.length + 4) := by omega
                have u2 : ¬ (9223372036854775807 < B.length + 3 + A2.length + 4 + A1.length) := by omega
                have t2 : ((k : Int) + 1 < (K.length : Int)) := by omega
                have t4 : (0 : Int) ≤ (k : Int) + 1 := by omega
                have t5 : ((k : Int) + 1).toNat = k + 1 := by omega
                have t6 : k + 1 < K.length := by omega
                have t3 : IntKind.i64.wrap ((k : Int) + 1) = (k : Int) + 1 := IntWalk.i64_in _ (by omega)
                have hm5 : n.pats.length ≤ 1048576 := hpl5
                clear hk0' hk0 hKl
                go_wp2_with fail
                refine gen_world (P := fun W => Code.wp _ _ _ _ W) _ ?_
                intro W1 hW1
                have B1 : Below wr.heap.size wr W1 := by rw [hW1]; exact Joins.below_alloc1 wr _
                have e6 : W1.cell? ⟨wr.heap.size, 0, none⟩ = some (.slice pv lv cv) := by rw [hW1]; simp
                have z1 : W1.heap.size = wr.heap.size + 1 := by rw [hW1]; simp
                have e7 := (B1.cell (p := ⟨g, k + 1, none⟩) (by have := hbo.size; show g < _; omega)).trans ck1
                have B2 := below_tr Bw B1
                have K2 := Kept.of_below B2
                have gl2 : g < wr.heap.size := by have := hbo.size; omega
                have B3 := below_tr hbo B1
                clear hW1
                have KS : ∀ W, Below W1.heap.size W1 W → W.cell? ⟨wr.heap.size, 0, none⟩ = some (.slice pv lv cv) ∧ W.cell? ⟨g, k + 1, none⟩ = some (.string ⟨A1.toArray⟩) ∧ Kept w W := fun W h => ⟨(h.cell (p := ⟨wr.heap.size, 0, none⟩) (by show wr.heap.size < _; omega)).trans e6, (h.cell (p := ⟨g, k + 1, none⟩) (by show g < _; omega)).trans e7, K2.trans (Kept.of_below h)⟩
                go_region_held3 (fun W => W.cell? ⟨wr.heap.size, 0, none⟩ = some (.slice pv lv cv) ∧ W.cell? ⟨g, k + 1, none⟩ = some (.string ⟨A1.toArray⟩) ∧ Kept w W)
                  (first | exact KS _ (Below.refl _ _) | exact KS _ (Below.refl _ _).drew | exact KS _ ((Below.refl _ _).drew.trans hbA))
                  ((go_at_call 62; refine (HP2 _ (K2.trans (by first | exact Kept.drew _ | exact Kept.refl _))).out.mono ?_; rintro e wA ⟨rfl, hbA⟩))
                go_wp2
                go_roundw
                case rel => exact ⟨k + 1, by go_num, by omega, by rw [HE3.out]; simp only [← str_app], below_tr B3 ((Below.refl _ _).drew.trans hbA)⟩
                case measure => simp [intOf]; omega
            · obtain rfl : k = n.pats.length := by omega
              generalize outI (NT n) K n.pats.length = B at *
              have u9 : ¬ (9223372036854775807 < B.length + 5) := by omega
              have u8 : B.length + 5 ≤ 9223372036854775807 := by omega
              clear hol OS G2 hKe hc5 O0'
              go_wp2
              go_ret
              exact ⟨by rw [HB.out]; exact ret_str (by simp only [← str_app]), Bw⟩
        · -- kind 14
          obtain ⟨x, hkk, hx⟩ := kids1 hkid (nk_kids hn 14 1 hk (by decide) (by decide) (by decide))
          have HB := Lib.hid (show exprT NT p (f' + 1) 0 a = [40, 114, 97, 105, 115, 101, 32] ++ exprT NT p f' 0 x ++ [41] from by
            rw [hU (ncons hk (by decide)), mode0 hk (by decide) (by decide) (by decide), hkk, kF1]
            simp [NT, nodeT, hk])
          have HU := HE.out
          rw [hkk] at HU
          simp only [List.mapIdx_cons, List.mapIdx_nil, kTx, skip_no hk (by decide) (by decide), Bool.false_eq_true, if_false, Int.toNat_natCast] at HU
          have HK := krow hown rfl HU (by simp)
          have l0 := hlen f' 0 x (by omega)
          generalize exprT NT p f' 0 x = A0 at *
          obtain ⟨g, gc, rfl, g1, g2⟩ := HK
          simp only [List.length_cons, List.length_nil, Nat.zero_add] at g1 g2
          have c0 := g2 0 (by omega)
          simp only [List.getElem_cons_zero] at c0
          have HS := Lib.hid (show (⟨n.s.toList.toArray⟩ : ByteArray) = n.s from by rw [pr_toList])
          have u0 : ¬ (9223372036854775807 < 7 + A0.length) := by omega
          have u1 : ¬ (9223372036854775807 < 7 + A0.length + 1) := by omega
          rw [hk] at d0
          clear HU g2 hown hU hlen IH hnode hfst HE hkk hkid hn hk hbel hkf hkgt l0
          go_wp2
          go_ret
          exact ⟨by rw [HB.out]; exact ret_str (by simp only [← str_app]), Br⟩
        · -- kind 15
          obtain ⟨x, y, hkk, hx, hy⟩ := kids2 hkid (nk_kids hn 15 2 hk (by decide) (by decide) (by decide))
          have HB := Lib.hid (show exprT NT p (f' + 1) 0 a = [40, 116, 114, 121, 32] ++ exprT NT p f' 0 x ++ [32, 119, 105, 116, 104, 32] ++ n.s.toList ++ [32, 45, 62, 32] ++ exprT NT p f' 0 y ++ [32, 101, 110, 100, 41] from by
            rw [hU (ncons hk (by decide)), mode0 hk (by decide) (by decide) (by decide), hkk, kF2]
            simp [NT, nodeT, hk])
          have HU := HE.out
          rw [hkk] at HU
          simp only [List.mapIdx_cons, List.mapIdx_nil, kTx, skip_no hk (by decide) (by decide), Bool.false_eq_true, if_false, Int.toNat_natCast] at HU
          have HK := krow hown rfl HU (by simp)
          have l0 := hlen f' 0 x (by omega)
          generalize exprT NT p f' 0 x = A0 at *
          have l1 := hlen f' 0 y (by omega)
          generalize exprT NT p f' 0 y = A1 at *
          obtain ⟨g, gc, rfl, g1, g2⟩ := HK
          simp only [List.length_cons, List.length_nil, Nat.zero_add] at g1 g2
          have c0 := g2 0 (by omega)
          have c1 := g2 1 (by omega)
          simp only [List.getElem_cons_zero, List.getElem_cons_succ] at c0 c1
          have HS := Lib.hid (show (⟨n.s.toList.toArray⟩ : ByteArray) = n.s from by rw [pr_toList])
          have u0 : ¬ (9223372036854775807 < 5 + A0.length) := by omega
          have u1 : ¬ (9223372036854775807 < 5 + A0.length + 6) := by omega
          have u2 : ¬ (9223372036854775807 < 5 + A0.length + 6 + n.s.size) := by omega
          have u3 : ¬ (9223372036854775807 < 5 + A0.length + 6 + n.s.size + 4) := by omega
          have u4 : ¬ (9223372036854775807 < 5 + A0.length + 6 + n.s.size + 4 + A1.length) := by omega
          have u5 : ¬ (9223372036854775807 < 5 + A0.length + 6 + n.s.size + 4 + A1.length + 5) := by omega
          rw [hk] at d0
          clear HU g2 hown hU hlen IH hnode hfst HE hkk hkid hn hk hbel hkf hkgt l0 l1
          go_wp2_with fail
          go_quiet (fail)
          go_wp2
          go_ret
          exact ⟨by rw [HB.out]; exact ret_str (by simp only [← str_app]; rw [HS.out]), below_drewN Br _⟩
        · -- kind 16
          obtain ⟨x, hkk, hx⟩ := kids1 hkid (nk_kids hn 16 1 hk (by decide) (by decide) (by decide))
          have HB := Lib.hid (show exprT NT p (f' + 1) 0 a = [40, 114, 101, 102, 32] ++ exprT NT p f' 0 x ++ [41] from by
            rw [hU (ncons hk (by decide)), mode0 hk (by decide) (by decide) (by decide), hkk, kF1]
            simp [NT, nodeT, hk])
          have HU := HE.out
          rw [hkk] at HU
          simp only [List.mapIdx_cons, List.mapIdx_nil, kTx, skip_no hk (by decide) (by decide), Bool.false_eq_true, if_false, Int.toNat_natCast] at HU
          have HK := krow hown rfl HU (by simp)
          have l0 := hlen f' 0 x (by omega)
          generalize exprT NT p f' 0 x = A0 at *
          obtain ⟨g, gc, rfl, g1, g2⟩ := HK
          simp only [List.length_cons, List.length_nil, Nat.zero_add] at g1 g2
          have c0 := g2 0 (by omega)
          simp only [List.getElem_cons_zero] at c0
          have HS := Lib.hid (show (⟨n.s.toList.toArray⟩ : ByteArray) = n.s from by rw [pr_toList])
          have u0 : ¬ (9223372036854775807 < 5 + A0.length) := by omega
          have u1 : ¬ (9223372036854775807 < 5 + A0.length + 1) := by omega
          rw [hk] at d0
          clear HU g2 hown hU hlen IH hnode hfst HE hkk hkid hn hk hbel hkf hkgt l0
          go_wp2
          go_ret
          exact ⟨by rw [HB.out]; exact ret_str (by simp only [← str_app]), Br⟩
        · -- kind 17
          obtain ⟨x, hkk, hx⟩ := kids1 hkid (nk_kids hn 17 1 hk (by decide) (by decide) (by decide))
          have HB := Lib.hid (show exprT NT p (f' + 1) 0 a = [40, 33, 32] ++ exprT NT p f' 0 x ++ [41] from by
            rw [hU (ncons hk (by decide)), mode0 hk (by decide) (by decide) (by decide), hkk, kF1]
            simp [NT, nodeT, hk])
          have HU := HE.out
          rw [hkk] at HU
          simp only [List.mapIdx_cons, List.mapIdx_nil, kTx, skip_no hk (by decide) (by decide), Bool.false_eq_true, if_false, Int.toNat_natCast] at HU
          have HK := krow hown rfl HU (by simp)
          have l0 := hlen f' 0 x (by omega)
          generalize exprT NT p f' 0 x = A0 at *
          obtain ⟨g, gc, rfl, g1, g2⟩ := HK
          simp only [List.length_cons, List.length_nil, Nat.zero_add] at g1 g2
          have c0 := g2 0 (by omega)
          simp only [List.getElem_cons_zero] at c0
          have HS := Lib.hid (show (⟨n.s.toList.toArray⟩ : ByteArray) = n.s from by rw [pr_toList])
          have u0 : ¬ (9223372036854775807 < 3 + A0.length) := by omega
          have u1 : ¬ (9223372036854775807 < 3 + A0.length + 1) := by omega
          rw [hk] at d0
          clear HU g2 hown hU hlen IH hnode hfst HE hkk hkid hn hk hbel hkf hkgt l0
          go_wp2
          go_ret
          exact ⟨by rw [HB.out]; exact ret_str (by simp only [← str_app]), Br⟩
        · -- kind 18
          obtain ⟨x, y, hkk, hx, hy⟩ := kids2 hkid (nk_kids hn 18 2 hk (by decide) (by decide) (by decide))
          have HB := Lib.hid (show exprT NT p (f' + 1) 0 a = [40] ++ exprT NT p f' 0 x ++ [32, 58, 61, 32] ++ exprT NT p f' 0 y ++ [41] from by
            rw [hU (ncons hk (by decide)), mode0 hk (by decide) (by decide) (by decide), hkk, kF2]
            simp [NT, nodeT, hk])
          have HU := HE.out
          rw [hkk] at HU
          simp only [List.mapIdx_cons, List.mapIdx_nil, kTx, skip_no hk (by decide) (by decide), Bool.false_eq_true, if_false, Int.toNat_natCast] at HU
          have HK := krow hown rfl HU (by simp)
          have l0 := hlen f' 0 x (by omega)
          generalize exprT NT p f' 0 x = A0 at *
          have l1 := hlen f' 0 y (by omega)
          generalize exprT NT p f' 0 y = A1 at *
          obtain ⟨g, gc, rfl, g1, g2⟩ := HK
          simp only [List.length_cons, List.length_nil, Nat.zero_add] at g1 g2
          have c0 := g2 0 (by omega)
          have c1 := g2 1 (by omega)
          simp only [List.getElem_cons_zero, List.getElem_cons_succ] at c0 c1
          have HS := Lib.hid (show (⟨n.s.toList.toArray⟩ : ByteArray) = n.s from by rw [pr_toList])
          have u0 : ¬ (9223372036854775807 < 1 + A0.length) := by omega
          have u1 : ¬ (9223372036854775807 < 1 + A0.length + 4) := by omega
          have u2 : ¬ (9223372036854775807 < 1 + A0.length + 4 + A1.length) := by omega
          have u3 : ¬ (9223372036854775807 < 1 + A0.length + 4 + A1.length + 1) := by omega
          rw [hk] at d0
          clear HU g2 hown hU hlen IH hnode hfst HE hkk hkid hn hk hbel hkf hkgt l0 l1
          go_wp2_with fail
          go_quiet (fail)
          go_wp2
          go_ret
          exact ⟨by rw [HB.out]; exact ret_str (by simp only [← str_app]), below_drewN Br _⟩
        · -- kind 19
          obtain ⟨x, y, hkk, hx, hy⟩ := kids2 hkid (nk_kids hn 19 2 hk (by decide) (by decide) (by decide))
          have HB := Lib.hid (show exprT NT p (f' + 1) 0 a = [40] ++ exprT NT p f' 0 x ++ [59, 32] ++ exprT NT p f' 0 y ++ [41] from by
            rw [hU (ncons hk (by decide)), mode0 hk (by decide) (by decide) (by decide), hkk, kF2]
            simp [NT, nodeT, hk])
          have HU := HE.out
          rw [hkk] at HU
          simp only [List.mapIdx_cons, List.mapIdx_nil, kTx, skip_no hk (by decide) (by decide), Bool.false_eq_true, if_false, Int.toNat_natCast] at HU
          have HK := krow hown rfl HU (by simp)
          have l0 := hlen f' 0 x (by omega)
          generalize exprT NT p f' 0 x = A0 at *
          have l1 := hlen f' 0 y (by omega)
          generalize exprT NT p f' 0 y = A1 at *
          obtain ⟨g, gc, rfl, g1, g2⟩ := HK
          simp only [List.length_cons, List.length_nil, Nat.zero_add] at g1 g2
          have c0 := g2 0 (by omega)
          have c1 := g2 1 (by omega)
          simp only [List.getElem_cons_zero, List.getElem_cons_succ] at c0 c1
          have HS := Lib.hid (show (⟨n.s.toList.toArray⟩ : ByteArray) = n.s from by rw [pr_toList])
          have u0 : ¬ (9223372036854775807 < 1 + A0.length) := by omega
          have u1 : ¬ (9223372036854775807 < 1 + A0.length + 2) := by omega
          have u2 : ¬ (9223372036854775807 < 1 + A0.length + 2 + A1.length) := by omega
          have u3 : ¬ (9223372036854775807 < 1 + A0.length + 2 + A1.length + 1) := by omega
          rw [hk] at d0
          clear HU g2 hown hU hlen IH hnode hfst HE hkk hkid hn hk hbel hkf hkgt l0 l1
          go_wp2_with fail
          go_quiet (fail)
          go_wp2
          go_ret
          exact ⟨by rw [HB.out]; exact ret_str (by simp only [← str_app]), below_drewN Br _⟩
end Go.Proofs.YtaibgnfjjbncpaaGreat
