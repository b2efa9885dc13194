/- The model's match of a pattern. -/
import Derived.Test.YtkalkmgnjlohnaaHtS
import Derived.Laws.AppendOwnNone
namespace Go.Proofs.Ytkalkmgnjlohnaa
set_option linter.unusedVariables false
set_option maxRecDepth 100000
open Go.ChangeShapes Go.WideShapes Go.ChangeAt Go.RowKit

/-- What a match hands back. -/
def HitPost (r : Option (List (List DN))) (w : World) (e : Ending) (w' : World) : Prop :=
  ∃ (a : Option Addr) (c : Nat) (zs : List (List Value × List DN × List Nat)), e = .returned (.tuple #[.slice a zs.length c, .bool r.isSome]) ∧ Grow 1 DataCell w.heap.size 29 w' (.slice a zs.length c) zs ∧ zs.map (·.2.1) = r.getD [] ∧ Below w.heap.size w w'
theorem own_dn {B B2 e m n : Nat} {w : World} {v : Value} {xs : List Value} (h : w.ownsRow B e m v n xs) (hB : B2 ≤ B) : w.ownsRow B2 e m v n xs := by
  obtain ⟨h0, h1 | ⟨g, cap, cur, rfl, h1, h2⟩⟩ := h
  · exact ⟨h0, .inl h1⟩
  · exact ⟨h0, .inr ⟨g, cap, cur, rfl, Nat.le_trans hB h1, h2⟩⟩
theorem Grow.mono {α : Type} {n : Nat} {ED : CellRd α} {B B' e : Nat} {w : World} {v : Value} {zs : List (List Value × α × List Nat)} (h : Grow n ED B e w v zs) (hB : B' ≤ B) : Grow n ED B' e w v zs :=
  ⟨own_dn h.own hB, h.el, fun z hz g hg => ⟨by have := (h.lo z hz g hg).1; omega, (h.lo z hz g hg).2⟩, h.nd⟩
theorem grow_one {w : World} {B e : Nat} {u : Value} {x : List DN} {F : List Nat} (hF : RowOwn 4 DNOwn w u x F) (hlo : ∀ g ∈ F, B ≤ g) (hnd : F.Nodup) (hB : B ≤ w.heap.size) (h1 : u.oneCell' = true) {n : Nat} (hn : n = w.heap.size) :
    Grow 1 DataCell B e (w.alloc (.cells #[u] e)) (.slice (some ⟨n, 0, none⟩) 1 1) [([u], x, F)] := by
  subst hn
  have hs := hF.sized DNOwn.sized
  refine ⟨?_, fun z hz => ?_, fun z hz g hg => ?_, by simpa using hnd⟩
  · exact World.ownsRow_lit w #[u] 1 hB (by decide) (by simp)
  · rw [List.mem_singleton.1 hz]
    refine ⟨⟨u, rfl, hF.loc DNOwn.loc (by simp) fun g hg => alloc_was _ _ _ (hs g hg)⟩, rfl, fun y hy => ?_⟩
    rw [List.mem_singleton.1 hy]; exact h1
  · rw [List.mem_singleton.1 hz] at hg
    have := hs g hg
    refine ⟨hlo g hg, by simp; omega, fun e => ?_⟩
    injection e with e
    have e : w.heap.size = g := e
    omega
/-! ### A pattern's root against a value's -/
theorem like_ne {n : PN} {v : DN} (h : n.kind ≠ v.kind) : likeB n v = false := by simp [likeB, h]
theorem pn_kind {n : PN} (h : isPNB n = true) : 1 ≤ n.kind ∧ n.kind ≤ 6 := by
  unfold isPNB pnodeB at h
  repeat' (split at h)
  all_goals first | omega | (cases h)
theorem like_3 {n : PN} {v : DN} (hn : isPNB n = true) (hv : isDNB (toPN v) = true) (h1 : n.kind = 3) (h2 : v.kind = 3) : likeB n v = decide (n.n = v.n) := by
  unfold isPNB pnodeB at hn
  unfold isDNB dnodeB toPN at hv
  rw [h1] at hn
  simp only [h2] at hv
  simp at hn hv
  simp [likeB, h1, h2, hn.2.2.1, hv.2.1, hn.2.2.2, hv.2.2]
theorem like_4 {n : PN} {v : DN} (hn : isPNB n = true) (hv : isDNB (toPN v) = true) (h1 : n.kind = 4) (h2 : v.kind = 4) : likeB n v = (decide (n.s.toList = v.s.toList) && decide (n.kids.length = v.kids.length)) := by
  unfold isPNB pnodeB at hn
  unfold isDNB dnodeB toPN at hv
  rw [h1] at hn
  simp only [h2] at hv
  simp at hn hv
  simp [likeB, h1, h2, hn.1, hv.1]
theorem like_56 {n : PN} {v : DN} (hn : isPNB n = true) (hv : isDNB (toPN v) = true) (h1 : n.kind = 5 ∨ n.kind = 6) (h2 : v.kind = n.kind) : likeB n v = true := by
  unfold isPNB pnodeB at hn
  unfold isDNB dnodeB toPN at hv
  simp only [h2] at hv
  rcases h1 with h1 | h1
  · rw [h1] at hn
    simp only [h1] at hv
    simp at hn hv
    have e1 : n.kids.length = 2 := by omega
    have e2 : v.kids.length = 2 := by omega
    simp [likeB, h2, hn.1, hv.1, hn.2.1, hv.2.1, e1, e2]
  · rw [h1] at hn
    simp only [h1] at hv
    simp at hn hv
    simp [likeB, h2, hn.1, hv.1, hn.2.1, hv.2.1, hn.2.2, hv.2.2]
theorem kids_1 {n : PN} (hn : isPNB n = true) (h1 : n.kind = 1 ∨ n.kind = 2) : n.kids = [] := by
  unfold isPNB pnodeB at hn
  rcases h1 with h1 | h1
  · rw [h1] at hn; simp at hn; exact hn.2.2
  · rw [h1] at hn; simp at hn; exact hn.2.2
theorem pn_kids {n : PN} (hn : isPNB n = true) : n.kids.length ≤ 2 := by
  unfold isPNB pnodeB conOkB at hn
  repeat' (split at hn)
  all_goals simp at hn
  all_goals first | omega | (have := hn.2.2; simp [this]; done) | (have := hn.2; simp [this]; done) | (have := hn.2; omega) | (have := hn.2.2; omega) | (have := hn.2.2.2; simp [this])
theorem dn_kids {n : DN} (hn : isDNB (toPN n) = true) : n.kids.length ≤ 2 := by
  unfold isDNB dnodeB conOkB toPN at hn
  repeat' (split at hn)
  all_goals simp at hn
  all_goals first | omega | (have := hn.2.2; simp [this]; done) | (have := hn.2; simp [this]; done) | (have := hn.2; omega) | (have := hn.2.2; omega)
/-- What validity tells. -/
structure Valid (q : List PN) (d : List DN) : Prop where
  qp : preB (q.map PN.kids) = true
  qn : ∀ i (h : i < q.length), isPNB q[i] = true
  dp : preB (d.map DN.kids) = true
  dn : ∀ i (h : i < d.length), isDNB (toPN d[i]) = true
theorem valid_of {q : List PN} {d : List DN} (hq : patOkB q = true) (hd : dOkB d = true) : Valid q d := by
  rw [pat_ok] at hq
  simp only [Bool.and_eq_true] at hq
  unfold dOkB at hd
  simp only [Bool.and_eq_true] at hd
  refine ⟨hq.1, fun i h => ?_, hd.1, fun i h => ?_⟩
  · have := List.all_eq_true.1 hq.2.1 _ (List.getElem_mem h)
    simp only [rightPB, Bool.and_eq_true] at this
    exact this.1
  · have := List.all_eq_true.1 hd.2 (toPN d[i]) (List.mem_map_of_mem (List.getElem_mem h))
    simp only [rightDB, Bool.and_eq_true] at this
    exact this.1
theorem Valid.qk {q : List PN} {d : List DN} (h : Valid q d) : ∀ i (hi : i < q.length), ∀ k ∈ q[i].kids, (i : Int) < k ∧ k < (q.length : Int) := fun i hi k hk => by
  have := preB_kids _ h.qp i (by simpa using hi) k (by simpa using hk)
  simpa using this
theorem Valid.dk {q : List PN} {d : List DN} (h : Valid q d) : ∀ i (hi : i < d.length), ∀ k ∈ d[i].kids, (i : Int) < k ∧ k < (d.length : Int) := fun i hi k hk => by
  have := preB_kids _ h.dp i (by simpa using hi) k (by simpa using hk)
  simpa using this
theorem Valid.ql {q : List PN} {d : List DN} (h : Valid q d) : 1 ≤ q.length ∧ q.length ≤ 600 := by
  obtain ⟨h1, h2, _⟩ := (preB_iff _).1 h.qp
  simp at h1 h2
  omega
theorem Valid.dl {q : List PN} {d : List DN} (h : Valid q d) : 1 ≤ d.length ∧ d.length ≤ 600 := by
  obtain ⟨h1, h2, _⟩ := (preB_iff _).1 h.dp
  simp at h1 h2
  omega
theorem hits_step {g : Nat → Nat → Option (List (List DN))} {ks js : List Int} (c : Nat) (h : c < ks.length) (h' : c < js.length) (acc : List (List DN)) {R : Option (List (List DN))} (hR : R = (hitsF g (ks.drop c) (js.drop c)).map (acc ++ ·)) :
    (g (ks[c]).toNat (js[c]).toNat = none → R = none) ∧ ∀ x, g (ks[c]).toNat (js[c]).toNat = some x → R = (hitsF g (ks.drop (c + 1)) (js.drop (c + 1))).map ((acc ++ x) ++ ·) := by
  rw [List.drop_eq_getElem_cons h, List.drop_eq_getElem_cons h', hitsF] at hR
  refine ⟨fun hx => by rw [hx] at hR; rw [hR]; rfl, fun x hx => ?_⟩
  rw [hx] at hR
  rw [hR]
  cases hitsF g (ks.drop (c + 1)) (js.drop (c + 1)) with
  | none => rfl
  | some y => simp
end Go.Proofs.Ytkalkmgnjlohnaa
