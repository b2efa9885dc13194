/- The program's part of a value by itself. -/
import Derived.Test.YtkalkmgnjlohnaaHtI
namespace Go.Proofs.Ytkalkmgnjlohnaa
set_option linter.unusedVariables false
set_option maxRecDepth 100000
open Go.ChangeShapes Go.WideShapes Go.ChangeAt Go.RowKit

/-- Cells of a value's nodes, whose kids' slices are told. -/
def dnC (l : List (DN × Value)) : List Value := l.flatMap fun z => [.int .i64 z.1.kind, .int .i64 z.1.n, .string z.1.s, z.2]
theorem dnC_len (l : List (DN × Value)) : (dnC l).length = l.length * 4 := by
  induction l with
  | nil => rfl
  | cons z l ih => rw [dnC, List.flatMap_cons, List.length_append, ← dnC, ih]; simp; omega
theorem dnC_cons (z : DN × Value) (l : List (DN × Value)) : dnC (z :: l) = [.int .i64 z.1.kind, .int .i64 z.1.n, .string z.1.s, z.2] ++ dnC l := rfl
/-- The slices of the kids. -/
theorem kids_of {w : World} {b o : Nat} {d : List DN} (h : ∀ i (hi : i < d.length), DNEl w b (o + i * 4) d[i]) : ∃ us : List Value, us.length = d.length ∧ ∀ i (hi : i < us.length) (hi2 : i < d.length),
    w.cell? ⟨b, o + i * 4 + 3, none⟩ = some us[i] ∧ RowRd 1 IntEl w us[i] d[i].kids := by
  obtain ⟨us, hl, hq⟩ := list_of d.length (fun i (u : Value) => ∃ hi : i < d.length, w.cell? ⟨b, o + i * 4 + 3, none⟩ = some u ∧ RowRd 1 IntEl w u d[i].kids) (fun i hi => by
    obtain ⟨_, _, _, ⟨v, h3, h4⟩⟩ := h i hi
    exact ⟨v, hi, h3, h4⟩)
  exact ⟨us, hl, fun i hi hi2 => by obtain ⟨_, h1, h2⟩ := hq i hi; exact ⟨h1, h2⟩⟩
def srcN (d : List DN) (us : List Value) (k e : Nat) : List (DN × Value) := ((d.zip us).take e).drop k
theorem srcN_len {d : List DN} {us : List Value} {k e : Nat} (hu : us.length = d.length) (he : e ≤ d.length) : (srcN d us k e).length = e - k := by
  simp [srcN]; omega
theorem srcN_get {d : List DN} {us : List Value} {k e j : Nat} (hu : us.length = d.length) (he : e ≤ d.length) (hj : j < (srcN d us k e).length) : (srcN d us k e)[j] = (d[k + j]'(by rw [srcN_len hu he] at hj; omega), us[k + j]'(by rw [srcN_len hu he] at hj; omega)) := by
  simp [srcN]
theorem src_cellsN {w : World} {b o : Nat} {d : List DN} {us : List Value} (h : ∀ i (hi : i < d.length), DNEl w b (o + i * 4) d[i]) (hu : us.length = d.length) (hus : ∀ i (hi : i < us.length) (hi2 : i < d.length), w.cell? ⟨b, o + i * 4 + 3, none⟩ = some us[i] ∧ RowRd 1 IntEl w us[i] d[i].kids) {k e : Nat} (he : e ≤ d.length) :
    ∀ j u, (dnC (srcN d us k e))[j]? = some u → w.cell? ((⟨b, o + k * 4, none⟩ : Addr).add j) = some u := by
  intro j u hj
  have hp : (⟨b, o + k * 4, none⟩ : Addr).add j = ⟨b, o + k * 4 + j, none⟩ := by unfold Addr.add; split <;> simp_all
  rw [hp]
  have hj2 : j < (srcN d us k e).length * 4 := by rw [← dnC_len]; exact (List.getElem?_eq_some_iff.1 hj).1
  obtain ⟨i, r, hir, hr⟩ : ∃ i r, j = i * 4 + r ∧ r < 4 := ⟨j / 4, j % 4, by omega, by omega⟩
  have hi : i < (srcN d us k e).length := by omega
  subst hir
  have hg := flat_get (fun z : DN × Value => [Value.int .i64 z.1.kind, .int .i64 z.1.n, .string z.1.s, z.2]) 4 (fun _ => rfl) (srcN d us k e) i r hi hr
  rw [dnC, hg, srcN_get hu he hi] at hj
  have hl := srcN_len (k := k) hu he
  have hkd : k + i < d.length := by omega
  obtain ⟨⟨h0, _⟩, ⟨h1, _⟩, ⟨h2, _⟩, _⟩ := h (k + i) hkd
  have h3 := (hus (k + i) (by omega) hkd).1
  have hoff : o + k * 4 + (i * 4 + r) = o + (k + i) * 4 + r := by omega
  rw [hoff]
  have hc : r = 0 ∨ r = 1 ∨ r = 2 ∨ r = 3 := by omega
  rcases hc with rfl | rfl | rfl | rfl
  · simp at hj; rw [Nat.add_zero, h0, ← hj]
  · simp at hj; rw [h1, ← hj]
  · simp at hj; rw [h2, ← hj]
  · simp at hj; rw [h3, ← hj]
theorem set_mid (A R : List Value) (x0 x1 x2 x3 u : Value) (m : Nat) (hm : m = A.length) : (A ++ ([x0, x1, x2, x3] ++ R)).set (m + 3) u = (A ++ [x0, x1, x2, u]) ++ R := by
  subst hm
  rw [List.set_append_right _ _ (by omega)]
  simp
theorem last_kid {d : List DN} {e j : Nat} (hj : j < d.length) (h : Span (d.map DN.kids) d[j].kids (j + 1) e) :
    (d[j].kids = [] → e = j + 1) ∧ ∀ n, d[j].kids.length = n + 1 → ∃ j' : Nat, d[j].kids[n]? = some (j' : Int) ∧ j < j' ∧ ∃ hj' : j' < d.length, Span (d.map DN.kids) d[j'].kids (j' + 1) e := by
  obtain ⟨h1, h2⟩ := span_last (l := d.map DN.kids) (k := j) (by simpa using hj) (by simpa using h)
  refine ⟨fun hk => h1 (by simpa using hk), fun n hn => ?_⟩
  have h0 : (d.map DN.kids)[j]'(by simpa using hj) ≠ [] := by
    intro h
    rw [List.getElem_map] at h
    rw [h] at hn
    simp at hn
  obtain ⟨j', e1, e2, e3, e4⟩ := h2 h0
  refine ⟨j', ?_, e2, by simpa using e3, by simpa using e4⟩
  rw [← e1, List.getLast_eq_getElem, List.getElem?_eq_getElem (by omega)]
  simp [hn]
/-- Where the program's making of a part stands. -/
structure MakeI (B gp m cp : Nat) (d : List DN) (k : Nat) (src : List (DN × Value)) (Wc : World) (zs : List (List Value × DN × List Nat)) (wr : World) : Prop where
  own : wr.ownsRow B 55 4 (.slice (some ⟨gp, 0, none⟩) m cp) m (zs.flatMap (·.1) ++ dnC (src.drop zs.length))
  el : ∀ z ∈ zs, DNCell wr z.1 z.2.1 z.2.2 ∧ z.1.length = 4 ∧ ∀ u ∈ z.1, u.oneCell' = true
  lo : ∀ z ∈ zs, ∀ g ∈ z.2.2, B ≤ g ∧ g < wr.heap.size ∧ g ≠ gp
  nd : (zs.flatMap (·.2.2)).Nodup
  xs : zs.map (·.2.1) = (partN d k).take zs.length
  bel : Below B Wc wr
theorem MakeI.alen {B gp m cp k : Nat} {d : List DN} {src : List (DN × Value)} {Wc wr : World} {zs : List (List Value × DN × List Nat)} (h : MakeI B gp m cp d k src Wc zs wr) : (zs.flatMap (·.1)).length = zs.length * 4 := by
  have key : ∀ (zs : List (List Value × DN × List Nat)), (∀ z ∈ zs, z.1.length = 4) → (zs.flatMap (·.1)).length = zs.length * 4 := by
    intro zs
    induction zs with
    | nil => intro _; rfl
    | cons z zs ih =>
      intro hz
      rw [List.flatMap_cons, List.length_append, hz z (by simp), ih fun z h => hz z (List.mem_cons_of_mem _ h)]
      simp; omega
  exact key zs fun z hz => (h.el z hz).2.1
theorem MakeI.below {B gp m cp k : Nat} {d : List DN} {src : List (DN × Value)} {Wc wr w2 : World} {zs : List (List Value × DN × List Nat)} (h : MakeI B gp m cp d k src Wc zs wr) (hb : Below wr.heap.size wr w2) (hB : B ≤ wr.heap.size) : MakeI B gp m cp d k src Wc zs w2 := by
  have hs := hb.size
  refine ⟨own_belN h.own hb, fun z hz => ?_, fun z hz g hg => ?_, h.nd, h.xs, h.bel.trans (hb.mono hB)⟩
  · obtain ⟨h1, h2, h3⟩ := h.el z hz
    exact ⟨DNCell.loc _ _ _ _ _ hs (fun g hg => hb.block g (h.lo z hz g hg).2.1) h1, h2, h3⟩
  · obtain ⟨h1, h2, h3⟩ := h.lo z hz g hg
    exact ⟨h1, by omega, h3⟩
/-- The node at the next place, as it lies there. -/
theorem MakeI.cells {B gp m cp k : Nat} {d : List DN} {src : List (DN × Value)} {Wc wr : World} {zs : List (List Value × DN × List Nat)} (h : MakeI B gp m cp d k src Wc zs wr) (hm : src.length = m) (hj : zs.length < src.length) :
    wr.cell? ⟨gp, zs.length * 4, none⟩ = some (.int .i64 src[zs.length].1.kind) ∧ wr.cell? ⟨gp, zs.length * 4 + 1, none⟩ = some (.int .i64 src[zs.length].1.n) ∧ wr.cell? ⟨gp, zs.length * 4 + 2, none⟩ = some (.string src[zs.length].1.s) ∧ wr.cell? ⟨gp, zs.length * 4 + 3, none⟩ = some src[zs.length].2 ∧ wr.frozen? ⟨gp, zs.length * 4 + 3, none⟩ = false := by
  have hal := h.alen
  have hx : ∀ r, r < 4 → wr.cell? ⟨gp, zs.length * 4 + r, none⟩ = [Value.int .i64 src[zs.length].1.kind, .int .i64 src[zs.length].1.n, .string src[zs.length].1.s, src[zs.length].2][r]? := by
    intro r hr
    rw [h.own.cellAt (zs.length * 4 + r) (by omega), List.getElem?_append_right (by omega), hal]
    rw [show zs.length * 4 + r - zs.length * 4 = r from by omega, List.drop_eq_getElem_cons hj, dnC_cons, List.getElem?_append_left (by simpa using hr)]
  exact ⟨by have := hx 0 (by omega); simpa using this, by have := hx 1 (by omega); simpa using this, by have := hx 2 (by omega); simpa using this, by have := hx 3 (by omega); simpa using this, h.own.frozenAt _⟩
theorem MakeI.step {B gp m cp k : Nat} {d : List DN} {src : List (DN × Value)} {Wc w1 w2 : World} {zs : List (List Value × DN × List Nat)} {x : DN} {u0 u : Value} {F : List Nat} (h1 : MakeI B gp m cp d k src Wc zs w1) (h : MakeI B gp m cp d k src Wc zs w2) (hm : src.length = m) (hj : zs.length < src.length) (hsrc : src[zs.length] = (x, u0))
    (hs : w1.heap.size ≤ w2.heap.size) (hB : B ≤ w1.heap.size) (hF : RowOwn 1 (Flat IntEl) w2 u (shiftN k x).kids F) (hlo : ∀ g ∈ F, w1.heap.size ≤ g) (hnd : F.Nodup) (i0 : I64 x.kind) (i1 : I64 x.n) (i2 : x.s.size ≤ maxLen) (hone : u.oneCell' = true)
    (hx : (partN d k).take (zs.length + 1) = (partN d k).take zs.length ++ [shiftN k x]) :
    MakeI B gp m cp d k src Wc (zs ++ [([.int .i64 x.kind, .int .i64 x.n, .string x.s, u], shiftN k x, F)]) (w2.setCell ⟨gp, zs.length * 4 + 3, none⟩ u) := by
  have hgp := h1.own.lt gp rfl
  have hal := h.alen
  have hFs : ∀ g ∈ F, g < w2.heap.size := hF.sized (Flat.sized IntEl)
  have hst := (h.own.stored (zs.length * 4 + 3) u).1
  have hset : (zs.flatMap (·.1) ++ dnC (src.drop zs.length)).set (zs.length * 4 + 3) u = (zs.flatMap (·.1) ++ [.int .i64 x.kind, .int .i64 x.n, .string x.s, u]) ++ dnC (src.drop (zs.length + 1)) := by
    rw [List.drop_eq_getElem_cons hj, dnC_cons, hsrc]
    exact set_mid _ _ _ _ _ _ _ _ hal.symm
  rw [hset] at hst
  have hother : ∀ q, q ≠ gp → (w2.setCell ⟨gp, zs.length * 4 + 3, none⟩ u).heap[q]? = w2.heap[q]? := fun q hq => set_was _ _ _ _ _ hq
  refine ⟨?_, fun z hz => ?_, fun z hz g hg => ?_, ?_, ?_, h.bel.setCell (show B ≤ gp from hgp.1) _⟩
  · rw [List.flatMap_append, List.length_append]
    simpa using hst
  · rcases List.mem_append.1 hz with hz | hz
    · obtain ⟨e1, e2, e3⟩ := h.el z hz
      exact ⟨DNCell.loc _ _ _ _ _ (by simp [World.setCell]) (fun g hg => hother g (h.lo z hz g hg).2.2) e1, e2, e3⟩
    · rw [List.mem_singleton.1 hz]
      refine ⟨⟨u, rfl, i0, i1, i2, hF.loc IntFlat.loc (by simp [World.setCell]) fun g hg => hother g (by have := hlo g hg; omega)⟩, rfl, fun y hy => ?_⟩
      simp at hy
      rcases hy with rfl | rfl | rfl | rfl
      · rfl
      · rfl
      · rfl
      · exact hone
  · rw [setCell_size]
    rcases List.mem_append.1 hz with hz | hz
    · exact h.lo z hz g hg
    · rw [List.mem_singleton.1 hz] at hg
      have := hlo g hg
      exact ⟨by omega, hFs g hg, by omega⟩
  · rw [List.flatMap_append]
    refine List.nodup_append.2 ⟨h.nd, by simpa using hnd, fun a ha b hb hab => ?_⟩
    subst hab
    obtain ⟨z, hz, ha⟩ := List.mem_flatMap.1 ha
    obtain ⟨y, hy, hb⟩ := List.mem_flatMap.1 hb
    rw [List.mem_singleton.1 hy] at hb
    have := (h1.lo z hz a ha).2.1
    have := hlo a hb
    omega
  · rw [List.map_append, h.xs, List.length_append]
    exact hx.symm
theorem MakeI.fin {B gp m cp k : Nat} {d : List DN} {src : List (DN × Value)} {Wc wr : World} {zs : List (List Value × DN × List Nat)} (h : MakeI B gp m cp d k src Wc zs wr) (hz : zs.length = m) (hm : src.length = m) : Grow 4 DNCell B 55 wr (.slice (some ⟨gp, 0, none⟩) zs.length cp) zs := by
  have ho := h.own
  rw [List.drop_of_length_le (by omega)] at ho
  refine ⟨by subst hz; simpa [dnC] using ho, h.el, fun z hz g hg => ?_, h.nd⟩
  obtain ⟨h1, h2, h3⟩ := h.lo z hz g hg
  exact ⟨h1, h2, fun e => h3 (by injection e with e; exact e.symm)⟩
end Go.Proofs.Ytkalkmgnjlohnaa
