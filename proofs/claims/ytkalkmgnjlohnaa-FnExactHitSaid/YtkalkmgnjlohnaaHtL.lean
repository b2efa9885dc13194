/- Where the program's match of a pattern stands. -/
import Derived.Test.YtkalkmgnjlohnaaHtK
import Derived.Test.YtkalkmgnjlohnaaHtT
namespace Go.Proofs.Ytkalkmgnjlohnaa
set_option linter.unusedVariables false
set_option maxRecDepth 100000
open Go.ChangeShapes Go.WideShapes Go.ChangeAt Go.RowKit

theorem Span.hd {l : List (List Int)} {ks : List Int} {a e : Nat} (h : Span l ks a e) (hlt : a < e) : ∃ (hl : a < l.length) (m : Nat) (ks' : List Int), ks = (a : Int) :: ks' ∧ Span l l[a] (a + 1) m ∧ Span l ks' m e := by
  cases h with
  | nil => omega
  | cons _ m _ ks' hl h1 h2 => exact ⟨hl, m, ks', rfl, h1, h2⟩
theorem Span.emp {l : List (List Int)} {ks : List Int} {a : Nat} (h : Span l ks a a) : ks = [] := by
  cases h with
  | nil => rfl
  | cons _ m _ ks' hl h1 h2 => have := h1.le; have := h2.le; omega
theorem Span.emp_eq {l : List (List Int)} {a e : Nat} (h : Span l [] a e) : e = a := by
  cases h; rfl
structure BInv (w : World) (q : List PN) (d : List DN) (pq : Option Addr) (cq : Nat) (pd : Option Addr) (cd : Nat) (R : Option (List (List DN))) (gq t : Nat) (ab : Option Addr) (cb : Nat) (zs : List (List Value × List DN × List Nat)) (P : List Int) (S : List (Int × Int)) (wr : World) : Prop where
  b0 : wr.heap[w.heap.size]? = some (.cells #[.slice pq q.length cq] 42 (0, 0))
  b1 : wr.heap[w.heap.size + 1]? = some (.cells #[.slice pd d.length cd] 29 (0, 0))
  gr : Grow 1 DataCell (w.heap.size + 2) 29 wr (.slice ab zs.length cb) zs
  pr : wr.ownsRow (w.heap.size + 2) 3 1 (.slice (some ⟨gq, 0, none⟩) q.length q.length) q.length (ic P)
  pl : P.length = q.length
  pv : ∀ x ∈ P, 0 ≤ x ∧ x < (d.length : Int)
  q1 : (Value.slice ab zs.length cb).ownBlock ≠ some gq
  q2 : ∀ z ∈ zs, gq ∉ z.2.2
  sp : Span (q.map PN.kids) (S.map (·.1)) t q.length
  st : ∀ s ∈ S, P[s.1.toNat]? = some s.2
  eq : R = (hitsF (hitN q d) (S.map (·.1)) (S.map (·.2))).map (zs.map (·.2.1) ++ ·)
  sz : zs.length ≤ t
  bel : Below w.heap.size w wr
  le : w.heap.size + 2 ≤ wr.heap.size
theorem BInv.below {w wr W : World} {q : List PN} {d : List DN} {pq pd ab : Option Addr} {cq cd cb gq t : Nat} {R : Option (List (List DN))} {zs : List (List Value × List DN × List Nat)} {P : List Int} {S : List (Int × Int)}
    (h : BInv w q d pq cq pd cd R gq t ab cb zs P S wr) (hb : Below wr.heap.size wr W) : BInv w q d pq cq pd cd R gq t ab cb zs P S W := by
  have h1 := h.le
  have h2 := hb.size
  exact ⟨(hb.block _ (by omega)).trans h.b0, (hb.block _ (by omega)).trans h.b1, h.gr.below DataCell.loc hb, own_belN h.pr hb, h.pl, h.pv, h.q1, h.q2, h.sp, h.st, h.eq, h.sz, h.bel.trans (hb.mono (by omega)), by omega⟩
/-- A value is appended to what is bound. -/
theorem BInv.app {w wr W w2 : World} {q : List PN} {d : List DN} {pq pd ab ab2 : Option Addr} {cq cd cb cb2 gq t : Nat} {R : Option (List (List DN))} {zs : List (List Value × List DN × List Nat)} {P : List Int} {S : List (Int × Int)} {u : Value} {x : List DN} {F : List Nat}
    (h1 : BInv w q d pq cq pd cd R gq t ab cb zs P S wr) (h : BInv w q d pq cq pd cd R gq t ab cb zs P S W) (hs : wr.heap.size ≤ W.heap.size) (hF : RowOwn 4 DNOwn W u x F) (hlo : ∀ g ∈ F, wr.heap.size ≤ g) (hnd : F.Nodup) (hone : u.oneCell' = true)
    (hown : w2.ownsRow (w.heap.size + 2) 29 1 (.slice ab2 (zs.length + 1) cb2) (zs.length + 1) (zs.flatMap (·.1) ++ [u])) (hgrow : W.grownBy w2 (Value.slice ab zs.length cb).ownBlock)
    (hat : (Value.slice ab2 (zs.length + 1) cb2).ownBlock = (Value.slice ab zs.length cb).ownBlock ∨ (Value.slice ab2 (zs.length + 1) cb2).ownBlock = some W.heap.size) {S' : List (Int × Int)} {t' : Nat} (hsp : Span (q.map PN.kids) (S'.map (·.1)) t' q.length)
    (hst : ∀ s ∈ S', P[s.1.toNat]? = some s.2) (heq : R = (hitsF (hitN q d) (S'.map (·.1)) (S'.map (·.2))).map ((zs.map (·.2.1) ++ [x]) ++ ·)) (ht : zs.length + 1 ≤ t') :
    BInv w q d pq cq pd cd R gq t' ab2 cb2 (zs ++ [([u], x, F)]) P S' w2 := by
  have hlen : (zs ++ [(([u], x, F) : List Value × List DN × List Nat)]).length = zs.length + 1 := by simp
  have hFs := hF.sized DNOwn.sized
  have hle := h1.le
  have hlt : ∀ g, (Value.slice ab zs.length cb).ownBlock = some g → w.heap.size + 2 ≤ g := fun g hg => (h.gr.own.lt g hg).1
  have hblk : ∀ k, k < w.heap.size + 2 → w2.heap[k]? = W.heap[k]? := fun k hk => hgrow.block k (by omega) fun e => by have := hlt k e.symm; omega
  have hgq := h1.pr.lt gq rfl
  have G := h.gr.app DataCell.loc (ys := [([u], x, F)]) (m := 1) hown hgrow hat rfl (by simp)
    (fun z hz => by rw [List.mem_singleton.1 hz]; exact ⟨⟨u, rfl, hF⟩, rfl, fun y hy => by rw [List.mem_singleton.1 hy]; exact hone⟩)
    (fun z hz g hg => by
      rw [List.mem_singleton.1 hz] at hg
      have := hlo g hg
      refine ⟨by omega, hFs g hg, fun e => ?_⟩
      have := (h1.gr.own.lt g e).2
      omega)
    (by simpa using hnd)
    (fun z hz y hy g hg hg2 => by
      rw [List.mem_singleton.1 hy] at hg2
      have := (h1.gr.lo z hz g hg).2.1
      have := hlo g hg2
      omega)
  refine ⟨(hblk _ (by omega)).trans h.b0, (hblk _ (by omega)).trans h.b1, by rw [hlen]; exact G, h.pr.kept hgrow (.inr fun e => h.q1 e.symm), h.pl, h.pv, ?_, fun z hz hg => ?_, hsp, hst, ?_, by rw [hlen]; exact ht, ?_, ?_⟩
  · rw [hlen]
    rcases hat with hat | hat
    · rw [hat]; exact h.q1
    · rw [hat]; intro e; injection e with e; omega
  · rcases List.mem_append.1 hz with hz | hz
    · exact h.q2 z hz hg
    · rw [List.mem_singleton.1 hz] at hg
      have := hlo gq hg
      omega
  · rw [List.map_append]; exact heq
  · exact h.bel.grown hgrow (by have := h.le; omega) fun k hk => by have := hlt k hk; omega
  · have := hgrow.size; have := h.le; omega
/-- The next node: its part of the value, and what follows. -/
theorem BInv.top {w wr : World} {q : List PN} {d : List DN} {pq pd ab : Option Addr} {cq cd cb gq t : Nat} {R : Option (List (List DN))} {zs : List (List Value × List DN × List Nat)} {P : List Int} {S : List (Int × Int)} (hV : Valid q d)
    (h : BInv w q d pq cq pd cd R gq t ab cb zs P S wr) (ht : t < q.length) : ∃ (k m : Nat) (S' : List (Int × Int)), S = ((t : Int), (k : Int)) :: S' ∧ k < d.length ∧ P[t]? = some (k : Int) ∧ Span (q.map PN.kids) q[t].kids (t + 1) m ∧ Span (q.map PN.kids) (S'.map (·.1)) m q.length ∧
      (hitN q d t k = none → R = none) ∧ (∀ x, hitN q d t k = some x → R = (hitsF (hitN q d) (S'.map (·.1)) (S'.map (·.2))).map ((zs.map (·.2.1) ++ x) ++ ·)) ∧
      ∀ js, q[t].kids.length = js.length → hitN q d t k = hitsF (hitN q d) q[t].kids js → R = (hitsF (hitN q d) (q[t].kids ++ S'.map (·.1)) (js ++ S'.map (·.2))).map (zs.map (·.2.1) ++ ·) := by
  obtain ⟨hl, m, ks', h1, h2, h3⟩ := h.sp.hd ht
  cases S with
  | nil => simp at h1
  | cons s S' =>
    obtain ⟨s1, s2⟩ := s
    simp only [List.map_cons, List.cons.injEq] at h1
    obtain ⟨rfl, rfl⟩ := h1
    have hs := h.st _ (List.mem_cons_self ..)
    simp only [Int.toNat_natCast] at hs
    obtain ⟨hp1, hp2⟩ := List.getElem?_eq_some_iff.1 hs
    have hv := h.pv s2 (by rw [← hp2]; exact List.getElem_mem _)
    obtain ⟨k, rfl⟩ : ∃ k : Nat, s2 = k := ⟨s2.toNat, by omega⟩
    have he := h.eq
    simp only [List.map_cons] at he
    rw [hitsF] at he
    simp only [Int.toNat_natCast] at he
    refine ⟨k, m, S', rfl, by omega, hs, by simpa using h2, h3, fun hn => by rw [hn] at he; rw [he]; rfl, fun x hx => ?_, fun js hj hx => ?_⟩
    · rw [hx] at he
      rw [he]
      cases hitsF (hitN q d) (S'.map (·.1)) (S'.map (·.2)) with
      | none => rfl
      | some y => simp
    · rw [hitsF_app _ _ _ _ _ hj, ← hx]
      rw [he]
/-- The parts of the kids are told. -/
structure KInv (q : List PN) (gq B : Nat) (P : List Int) (ks js : List Int) (dl : Nat) (W0 : World) (c : Nat) (P' : List Int) (wr : World) : Prop where
  pr : wr.ownsRow B 3 1 (.slice (some ⟨gq, 0, none⟩) q.length q.length) q.length (ic P')
  pl : P'.length = q.length
  pv : ∀ x ∈ P', 0 ≤ x ∧ x < (dl : Int)
  old : ∀ r : Nat, (r : Int) ∉ ks.take c → P'[r]? = P[r]?
  new : ∀ i (h : i < ks.length) (h2 : i < js.length), i < c → P'[(ks[i]).toNat]? = some js[i]
  gb : W0.grownBy wr (some gq)
theorem KInv.step {q : List PN} {gq B c dl : Nat} {P P' : List Int} {ks js : List Int} {W0 wr : World} (h : KInv q gq B P ks js dl W0 c P' wr) (hc : c < ks.length) (hc' : c < js.length) (hasc : ks.Pairwise (· < ·)) (h0 : ∀ k ∈ ks, 0 ≤ k ∧ k < (q.length : Int)) (hv : 0 ≤ js[c] ∧ js[c] < (dl : Int)) {a : Nat} (ha : ks[c] = (a : Int)) :
    KInv q gq B P ks js dl W0 (c + 1) (P'.set a js[c]) (wr.setCell ⟨gq, a, none⟩ (.int .i64 js[c])) := by
  obtain ⟨s1, s2⟩ := h.pr.stored a (.int .i64 js[c])
  have hal : a < P'.length := by
    have := (h0 _ (List.getElem_mem hc)).2
    rw [ha] at this
    rw [h.pl]; omega
  have hic : (ic P').set a (.int .i64 js[c]) = ic (P'.set a js[c]) := by simp [ic, List.map_set]
  rw [hic] at s1
  refine ⟨s1, by rw [List.length_set]; exact h.pl, fun x hx => ?_, fun r hr => ?_, fun i hi hi2 hic' => ?_, h.gb.trans s2⟩
  · rcases List.mem_or_eq_of_mem_set hx with hx | hx
    · exact h.pv x hx
    · rw [hx]; exact hv
  · rw [List.take_succ_eq_append_getElem hc, List.mem_append, not_or] at hr
    have hra : r ≠ a := fun e => hr.2 (by rw [ha, e]; simp)
    rw [List.getElem?_set_ne (by omega)]
    exact h.old r hr.1
  · by_cases he : i = c
    · subst he
      rw [ha, Int.toNat_natCast, List.getElem?_set_self hal]
    · have hlt : i < c := by omega
      have := (List.pairwise_iff_getElem.1 hasc) i c hi hc hlt
      have h2 := h0 _ (List.getElem_mem hi)
      rw [List.getElem?_set_ne (by omega)]
      exact h.new i hi hi2 hlt
theorem BInv.kids {w W0 wr : World} {q : List PN} {d : List DN} {pq pd ab : Option Addr} {cq cd cb gq t m : Nat} {R : Option (List (List DN))} {zs : List (List Value × List DN × List Nat)} {P P' : List Int} {S S' : List (Int × Int)} {ks js : List Int}
    (h : BInv w q d pq cq pd cd R gq t ab cb zs P S W0) (hK : KInv q gq (w.heap.size + 2) P ks js d.length W0 ks.length P' wr) (hl : ks.length = js.length) (h1 : Span (q.map PN.kids) ks (t + 1) m) (h2 : Span (q.map PN.kids) (S'.map (·.1)) m q.length) (hst : ∀ s ∈ S', P[s.1.toNat]? = some s.2)
    (heq : R = (hitsF (hitN q d) (ks ++ S'.map (·.1)) (js ++ S'.map (·.2))).map (zs.map (·.2.1) ++ ·)) :
    BInv w q d pq cq pd cd R gq (t + 1) ab cb zs P' (ks.zip js ++ S') wr := by
  have hle := h.le
  have hgq := h.pr.lt gq rfl
  have hs := hK.gb.size
  have hblk : ∀ k, k < W0.heap.size → k ≠ gq → wr.heap[k]? = W0.heap[k]? := fun k hk hne => hK.gb.block k hk fun e => hne (by injection e)
  have e1 : (ks.zip js ++ S').map (·.1) = ks ++ S'.map (·.1) := by rw [List.map_append, ← List.unzip_fst, List.unzip_zip_left (by omega)]
  have e2 : (ks.zip js ++ S').map (·.2) = js ++ S'.map (·.2) := by rw [List.map_append, ← List.unzip_snd, List.unzip_zip_right (by omega)]
  refine ⟨(hblk _ (by omega) (by omega)).trans h.b0, (hblk _ (by omega) (by omega)).trans h.b1, h.gr.same DataCell.loc hs fun k hk hh => hblk k hk fun e => ?_, hK.pr, hK.pl, hK.pv, h.q1, h.q2, by rw [e1]; exact h1.app h2, fun s hs => ?_, by rw [e1, e2]; exact heq, by have := h.sz; omega, h.bel.trans ⟨hK.gb.os, hK.gb.tape, hK.gb.output, hs, fun k hk => hblk k (by omega) (by omega)⟩, by omega⟩
  · subst e
    rcases hh with hh | ⟨z, hz, hh⟩
    · exact h.q1 hh
    · exact h.q2 z hz hh
  · rcases List.mem_append.1 hs with hs | hs
    · obtain ⟨i, hi, rfl⟩ := List.getElem_of_mem hs
      rw [List.getElem_zip]
      exact hK.new i (by simp at hi; omega) (by simp at hi; omega) (by simp at hi; omega)
    · have hm : s.1 ∈ S'.map (·.1) := List.mem_map_of_mem hs
      have hr := h2.roots _ hm
      have hno : s.1 ∉ ks := fun hk => by have := h1.roots _ hk; omega
      have : ((s.1.toNat : Nat) : Int) = s.1 := by omega
      rw [hK.old s.1.toNat (by rw [this, List.take_length]; exact hno)]
      exact hst s hs
end Go.Proofs.Ytkalkmgnjlohnaa
