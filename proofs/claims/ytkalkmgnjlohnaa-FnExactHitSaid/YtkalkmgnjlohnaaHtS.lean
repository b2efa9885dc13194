/- The model's part of a value by itself. -/
import Derived.Test.YtkalkmgnjlohnaaHtMath
import Derived.Test.YtkalkmgnjlohnaaGrow
import Derived.Test.YtkalkmgnjlohnaaDoS
import Derived.Test.YtkalkmgnjlohnaaDoI
import Derived.Test.YtkalkmgnjlohnaaOkW2
namespace Go.Proofs.Ytkalkmgnjlohnaa
set_option linter.unusedVariables false
set_option maxRecDepth 100000
open Go.ChangeShapes Go.WideShapes Go.ChangeAt Go.RowKit

theorem info_dnode : (Try.prog.info? 55).map (fun i => (i.zero, i.size, i.bytes)) = some (some (.agg #[.int .i64 0, .int .i64 0, .string ⟨#[]⟩, .slice none 0 0]), 4, 56) := by kernel_rfl
/-- A part of a value, made anew. -/
def PartPost (d : List DN) (k : Nat) (w : World) (e : Ending) (w' : World) : Prop :=
  ∃ (a : Option Addr) (c : Nat) (F : List Nat), e = .returned (.agg #[.slice a (partN d k).length c]) ∧ RowOwn 4 DNOwn w' (.slice a (partN d k).length c) (partN d k) F ∧ (∀ g ∈ F, w.heap.size ≤ g) ∧ F.Nodup ∧ Below w.heap.size w w'
theorem part_len {d : List DN} {k e : Nat} (hk : k < d.length) (he : endN (d.map DN.kids) k = e) (h1 : e ≤ d.length) : (partN d k).length = e - k := by
  rw [partN, he]; simp; omega
theorem part_get {d : List DN} {k e j : Nat} (he : endN (d.map DN.kids) k = e) (h1 : e ≤ d.length) (hj : k + j < e) : (partN d k)[j]? = some (shiftN k (d[k + j]'(by omega))) := by
  rw [partN, he, List.getElem?_map, List.getElem?_drop, List.getElem?_take, if_pos hj, List.getElem?_eq_getElem (by omega)]; rfl
theorem part_step {d : List DN} {k e j : Nat} (he : endN (d.map DN.kids) k = e) (h1 : e ≤ d.length) (hj : k + j < e) : (partN d k).take (j + 1) = (partN d k).take j ++ [shiftN k (d[k + j]'(by omega))] := by
  rw [List.take_add_one, part_get he h1 hj]; rfl
theorem alloc_at (w : World) (O : Obj) {n : Nat} (hn : n = w.heap.size) : (w.alloc O).heap[n]? = some O := by
  subst hn
  show (w.heap.push O)[w.heap.size]? = some O
  exact Array.getElem?_push_size
theorem alloc_was (w : World) (O : Obj) (k : Nat) (h : k < w.heap.size) : (w.alloc O).heap[k]? = w.heap[k]? := ((Below.refl w.heap.size w).alloc (Nat.le_refl _) O).block k h
theorem blk_cell {w : World} {b : Nat} {cs : Array Value} {T : TypeId} (h : w.heap[b]? = some (.cells cs T (0, 0))) (i : Nat) : w.cell? ⟨b, i, none⟩ = cs[i]? ∧ w.frozen? ⟨b, i, none⟩ = false := by
  constructor
  · simp [World.cell?, h]
  · simp [World.frozen?, h]
theorem blk_set {w : World} {b : Nat} {y u : Value} {T : TypeId} {f : Nat × Nat} (h : w.heap[b]? = some (.cells #[y] T f)) : (w.setCell ⟨b, 0, none⟩ u).heap[b]? = some (.cells #[u] T f) := by
  rw [Go.Sort.setCell_eq]
  simp [Go.Sort.mapBlock, Array.getElem?_modify, h, Go.Sort.onCells]
theorem set_was (w : World) (b o k : Nat) (u : Value) (h : k ≠ b) : (w.setCell ⟨b, o, none⟩ u).heap[k]? = w.heap[k]? := Below.heap_setCell _ _ _ _ h
theorem own_sl {w : World} {B e n m : Nat} {v : Value} {xs : List Value} (h : w.ownsRow B e n v m xs) : ∃ a c, v = .slice a m c := by
  obtain ⟨_, ⟨rfl, rfl⟩ | ⟨g, cap, cur, rfl, _⟩⟩ := h
  · exact ⟨none, 0, rfl⟩
  · exact ⟨_, cap, rfl⟩
theorem new_cells' (w : World) (C : Array Value) (T : TypeId) (news : List Value) {n : Nat} (hn : n = w.heap.size) (h : C.toList = news) : ∀ j u, news[j]? = some u → (w.alloc (.cells C T)).cell? ((⟨n, 0, none⟩ : Addr).add j) = some u := by
  subst hn; exact new_cells w C T news h
/-- Where the making of a part stands. -/
structure PartInv (w : World) (d : List DN) (k : Nat) (p : Option Addr) (cap j : Nat) (a : Option Addr) (c : Nat) (zs : List (List Value × DN × List Nat)) (wr : World) : Prop where
  d0 : wr.heap[w.heap.size]? = some (.cells #[.slice p d.length cap] 29 (0, 0))
  d1 : wr.heap[w.heap.size + 1]? = some (.cells #[.slice none 0 0] 29 (0, 0))
  d2 : wr.heap[w.heap.size + 1 + 1]? = some (.cells #[.slice a zs.length c] 29 (0, 0))
  gr : Grow 4 DNCell (w.heap.size + 3) 55 wr (.slice a zs.length c) zs
  xs : zs.map (·.2.1) = (partN d k).take j
  bel : Below w.heap.size w wr
  sz : w.heap.size + 3 ≤ wr.heap.size
theorem PartInv.below {w wr W : World} {d : List DN} {k cap j c : Nat} {p a : Option Addr} {zs : List (List Value × DN × List Nat)} (h : PartInv w d k p cap j a c zs wr) (hb : Below wr.heap.size wr W) : PartInv w d k p cap j a c zs W := by
  have hs := h.sz
  have hz := hb.size
  exact ⟨(hb.block _ (by omega)).trans h.d0, (hb.block _ (by omega)).trans h.d1, (hb.block _ (by omega)).trans h.d2, h.gr.below DNCell.loc hb, h.xs, below_tr h.bel hb (by omega), by omega⟩
theorem PartInv.set3 {w wr : World} {d : List DN} {k cap j c : Nat} {p a : Option Addr} {zs : List (List Value × DN × List Nat)} (h : PartInv w d k p cap j a c zs wr) (b o : Nat) (u : Value) (hb : w.heap.size + 3 ≤ b)
    (hz : (Value.slice a zs.length c).ownBlock ≠ some b ∧ ∀ z ∈ zs, b ∉ z.2.2) : PartInv w d k p cap j a c zs (wr.setCell ⟨b, o, none⟩ u) :=
  ⟨(set_was _ b o _ u (by omega)).trans h.d0, (set_was _ b o _ u (by omega)).trans h.d1, (set_was _ b o _ u (by omega)).trans h.d2, h.gr.set DNCell.loc b o u hz.1 hz.2, h.xs, h.bel.setCell (show w.heap.size ≤ b by omega) _, by rw [setCell_size]; exact h.sz⟩
/-- The box behind an append. -/
theorem PartInv.box {w wr w2 : World} {d : List DN} {k cap j c : Nat} {p a : Option Addr} {zs : List (List Value × DN × List Nat)} (h : PartInv w d k p cap j a c zs wr) (hgrow : wr.grownBy w2 (Value.slice a zs.length c).ownBlock) :
    w2.cell? ⟨w.heap.size + 1 + 1, 0, none⟩ = some (.slice a zs.length c) ∧ w2.frozen? ⟨w.heap.size + 1 + 1, 0, none⟩ = false := by
  have hs := h.sz
  have hb := hgrow.block (w.heap.size + 1 + 1) (by omega) fun e => by have := (h.gr.own.lt _ e.symm).1; omega
  have := blk_cell (hb.trans h.d2) 0
  simpa using this
/-- A block that was laid after it is none of its own. -/
theorem PartInv.away {w wr : World} {d : List DN} {k cap j c : Nat} {p a : Option Addr} {zs : List (List Value × DN × List Nat)} (h : PartInv w d k p cap j a c zs wr) (b : Nat) (hb : wr.heap.size ≤ b) :
    (Value.slice a zs.length c).ownBlock ≠ some b ∧ ∀ z ∈ zs, b ∉ z.2.2 :=
  ⟨fun e => by have := (h.gr.own.lt b e).2; omega, fun z hz hg => by have := (h.gr.lo z hz b hg).2.1; omega⟩
theorem PartInv.step {w w1 W w2 : World} {d : List DN} {k cap j c c2 : Nat} {p a a2 : Option Addr} {zs : List (List Value × DN × List Nat)} {x : DN} {u : Value} {F : List Nat} (h : PartInv w d k p cap j a c zs w1) (hW : PartInv w d k p cap j a c zs W)
    (hF : RowOwn 1 (Flat IntEl) W u (shiftN k x).kids F) (hlo : ∀ g ∈ F, w1.heap.size ≤ g) (hnd : F.Nodup) (i0 : I64 x.kind) (i1 : I64 x.n) (i2 : x.s.size ≤ maxLen) (hone : ∀ y ∈ [Value.int .i64 x.kind, .int .i64 x.n, .string x.s, u], y.oneCell' = true)
    (hx : (partN d k).take (j + 1) = (partN d k).take j ++ [shiftN k x])
    (hown : w2.ownsRow (w.heap.size + 3) 55 4 (.slice a2 (zs.length + 1) c2) (zs.length + 1) (zs.flatMap (·.1) ++ [.int .i64 x.kind, .int .i64 x.n, .string x.s, u]))
    (hgrow : W.grownBy w2 (Value.slice a zs.length c).ownBlock) (hat : (Value.slice a2 (zs.length + 1) c2).ownBlock = (Value.slice a zs.length c).ownBlock ∨ (Value.slice a2 (zs.length + 1) c2).ownBlock = some W.heap.size) :
    PartInv w d k p cap (j + 1) a2 c2 (zs ++ [([.int .i64 x.kind, .int .i64 x.n, .string x.s, u], shiftN k x, F)]) (w2.setCell ⟨w.heap.size + 1 + 1, 0, none⟩ (.slice a2 (zs.length + 1) c2)) := by
  have hsz := hW.sz
  have hlen : (zs ++ [(([.int .i64 x.kind, .int .i64 x.n, .string x.s, u], shiftN k x, F) : List Value × DN × List Nat)]).length = zs.length + 1 := by simp
  have hlt : ∀ q, (Value.slice a zs.length c).ownBlock = some q → w.heap.size + 3 ≤ q := fun q hq => (hW.gr.own.lt q hq).1
  have hblk : ∀ q, q < w.heap.size + 3 → w2.heap[q]? = W.heap[q]? := fun q hq => hgrow.block q (by omega) fun e => by have := hlt q e.symm; omega
  have hFs : ∀ g ∈ F, g < W.heap.size := hF.sized (Flat.sized IntEl)
  have hzs := h.sz
  have G := hW.gr.app DNCell.loc (ys := [([.int .i64 x.kind, .int .i64 x.n, .string x.s, u], shiftN k x, F)]) (m := 1) hown hgrow hat rfl (by simp)
    (fun z hz => by rw [List.mem_singleton.1 hz]; exact ⟨⟨u, rfl, i0, i1, i2, hF⟩, rfl, hone⟩)
    (fun z hz g hg => by
      rw [List.mem_singleton.1 hz] at hg
      have := hlo g hg
      refine ⟨by omega, hFs g hg, fun e => ?_⟩
      have := (h.gr.own.lt g e).2
      omega)
    (by simpa using hnd)
    (fun z hz y hy g hg hg2 => by
      rw [List.mem_singleton.1 hy] at hg2
      have := (h.gr.lo z hz g hg).2.1
      have := hlo g hg2
      omega)
  have hbl : ∀ q, (Value.slice a2 (zs.length + 1) c2).ownBlock = some q → w.heap.size + 3 ≤ q := fun q hq => (G.own.lt q hq).1
  have G2 := G.set DNCell.loc (w.heap.size + 1 + 1) 0 (.slice a2 (zs.length + 1) c2) (fun e => by have := hbl _ e; omega) (fun z hz hg => by have := (G.lo z hz _ hg).1; omega)
  refine ⟨(set_was w2 (w.heap.size + 1 + 1) 0 w.heap.size _ (by omega)).trans ((hblk w.heap.size (by omega)).trans hW.d0), (set_was w2 (w.heap.size + 1 + 1) 0 (w.heap.size + 1) _ (by omega)).trans ((hblk (w.heap.size + 1) (by omega)).trans hW.d1), ?_, ?_, ?_, ?_, ?_⟩
  · rw [hlen]; exact blk_set ((hblk _ (by omega)).trans hW.d2)
  · rw [hlen]; exact G2
  · rw [List.map_append, h.xs, hx]; rfl
  · exact (hW.gr.bel hW.bel (by omega) (by omega) hgrow).setCell (show w.heap.size ≤ w.heap.size + 1 + 1 by omega) _
  · have := hgrow.size; rw [setCell_size]; omega
theorem take_shift (k c : Nat) (l : List Int) (h : c < l.length) : (l.take (c + 1)).map (· - (k : Int)) = (l.take c).map (· - (k : Int)) ++ [l[c] - (k : Int)] := by
  rw [List.take_succ_eq_append_getElem h, List.map_append]; rfl
set_option maxHeartbeats 4000000 in
theorem sPart (d : List DN) (k : Nat) (v : Value) (w : World) (hR : RowRd 4 DNEl w v d) (hp : preB (d.map DN.kids) = true) (hk2 : ∀ i (h : i < d.length), d[i].kids.length ≤ 2) (hk : k < d.length) :
    Calls Try.prog 63 #[.agg #[v], .int .i64 k] w (PartPost d k w) := by
  have hR0 := hR
  obtain ⟨p, cap, rfl, hm, hRf⟩ := hR.form
  unfold maxLen at hm
  have hlen : d.length ≤ 600 := by have := ((preB_iff _).1 hp).2.1; simpa using this
  obtain ⟨e, hs, hke, hel⟩ := span_at hp k (by simpa using hk)
  have hen := endN_of (by simpa using hk) hs
  have hpe := span_pend (f := d.length + 1) (by simpa using hk) hs (by simp; omega)
  simp only [List.length_map] at hel hpe
  have HE := fun W (hK : Kept w W) => Lib.hid (show Calls Try.prog 26 #[.agg #[.slice p d.length cap], .int .i64 k] W fun r w' => r = .returned (.int .i64 (e : Int)) ∧ Below W.heap.size W w' from by
    rw [← hpe]; exact sDEnd (d.length + 1) d _ k W (hR0.kept DNEl.st hK) (by omega) (by omega) (by omega))
  obtain ⟨ii, gi, gz0, gz1, gz2⟩ := info_parts info_int
  obtain ⟨jj, hi, hz0, hz1, hz2⟩ := info_parts info_dnode
  have hkids : ∀ i (hi : i < d.length), ∀ y ∈ d[i].kids, (i : Int) < y ∧ y < (d.length : Int) := fun i hi y hy => by
    have := preB_kids _ hp i (by simpa using hi) y (by simpa using hy)
    simpa using this
  have HP := Lib.hid hp
  clear hp hs hpe
  go_enter Try.func63, Try.ntmps63
  go_wp2_with fail
  go_loopw [6] (fun i wr => ∃ (a : Option Addr) (c : Nat) (zs : List (List Value × DN × List Nat)), i = .int .i64 ((k + zs.length : Nat) : Int) ∧ k + zs.length ≤ e ∧ PartInv w d k p cap zs.length a c zs wr) (fun i _ => e - (intOf i).toNat)
  case atStart =>
    refine ⟨none, 0, [], rfl, by simp; omega, ?_, ?_, ?_, Grow.nil (World.ownsRow_nil _ _ _ _), rfl, ?_, by simp⟩
    · rw [alloc_was _ _ _ (by simp; omega), alloc_was _ _ _ (by simp)]; exact alloc_at _ _ rfl
    · rw [alloc_was _ _ _ (by simp)]; exact alloc_at _ _ (by simp)
    · exact alloc_at _ _ (by simp)
    · exact below_tr (Joins.below_alloc2 w _ _) (Joins.below_alloc1 _ _)
  case round =>
    obtain ⟨a, c, zs, rfl, hje, hI⟩ := hrel
    have q0 := (blk_cell hI.d0 0).1
    have hsz := hI.sz
    simp at q0
    go_wp2_with fail
    refine (HE _ (Kept.of_below hI.bel)).out.mono ?_
    rintro r w1 ⟨rfl, hb1⟩
    have hI1 := hI.below hb1
    have hsz1 := hI1.sz
    clear q0 hI hsz hb1
    have q0 := (blk_cell hI1.d0 0).1
    have q1 := (blk_cell hI1.d1 0)
    have q2 := (blk_cell hI1.d2 0).1
    simp at q0 q1 q2
    by_cases hlt : k + zs.length < e
    · have hjd : k + zs.length < d.length := by omega
      obtain ⟨b, o, rfl, hbw, hcd⟩ := hRf (by omega)
      have ex := DNEl.st w w1 b _ _ (Kept.of_below hI1.bel) hbw (hcd (k + zs.length) hjd)
      have hkd := hkids (k + zs.length) hjd
      have hk2' := hk2 (k + zs.length) hjd
      have HX := Lib.hid (part_step hen hel hlt)
      have hbw1 : b < w1.heap.size := Nat.lt_of_lt_of_le hbw hI1.bel.size
      clear hcd hRf
      generalize d[k + zs.length] = x at *
      obtain ⟨⟨e0, i0⟩, ⟨e1, i1⟩, ⟨e2, i2⟩, ⟨u, e3, r3⟩⟩ := ex
      have r3' := r3
      obtain ⟨pk, ck, rfl, hmk, hkf⟩ := r3.form
      unfold maxLen at hmk
      have hcd := Lib.hid hkf
      have HK := Lib.hid hkd
      clear hkf hkd
      have ne1 : w1.heap.size ≠ w.heap.size + 1 + 1 := by omega
      go_wp2
      obtain ⟨W1, hW1⟩ : ∃ W1, W1 = w1.alloc (.cells #[.int .i64 x.kind, .int .i64 x.n, .string x.s, .slice pk x.kids.length ck] 55) := ⟨_, rfl⟩
      have hbW : Below w1.heap.size w1 W1 := by rw [hW1]; exact Joins.below_alloc1 w1 _
      have hW1s : W1.heap.size = w1.heap.size + 1 := by rw [hW1]; simp
      have x0 : W1.heap[w1.heap.size]? = some (.cells #[.int .i64 x.kind, .int .i64 x.n, .string x.s, .slice pk x.kids.length ck] 55 (0, 0)) := by rw [hW1]; exact alloc_at _ _ rfl
      have hKW : Kept w W1 := (Kept.of_below hI1.bel).trans (Kept.of_below hbW)
      rw [← hW1]
      clear hW1
      go_loopw [8, 10, 29] (fun kv xv ix wi => ∃ cc : Nat, ix = .int .i64 cc ∧ cc ≤ x.kids.length ∧ wi.ownsRow (w1.heap.size + 1) 3 1 kv cc (ic ((x.kids.take cc).map (· - (k : Int)))) ∧ Below (w1.heap.size + 1) W1 wi ∧ w1.heap.size + 1 ≤ wi.heap.size) (fun _ _ ix _ => x.kids.length - (intOf ix).toNat)
      case atStart =>
        refine ⟨0, rfl, Nat.zero_le _, ?_, by rw [← hW1s]; exact Joins.below_alloc1 W1 _, by simp; omega⟩
        have := World.ownsRow_lit W1 (base := w1.heap.size + 1) (e := 3) (size := 1) #[] 0 (by omega) (by decide) (by simp)
        rw [hW1s] at this
        exact this
      case round =>
        obtain ⟨cc, rfl, hcc, hown, hbi0, hsi⟩ := hrel
        have hbi : Below W1.heap.size W1 wr := by rw [hW1s]; exact hbi0
        by_cases hlt2 : cc < x.kids.length
        · obtain ⟨bk, ok, rfl, hbk, hck⟩ := hcd.out (by omega)
          obtain ⟨g0, j0, j1⟩ := IntEl.st w1 wr bk _ _ ((Kept.of_below hbW).trans (Kept.of_below hbi)) hbk (hck cc hlt2)
          rw [Nat.mul_one] at g0
          obtain ⟨y0, y1⟩ := HK.out _ (List.getElem_mem hlt2)
          have HT := Lib.hid (take_shift k cc x.kids hlt2)
          have hcl : ((x.kids.take cc).map (· - (k : Int))).length = cc := by simp; omega
          have HC := Lib.hid hcl
          clear hcl
          generalize x.kids[cc] = y at *
          have y2 : 0 ≤ y := by omega
          have y3 : y ≤ 600 := by omega
          have y4 : (k : Int) ≤ 600 := by omega
          clear hck e0 e1 e2 e3 q0 q1 q2
          have hm1 : cc + 1 ≤ maxLen := by unfold maxLen; omega
          have hm2 : (cc + 1) * 8 ≤ 140737488355328 := by omega
          go_wp2_with (at_builtin; refine wpList_append_own _ rfl (.tmp 33) (.tmp 37) 53 rfl (w1.heap.size + 1) 3 ii (.int .i64 0) 1 8 Try.underlying53 gi gz0 gz1 gz2 rfl (by decide) _ cc (ic ((x.kids.take cc).map (· - (k : Int)))) rfl (hown.alloc _) ⟨wr.heap.size, 0, none⟩ 1 1 [.int .i64 (y - k)] rfl rfl (new_cells _ _ _ _ rfl) (ic_one [y - k]) hm1 hm2 (by simp; omega) ?_; intro v2 w2 hown2 hgrow2 _)
          have R := own_appN hown hbi0 (by omega) hsi hgrow2
          have hown3 : w2.ownsRow (w1.heap.size + 1) 3 1 v2 (cc + 1) (ic ((x.kids.take (cc + 1)).map (· - (k : Int)))) := by rw [HT.out, ic_app]; exact hown2
          clear hown hown2 hgrow2 hbi
          go_roundw
          case rel => exact ⟨_, _, _, ⟨cc + 1, rfl, by omega, by rw [← List.map_take]; exact hown3, R.1, R.2⟩, rfl, rfl, by go_num⟩
          case measure => simp [intOf]; omega
        · obtain rfl : cc = x.kids.length := by omega
          have hI2 := hI1.below (below_tr hbW hbi)
          have hsW := hbi.size
          have y0 := (hbi.block w1.heap.size (by omega)).trans x0
          have yc := blk_cell y0
          have y3 := (yc 0).1
          have y4 := (yc 1).1
          have y5 := (yc 2).1
          have y6 := (yc 3).1
          have y7 := (yc 3).2
          have q2' := (blk_cell hI2.d2 0)
          simp at y3 y4 y5 y6 q2'
          obtain ⟨ka, kc, rfl⟩ := own_sl hown
          rw [List.take_length] at hown
          have hkl : (x.kids.map (· - (k : Int))).length = x.kids.length := List.length_map ..
          have hF := own_ints (l := x.kids.map (· - (k : Int))) (by rw [hkl]; exact hown) (fun z hz => by
            obtain ⟨y, hy, rfl⟩ := List.mem_map.1 hz
            have := HK.out y hy
            exact ⟨by omega, by omega⟩)
          clear hcd e0 e1 e2 e3 q0 q1 q2 yc
          obtain ⟨F, hFo, hFlo, hFnd⟩ := hF
          have hzl : zs.length ≤ 600 := by omega
          have hS := hI2.set3 w1.heap.size 3 (.slice ka x.kids.length kc) (by omega) (hI1.away _ (Nat.le_refl _))
          have hS2 := hS.below (Joins.below_alloc1 _ (.cells #[.int .i64 x.kind, .int .i64 x.n, .string x.s, .slice ka x.kids.length kc] 55))
          have hO := hS2.gr.own
          have hone : ∀ u ∈ [Value.int .i64 x.kind, .int .i64 x.n, .string x.s, .slice ka x.kids.length kc], u.oneCell' = true := by intro u hu; simp at hu; rcases hu with rfl | rfl | rfl | rfl <;> rfl
          obtain ⟨CC, hCC⟩ : ∃ CC : List Value, CC = zs.flatMap (·.1) := ⟨_, rfl⟩
          rw [← hCC] at hO
          have HCC := Lib.hid hCC
          clear hCC
          have hzm : zs.length + 1 ≤ maxLen := by unfold maxLen; omega
          have hzb : (zs.length + 1) * 56 ≤ 140737488355328 := by omega
          have hzw : w.heap.size + 3 ≤ wr.heap.size := hI2.sz
          go_wp2_with (at_builtin; refine wpList_append_own_at _ rfl (.tmp 43) (.tmp 45) 27 rfl (w.heap.size + 3) 55 jj (.agg #[.int .i64 0, .int .i64 0, .string ⟨#[]⟩, .slice none 0 0]) 4 56 Try.underlying27 hi hz0 hz1 hz2 rfl (by decide) _ zs.length CC rfl hO ⟨wr.heap.size, 0, none⟩ 1 1 [.int .i64 x.kind, .int .i64 x.n, .string x.s, .slice ka x.kids.length kc] rfl rfl (new_cells' _ _ _ _ (by simp [World.setCell]) rfl) hone hzm hzb (by simp [World.setCell]; omega) ?_; intro v2 w2 hown2 hgrow2 _ hat2; obtain ⟨a2, c2, rfl⟩ := own_sl hown2; rw [HCC.out] at hown2; have qq := hS2.box hgrow2)
          have hFW : RowOwn 1 (Flat IntEl) ((wr.setCell ⟨w1.heap.size, 3, none⟩ (.slice ka x.kids.length kc)).alloc (.cells #[.int .i64 x.kind, .int .i64 x.n, .string x.s, .slice ka x.kids.length kc] 55)) (.slice ka x.kids.length kc) (shiftN k x).kids F :=
            hFo.loc IntFlat.loc (by simp [World.setCell]) fun g hg => by
              have h1 := hFlo g hg
              have h2 := hFo.sized (Flat.sized IntEl) g hg
              rw [alloc_was _ _ _ (by rw [setCell_size]; exact h2), set_was _ _ _ _ _ (by omega)]
          have hst := hI1.step hS2 hFW (fun g hg => by have := hFlo g hg; omega) hFnd i0 i1 i2 hone HX.out hown2 hgrow2 hat2
          clear hown2 hgrow2 hat2 hS hS2 hFW hFo hO qq hown
          go_roundw
          case rel => exact ⟨a2, c2, zs ++ [([.int .i64 x.kind, .int .i64 x.n, .string x.s, .slice ka x.kids.length kc], shiftN k x, F)], by simp; omega, by simp; omega, by rw [List.length_append]; exact hst⟩
          case measure => simp [intOf]; omega
    · have hj : zs.length = e - k := by omega
      have hpl : zs.length = (partN d k).length := by rw [part_len hk hen hel]; exact hj
      have hxs := hI1.xs
      rw [hpl, List.take_length] at hxs
      obtain ⟨F, hF, hFlo, hFnd⟩ := hI1.gr.rowOwn (E := DNOwn) (by omega) DNCell.own
      rw [hxs] at hF
      have hB := hI1.bel
      have HF := Lib.hid (hF.loc DNOwn.loc (w' := w1.setCell ⟨w.heap.size + 1, 0, none⟩ (.slice a zs.length c)) (by simp [World.setCell]) fun g hg => by
        have := hFlo g hg
        exact set_was _ _ _ _ _ (by omega))
      have HB : Hid (Below w.heap.size w (w1.setCell ⟨w.heap.size + 1, 0, none⟩ (.slice a zs.length c))) := Lib.hid (hB.setCell (show w.heap.size ≤ w.heap.size + 1 by omega) _)
      have q3 := q1.1
      have q4 := q1.2
      have ne3 : w.heap.size ≠ w.heap.size + 1 := by omega
      rw [hpl] at HF HB q2 ⊢
      clear hF hxs
      go_wp2
      exact bodyPost_ret (v := .agg #[.slice a (partN d k).length c]) (by simp [results, Try.results63, go_sem, q3]) rfl ⟨a, c, F, rfl, HF.out, fun g hg => by have := hFlo g hg; omega, hFnd, HB.out⟩
end Go.Proofs.Ytkalkmgnjlohnaa
