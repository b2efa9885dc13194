/- What the model marks in a heap. -/
import Derived.Test.YtdhpmblhejcehaaHpU
import Derived.Test.YtdhpmblhejcehaaOwn
import Derived.Deep.Cut
namespace Go.Proofs.Ytdhpmblhejcehaa
set_option linter.unusedVariables false
set_option maxRecDepth 100000
open Go.ChangeShapes Go.WideShapes Go.ChangeAt Go.RowKit

/-- A row of marks, in a block made since world W. -/
structure SeenIs (W : World) (g : Nat) (S : List Bool) (w : World) : Prop where
  cell : ∀ i (h : i < S.length), w.cell? ⟨g, i, none⟩ = some (.bool S[i])
  fr : ∀ i, i < S.length → w.frozen? ⟨g, i, none⟩ = false
  lt : g < w.heap.size
  lo : W.heap.size ≤ g
  bel : Below W.heap.size W w
theorem SeenIs.below {W w w' : World} {g : Nat} {S : List Bool} (h : SeenIs W g S w) (hb : Below w.heap.size w w') : SeenIs W g S w' :=
  ⟨fun i hi => (hb.cell (p := ⟨g, i, none⟩) h.lt).trans (h.cell i hi), fun i hi => (hb.frozen (p := ⟨g, i, none⟩) h.lt).trans (h.fr i hi), Nat.lt_of_lt_of_le h.lt hb.size, h.lo, below_tr h.bel hb⟩
theorem SeenIs.set {W w : World} {g : Nat} {S : List Bool} (h : SeenIs W g S w) (i : Nat) (hi : i < S.length) : SeenIs W g (S.set i true) (w.setCell ⟨g, i, none⟩ (.bool true)) := by
  refine ⟨fun j hj => ?_, fun j hj => ?_, by rw [setCell_size]; exact h.lt, h.lo, h.bel.setCell (by exact h.lo) _⟩
  · have hj' : j < S.length := by rwa [List.length_set] at hj
    by_cases he : j = i
    · subst he
      rw [List.getElem_set_self]
      exact World.cell?_setCell_same _ _ _ (h.cell j hj')
    · rw [List.getElem_set_ne (by omega)]
      exact (World.cell?_setCell_other _ _ _ _ (fun e => he (by cases e; rfl))).trans (h.cell j hj')
  · have hj' : j < S.length := by rwa [List.length_set] at hj
    exact (World.frozen?_setCell _ _ _ _).trans (h.fr j hj')
/-- The marks as the memory holds them. -/
def seenOf (w : World) (g n : Nat) : List Bool := (List.range n).map fun i => match w.cell? ⟨g, i, none⟩ with | some (.bool b) => b | _ => false
theorem SeenIs.of {W w : World} {g : Nat} {S : List Bool} (h : SeenIs W g S w) {n : Nat} (hn : S.length = n) : seenOf w g n = S := by
  subst hn
  refine List.ext_getElem (by simp [seenOf]) fun i h1 h2 => ?_
  simp only [seenOf, List.getElem_map, List.getElem_range, h.cell i h2]
/-- How far the passes have come. -/
def markM (g n : Nat) (u : Value) (w : World) : Nat := match u with | .bool true => unseen (seenOf w g n) + 1 | _ => 0
theorem hp_al (w : World) (O : Obj) {n : Nat} (hn : n = w.heap.size) : (w.alloc O).heap[n]? = some O := by
  subst hn
  show (w.heap.push O)[w.heap.size]? = some O
  exact Array.getElem?_push_size
theorem hp_cell {w : World} {b : Nat} {cs : Array Value} {T : TypeId} (h : w.heap[b]? = some (.cells cs T (0, 0))) (i : Nat) : w.cell? ⟨b, i, none⟩ = cs[i]? := by simp [World.cell?, h]
theorem hp_lt {w : World} {b : Nat} {O : Obj} (h : w.heap[b]? = some O) : b < w.heap.size := (Array.getElem?_eq_some_iff.1 h).1
theorem hp_was {w : World} {b : Nat} {O : Obj} (h : w.heap[b]? = some O) (O' : Obj) : (w.alloc O').heap[b]? = some O := (((Below.refl w.heap.size w).alloc (Nat.le_refl _) O').block b (hp_lt h)).trans h
theorem hp_set {w : World} {b g o : Nat} {O : Obj} (h : w.heap[b]? = some O) (hne : b ≠ g) (u : Value) : (w.setCell ⟨g, o, none⟩ u).heap[b]? = some O := (Below.heap_setCell _ _ _ _ hne).trans h
/-- All roots are marked. -/
def rootsIn (r : List Vl) (S : List Bool) : Prop := ∀ v ∈ r, v.kind = 6 → S[v.n.toNat]? = some true
theorem rootsIn.set {r : List Vl} {S : List Bool} (h : rootsIn r S) (i : Nat) : rootsIn r (S.set i true) := fun v hv hk => by
  have := h v hv hk
  by_cases he : i = v.n.toNat
  · subst he
    rw [List.getElem?_set_self (List.getElem?_eq_some_iff.1 this).1]
  · rw [List.getElem?_set_ne he]; exact this
theorem Marks.set {h : List Ce} {r : List Vl} {S : List Bool} (hm : Marks h r S) {i : Nat} (hi : Rch h r i) : Marks h r (S.set i true) :=
  ⟨by rw [List.length_set]; exact hm.len, fun j hj => by
    by_cases he : i = j
    · subst he; exact hi
    · rw [List.getElem?_set_ne he] at hj; exact hm.only j hj⟩
/-- A pass over the cells: from the marks S0 to S; 'again' tells whether there are more. -/
structure Pass (h : List Ce) (r : List Vl) (S0 S : List Bool) (again : Bool) : Prop where
  mks : Marks h r S
  rt : rootsIn r S
  more : again = true → unseen S < unseen S0
  none_ : again = false → S = S0
theorem Pass.set {h : List Ce} {r : List Vl} {S0 S : List Bool} {again : Bool} (p : Pass h r S0 S again) {i : Nat} (hi : Rch h r i) (hf : S[i]? = some false) : Pass h r S0 (S.set i true) true := by
  refine ⟨p.mks.set hi, p.rt.set i, fun _ => ?_, fun e => by cases e⟩
  have := unseen_set hf
  cases ha : again
  · have := p.none_ ha; subst this; omega
  · have := p.more ha; omega
theorem info_bool : (Try.prog.info? 4).map (fun i => (i.zero, i.size, i.bytes)) = some (some (.bool false), 1, 1) := by kernel_rfl
set_option maxHeartbeats 2000000 in
theorem sMarks (h : List Ce) (r : List Vl) (v0 v1 : Value) (w : World) (h0 : RowRd 9 CeEl w v0 h) (h1 : RowRd 3 VlEl w v1 r) (hb : heapB h r = true) :
    Calls Try.prog 43 #[v0, v1] w fun e w' => ∃ g, e = .returned (.slice (some ⟨g, 0, none⟩) h.length h.length) ∧ (∀ i, i < h.length → w'.cell? ⟨g, i, none⟩ = some (.bool (rchB h r i))) ∧ g < w'.heap.size ∧ w.heap.size ≤ g ∧ Below w.heap.size w w' := by
  obtain ⟨ii, gi, gz0, gz1, gz2⟩ := info_parts info_bool
  obtain ⟨a0, c0, rfl, hm0, hR0⟩ := h0.form
  obtain ⟨a1, c1, rfl, hm1, hR1⟩ := h1.form
  clear h0 h1
  unfold maxLen at hm0 hm1
  have hl4 := heap_len hb
  have HHB := Lib.hid hb
  obtain ⟨W0, hmk, hown0, hgr0⟩ := run_makeSlice_full (P := Try.prog) w w.heap.size 50 4 ii (.bool false) 1 Try.underlying50 gi gz0 gz1 .i64 .i64 h.length (by omega) (by rw [gz2]; omega) (by unfold maxLen; omega) (Nat.le_refl _)
  have hS0 : SeenIs w w.heap.size (List.replicate h.length false) W0 := by
    have hlt := (hown0.lt w.heap.size rfl).2
    refine ⟨fun i hi => ?_, fun i hi => hown0.frozenAt i, hlt, Nat.le_refl _, ⟨hgr0.os, hgr0.tape, hgr0.output, hgr0.size, fun k hk => hgr0.block k hk (by simp)⟩⟩
    rw [List.length_replicate] at hi
    obtain ⟨g, cap, e, -, -, -, g4, -⟩ := own_shape hown0 (by omega)
    cases e
    rw [g4 i hi, List.getElem_replicate]
    simp [madeCells, Value.cells, hi, Nat.mod_one]
  clear hown0 hgr0 gi gz0 gz1 gz2 hb
  go_enter Try.func43, Try.ntmps43
  go_wp2
  go_loopw [18] (fun i wr => ∃ (k : Nat) (S : List Bool), i = .int .i64 k ∧ k ≤ r.length ∧ Hid (Marks h r S ∧ rootsIn (r.take k) S) ∧ SeenIs w w.heap.size S wr) (fun i _ => r.length - (intOf i).toNat)
  case atStart =>
    refine ⟨0, _, rfl, Nat.zero_le _, ⟨⟨by simp, fun i hi => ?_⟩, fun v hv => by simp at hv⟩, hS0⟩
    rw [List.getElem?_replicate] at hi
    split at hi <;> simp at hi
  case round =>
    obtain ⟨k, S, rfl, hk, HM, hS⟩ := hrel
    have hK : Kept w wr := Kept.of_below hS.bel
    have hglt := hS.lt
    have hSl : S.length = h.length := HM.out.1.len
    by_cases hlt : k < r.length
    · obtain ⟨b, o, rfl, hbw, hc⟩ := hR1 (by omega)
      obtain ⟨⟨e0, i0⟩, ⟨e1, i1⟩, ⟨e2, i2⟩⟩ := VlEl.st w wr b _ _ hK hbw (hc k hlt)
      have hbwr := Nat.lt_of_lt_of_le hbw hK.size
      have HR := Lib.hid (show ∀ hk6 : r[k].kind = 6, 0 ≤ r[k].n ∧ r[k].n < h.length from fun hk6 => heap_root HHB.out (List.getElem_mem hlt) hk6)
      have HT := Lib.hid (show r.take (k + 1) = r.take k ++ [r[k]] from List.take_succ_eq_append_getElem hlt)
      have HRc := Lib.hid (show r[k].kind = 6 → Rch h r r[k].n.toNat from fun hk6 => Rch.root _ (List.getElem_mem hlt) hk6)
      clear hc hR1 hR0 hmk hS0
      generalize r[k] = x at *
      by_cases hk6 : x.kind = 6
      · obtain ⟨n0, n1⟩ := HR.out hk6
        obtain ⟨p, hp⟩ : ∃ p : Nat, x.n = (p : Int) := ⟨x.n.toNat, by omega⟩
        have hpt : x.n.toNat = p := by omega
        have hpl : p < S.length := by omega
        have HM2 := Lib.hid (show Marks h r (S.set p true) ∧ rootsIn (r.take (k + 1)) (S.set p true) from ⟨HM.out.1.set (by rw [← hpt]; exact HRc.out hk6), fun v hv hkv => by
          rw [HT.out] at hv
          rcases List.mem_append.1 hv with hv | hv
          · exact HM.out.2.set p v hv hkv
          · rw [List.mem_singleton] at hv; subst hv; rw [hpt]; exact List.getElem?_set_self hpl⟩)
        have hS2 := fun (O : Obj) => (hS.set p hpl).below (Joins.below_alloc1 _ O)
        have q1 := hS.cell p hpl
        have q2 := hS.fr p hpl
        have n2 : (p : Int) < (h.length : Int) := by omega
        have n3 : (0 : Int) ≤ (p : Int) := by omega
        rw [hk6] at e0
        rw [hp] at e1
        have hne : w.heap.size ≠ wr.heap.size := by omega
        clear HM HR HRc hp hpt n0 n1 hk6
        generalize S[p] = sp at *
        go_wp2
        go_roundw
        case rel => exact ⟨k + 1, _, by go_num, by omega, HM2, hS2 _⟩
        case measure => simp [intOf]; omega
      · have hk6' : (x.kind == 6) = false := by simpa using hk6
        have HM2 := Lib.hid (show Marks h r S ∧ rootsIn (r.take (k + 1)) S from ⟨HM.out.1, fun v hv hkv => by
          rw [HT.out] at hv
          rcases List.mem_append.1 hv with hv | hv
          · exact HM.out.2 v hv hkv
          · rw [List.mem_singleton] at hv; subst hv; exact absurd hkv hk6⟩)
        clear HM HR HRc hk6
        go_wp2
        go_roundw
        case rel => exact ⟨k + 1, S, by go_num, by omega, HM2, hS.below (Joins.below_alloc1 wr _)⟩
        case measure => simp [intOf]; omega
    · obtain rfl : k = r.length := by omega
      rw [List.take_length] at HM
      clear hR1 hmk hS0 hk hlt hK hglt hSl
      generalize wr = W1 at *
      have hb1 := hS.bel
      go_wp2
      go_loopw [8] (fun u wr => ∃ (S : List Bool) (ag : Bool), u = .bool ag ∧ Hid (Marks h r S ∧ rootsIn r S ∧ (ag = false → ∀ i, i < h.length → stepOk h S i)) ∧ SeenIs w w.heap.size S wr) (fun u wr => markM w.heap.size h.length u wr)
      case atStart => exact ⟨S, true, rfl, ⟨HM.out.1, HM.out.2, fun e => by cases e⟩, hS⟩
      case round =>
        clear HM hS hb1
        obtain ⟨S0, ag, rfl, HM, hS⟩ := hrel
        cases ag
        · have HF := Lib.hid (marks_all HHB.out HM.out.1 HM.out.2.1 (HM.out.2.2 rfl))
          have hSl := HM.out.1.len
          clear HM hR0
          go_wp2
          go_ret
          refine ⟨_, rfl, fun i hi => ?_, hS.lt, hS.lo, hS.bel⟩
          have hi' : i < S0.length := by omega
          have := HF.out i hi
          rw [List.getElem?_eq_getElem hi'] at this
          rw [hS.cell i hi']
          exact congrArg (fun b => some (Value.bool b)) (Option.some.inj this)
        · have HP0 := Lib.hid (show Pass h r S0 S0 false from ⟨HM.out.1, HM.out.2.1, (fun e => by cases e), fun _ => rfl⟩)
          have HM0 := Lib.hid (show markM w.heap.size h.length (.bool true) wr = unseen S0 + 1 from by simp only [markM]; rw [hS.of HM.out.1.len])
          clear HM
          generalize hW2 : wr = W2 at *
          clear hW2
          go_wp2
          go_loopw [8, 33] (fun u i wr => ∃ (k : Nat) (S : List Bool) (ag : Bool), u = .bool ag ∧ i = .int .i64 k ∧ k ≤ h.length ∧ Hid (Pass h r S0 S ag ∧ (ag = false → ∀ j, j < k → stepOk h S j)) ∧ SeenIs w w.heap.size S wr) (fun _ i _ => h.length - (intOf i).toNat)
          case atStart => exact ⟨0, S0, false, rfl, rfl, Nat.zero_le _, ⟨HP0.out, fun _ j hj => absurd hj (by omega)⟩, hS⟩
          case round =>
            obtain ⟨k, S, ag, rfl, rfl, hk, HQ, hS⟩ := hrel
            have hK : Kept w wr := Kept.of_below hS.bel
            have hglt := hS.lt
            have hSl : S.length = h.length := HQ.out.1.mks.len
            by_cases hlt : k < h.length
            · obtain ⟨b, o, rfl, hbw, hc⟩ := hR0 (by omega)
              obtain ⟨⟨e0, e1, e2, e3, e4, e5, e6, e7, e8⟩, -⟩ := ce_at (CeEl.st w wr b _ _ hK hbw (hc k hlt))
              have hkl : k < S.length := by omega
              have q1 := hS.cell k hkl
              have HXa := Lib.hid (show h[k].a.kind = 6 → 0 ≤ h[k].a.n ∧ h[k].a.n < h.length from fun hk6 => heap_a HHB.out hlt hk6)
              have HXb := Lib.hid (show h[k].b.kind = 6 → 0 ≤ h[k].b.n ∧ h[k].b.n < h.length from fun hk6 => heap_b HHB.out hlt hk6)
              have HRa := Lib.hid (show Rch h r k → h[k].a.kind = 6 → Rch h r h[k].a.n.toNat from fun hj hk6 => Rch.byA k hj hlt hk6)
              have HRb := Lib.hid (show Rch h r k → h[k].b.kind = 6 → Rch h r h[k].b.n.toNat from fun hj hk6 => Rch.byB k hj hlt hk6)
              have HST := Lib.hid (show ∀ S : List Bool, (S[k]? = some true → (h[k].a.kind = 6 → S[h[k].a.n.toNat]? = some true) ∧ (h[k].b.kind = 6 → S[h[k].b.n.toNat]? = some true)) → stepOk h S k from fun S hh _ => hh)
              clear hc
              generalize h[k] = x at *
              cases hsk : S[k]
              · have HQ2 := Lib.hid (show Pass h r S0 S ag ∧ (ag = false → ∀ j, j < k + 1 → stepOk h S j) from ⟨HQ.out.1, fun e j hj => by
                  by_cases he : j = k
                  · subst he
                    exact HST.out S (fun hh => by rw [List.getElem?_eq_getElem hkl, hsk] at hh; cases hh)
                  · exact HQ.out.2 e j (by omega)⟩)
                rw [hsk] at q1
                clear HQ hsk HXa HXb HRa HRb HST
                go_wp2
                go_roundw
                case rel => exact ⟨k + 1, S, ag, rfl, by go_num, by omega, HQ2, hS.below (Joins.below_alloc1 _ _)⟩
                case measure => simp [intOf]; omega
              · have HI0 := Lib.hid (show Pass h r S0 S ag ∧ (ag = false → ∀ j, j < k → stepOk h S j) ∧ S[k]? = some true ∧ (ag = false → (0 < 0 → x.a.kind = 6 → S[x.a.n.toNat]? = some true) ∧ (1 < 0 → x.b.kind = 6 → S[x.b.n.toNat]? = some true)) from ⟨HQ.out.1, HQ.out.2, by rw [List.getElem?_eq_getElem hkl, hsk], fun _ => ⟨fun hh => absurd hh (by omega), fun hh => absurd hh (by omega)⟩⟩)
                rw [hsk] at q1
                clear HQ hsk hSl hkl
                go_wp2
                generalize hW3 : wr = W3 at *
                clear hW3
                go_loopw [8, 49] (fun u i wr => ∃ (j : Nat) (S : List Bool) (ag : Bool), u = .bool ag ∧ i = .int .i64 j ∧ j ≤ 2 ∧ Hid (Pass h r S0 S ag ∧ (ag = false → ∀ j, j < k → stepOk h S j) ∧ S[k]? = some true ∧ (ag = false → (0 < j → x.a.kind = 6 → S[x.a.n.toNat]? = some true) ∧ (1 < j → x.b.kind = 6 → S[x.b.n.toNat]? = some true))) ∧ SeenIs w w.heap.size S wr ∧ wr.heap[W3.heap.size + 1]? = some (.cells #[.int .i64 x.a.kind, .int .i64 x.a.n, .string x.a.s, .int .i64 x.b.kind, .int .i64 x.b.n, .string x.b.s] 53 (0, 0))) (fun _ i _ => 2 - (intOf i).toNat)
                case atStart => exact ⟨0, S, ag, rfl, rfl, by omega, HI0, hS.below (Joins.below_alloc2 _ _ _), hp_al _ _ (by simp)⟩
                case round =>
                  clear HI0 q1 e0 e1 e2 e3 e4 e5 e6 e7 e8
                  obtain ⟨j, S2, ag2, rfl, rfl, hj, HI, hS2, hL⟩ := hrel
                  have hlt2 := hp_lt hL
                  have hg2 := hS2.lt
                  have hj3 : j = 0 ∨ j = 1 ∨ j = 2 := by omega
                  rcases hj3 with rfl | rfl | rfl
                  · have L0 := hp_cell hL 0
                    have L1 := hp_cell hL 1
                    have L2 := hp_cell hL 2
                    simp at L0 L1 L2
                    by_cases hk6 : x.a.kind = 6
                    · obtain ⟨n0, n1⟩ := HXa.out hk6
                      obtain ⟨p, hp⟩ : ∃ p : Nat, x.a.n = (p : Int) := ⟨x.a.n.toNat, by omega⟩
                      have hpt : x.a.n.toNat = p := by omega
                      have hpl : p < S2.length := by have := HI.out.1.mks.len; omega
                      have q1 := hS2.cell p hpl
                      have q2 := hS2.fr p hpl
                      have HRp := Lib.hid (show Rch h r p from by rw [← hpt]; exact HRa.out (HI.out.1.mks.only k HI.out.2.2.1) hk6)
                      have m2 : (p : Int) < (h.length : Int) := by omega
                      have m3 : (0 : Int) ≤ (p : Int) := by omega
                      rw [hk6] at L0
                      rw [hp] at L1
                      cases hsp : S2[p]
                      · have hf : S2[p]? = some false := by rw [List.getElem?_eq_getElem hpl, hsp]
                        have HI2 := Lib.hid (show Pass h r S0 (S2.set p true) true ∧ (true = false → ∀ j, j < k → stepOk h (S2.set p true) j) ∧ (S2.set p true)[k]? = some true ∧ (true = false → (0 < 1 → x.a.kind = 6 → (S2.set p true)[x.a.n.toNat]? = some true) ∧ (1 < 1 → x.b.kind = 6 → (S2.set p true)[x.b.n.toNat]? = some true)) from
                          ⟨HI.out.1.set HRp.out hf, (fun e => by cases e), by
                            by_cases he : p = k
                            · subst he; exact List.getElem?_set_self hpl
                            · rw [List.getElem?_set_ne he]; exact HI.out.2.2.1, fun e => by cases e⟩)
                        have hS3 := fun (O : Obj) => (hS2.set p hpl).below (Joins.below_alloc1 _ O)
                        have hL3 := fun (O : Obj) => hp_was (hp_set (g := w.heap.size) (o := p) hL (by omega) (.bool true)) O
                        rw [hsp] at q1
                        clear HI HRp hp hpt n0 n1 hk6 hf hsp
                        go_wp2
                        go_roundw
                        case rel => exact ⟨1, _, true, rfl, by go_num, by omega, HI2, hS3 _, hL3 _⟩
                        case measure => simp [intOf]
                      · have HI2 := Lib.hid (show Pass h r S0 S2 ag2 ∧ (ag2 = false → ∀ j, j < k → stepOk h S2 j) ∧ S2[k]? = some true ∧ (ag2 = false → (0 < 1 → x.a.kind = 6 → S2[x.a.n.toNat]? = some true) ∧ (1 < 1 → x.b.kind = 6 → S2[x.b.n.toNat]? = some true)) from
                          ⟨HI.out.1, HI.out.2.1, HI.out.2.2.1, fun e => ⟨fun _ _ => by rw [hpt, List.getElem?_eq_getElem hpl, hsp], fun hh => absurd hh (by omega)⟩⟩)
                        rw [hsp] at q1
                        clear HI HRp hp hpt n0 n1 hk6 hsp
                        go_wp2
                        go_roundw
                        case rel => exact ⟨1, S2, ag2, rfl, by go_num, by omega, HI2, hS2.below (Joins.below_alloc1 _ _), hp_was hL _⟩
                        case measure => simp [intOf]
                    · have hk6' : (x.a.kind == 6) = false := by simpa using hk6
                      have HI2 := Lib.hid (show Pass h r S0 S2 ag2 ∧ (ag2 = false → ∀ j, j < k → stepOk h S2 j) ∧ S2[k]? = some true ∧ (ag2 = false → (0 < 1 → x.a.kind = 6 → S2[x.a.n.toNat]? = some true) ∧ (1 < 1 → x.b.kind = 6 → S2[x.b.n.toNat]? = some true)) from
                          ⟨HI.out.1, HI.out.2.1, HI.out.2.2.1, fun e => ⟨fun _ hh => absurd hh hk6, fun hh => absurd hh (by omega)⟩⟩)
                      clear HI hk6
                      go_wp2
                      go_roundw
                      case rel => exact ⟨1, S2, ag2, rfl, by go_num, by omega, HI2, hS2.below (Joins.below_alloc1 _ _), hp_was hL _⟩
                      case measure => simp [intOf]
                  · have L0 := hp_cell hL 3
                    have L1 := hp_cell hL 4
                    have L2 := hp_cell hL 5
                    simp at L0 L1 L2
                    by_cases hk6 : x.b.kind = 6
                    · obtain ⟨n0, n1⟩ := HXb.out hk6
                      obtain ⟨p, hp⟩ : ∃ p : Nat, x.b.n = (p : Int) := ⟨x.b.n.toNat, by omega⟩
                      have hpt : x.b.n.toNat = p := by omega
                      have hpl : p < S2.length := by have := HI.out.1.mks.len; omega
                      have q1 := hS2.cell p hpl
                      have q2 := hS2.fr p hpl
                      have HRp := Lib.hid (show Rch h r p from by rw [← hpt]; exact HRb.out (HI.out.1.mks.only k HI.out.2.2.1) hk6)
                      have m2 : (p : Int) < (h.length : Int) := by omega
                      have m3 : (0 : Int) ≤ (p : Int) := by omega
                      rw [hk6] at L0
                      rw [hp] at L1
                      cases hsp : S2[p]
                      · have hf : S2[p]? = some false := by rw [List.getElem?_eq_getElem hpl, hsp]
                        have HI2 := Lib.hid (show Pass h r S0 (S2.set p true) true ∧ (true = false → ∀ j, j < k → stepOk h (S2.set p true) j) ∧ (S2.set p true)[k]? = some true ∧ (true = false → (0 < 2 → x.a.kind = 6 → (S2.set p true)[x.a.n.toNat]? = some true) ∧ (1 < 2 → x.b.kind = 6 → (S2.set p true)[x.b.n.toNat]? = some true)) from
                          ⟨HI.out.1.set HRp.out hf, (fun e => by cases e), by
                            by_cases he : p = k
                            · subst he; exact List.getElem?_set_self hpl
                            · rw [List.getElem?_set_ne he]; exact HI.out.2.2.1, fun e => by cases e⟩)
                        have hS3 := fun (O : Obj) => (hS2.set p hpl).below (Joins.below_alloc1 _ O)
                        have hL3 := fun (O : Obj) => hp_was (hp_set (g := w.heap.size) (o := p) hL (by omega) (.bool true)) O
                        rw [hsp] at q1
                        clear HI HRp hp hpt n0 n1 hk6 hf hsp
                        go_wp2
                        go_roundw
                        case rel => exact ⟨2, _, true, rfl, by go_num, by omega, HI2, hS3 _, hL3 _⟩
                        case measure => simp [intOf]
                      · have HI2 := Lib.hid (show Pass h r S0 S2 ag2 ∧ (ag2 = false → ∀ j, j < k → stepOk h S2 j) ∧ S2[k]? = some true ∧ (ag2 = false → (0 < 2 → x.a.kind = 6 → S2[x.a.n.toNat]? = some true) ∧ (1 < 2 → x.b.kind = 6 → S2[x.b.n.toNat]? = some true)) from
                          ⟨HI.out.1, HI.out.2.1, HI.out.2.2.1, fun e => ⟨fun _ => (HI.out.2.2.2 e).1 (by omega), fun _ _ => by rw [hpt, List.getElem?_eq_getElem hpl, hsp]⟩⟩)
                        rw [hsp] at q1
                        clear HI HRp hp hpt n0 n1 hk6 hsp
                        go_wp2
                        go_roundw
                        case rel => exact ⟨2, S2, ag2, rfl, by go_num, by omega, HI2, hS2.below (Joins.below_alloc1 _ _), hp_was hL _⟩
                        case measure => simp [intOf]
                    · have hk6' : (x.b.kind == 6) = false := by simpa using hk6
                      have HI2 := Lib.hid (show Pass h r S0 S2 ag2 ∧ (ag2 = false → ∀ j, j < k → stepOk h S2 j) ∧ S2[k]? = some true ∧ (ag2 = false → (0 < 2 → x.a.kind = 6 → S2[x.a.n.toNat]? = some true) ∧ (1 < 2 → x.b.kind = 6 → S2[x.b.n.toNat]? = some true)) from
                          ⟨HI.out.1, HI.out.2.1, HI.out.2.2.1, fun e => ⟨fun _ => (HI.out.2.2.2 e).1 (by omega), fun _ hh => absurd hh hk6⟩⟩)
                      clear HI hk6
                      go_wp2
                      go_roundw
                      case rel => exact ⟨2, S2, ag2, rfl, by go_num, by omega, HI2, hS2.below (Joins.below_alloc1 _ _), hp_was hL _⟩
                      case measure => simp [intOf]
                  · have HQ2 := Lib.hid (show Pass h r S0 S2 ag2 ∧ (ag2 = false → ∀ j, j < k + 1 → stepOk h S2 j) from ⟨HI.out.1, fun e j hj => by
                      by_cases he : j = k
                      · subst he
                        exact HST.out S2 (fun _ => ⟨(HI.out.2.2.2 e).1 (by omega), (HI.out.2.2.2 e).2 (by omega)⟩)
                      · exact HI.out.2.1 e j (by omega)⟩)
                    clear HI HXa HXb HRa HRb HST
                    go_wp2
                    go_roundw
                    case rel => exact ⟨k + 1, S2, ag2, rfl, by go_num, by omega, HQ2, hS2⟩
                    case measure => simp [intOf]; omega
            · obtain rfl : k = h.length := by omega
              have HM2 := Lib.hid (show Marks h r S ∧ rootsIn r S ∧ (ag = false → ∀ i, i < h.length → stepOk h S i) from ⟨HQ.out.1.mks, HQ.out.1.rt, HQ.out.2⟩)
              have HMM := Lib.hid (show markM w.heap.size h.length (.bool ag) wr < unseen S0 + 1 from by
                cases ag
                · exact Nat.succ_pos _
                · have := HQ.out.1.more rfl
                  simp only [markM]; rw [hS.of hSl]; omega)
              clear HQ
              go_wp2
              go_roundw
              case rel => exact ⟨S, ag, rfl, HM2, hS⟩
              case measure => rw [HM0.out]; exact HMM.out
end Go.Proofs.Ytdhpmblhejcehaa
