/- The program's moving of a value into the new heap: where it stands. -/
import Derived.Test.YtdhpmblhejcehaaDoorCpT
import Derived.Maps.Own
import Derived.Maps.OwnSet
import Derived.Maps.Views
import Derived.Maps.Keyed
import Derived.Deep.RegionHeld3
namespace Go.Proofs.YtdhpmblhejcehaaDoor
set_option linter.unusedVariables false
set_option maxRecDepth 100000
open Go.ChangeShapes Go.WideShapes Go.ChangeAt Go.RowKit Go.Maps Go.WideMaps

theorem cp_wf {x : Int} (h : I64 x) : (Lit.int .i64 x).wf = true := by
  obtain ⟨h1, h2⟩ := h
  simp only [Lit.wf, IntKind.min, IntKind.max, IntKind.signed, IntKind.bits, Bool.and_eq_true, decide_eq_true_eq, if_true]
  omega
theorem cp_key {n : Int} (hn : I64 n) : keyOf Tryd.prog 3 (.int .i64 n) = some (.int .i64 n) := keyOf_int_mk Tryd.underlying3 (cp_wf hn)
theorem cp_zero (w : World) : (zeroValue 3).run Tryd.prog w = .ok (.int .i64 0) w := by kernel_rfl
/-- The cells that a value adds, as the old heap has them. -/
def mvL (h : List Ce) (o : List Nat) (v : Vl) : List Ce := if v.kind = 6 ∧ v.n.toNat ∉ o then (h[v.n.toNat]?).toList else []
theorem mvL_len {h : List Ce} {o : List Nat} {v : Vl} (hv : v.kind = 6 → v.n.toNat < h.length) : (mvO o v).length = o.length + (mvL h o v).length := by
  unfold mvO mvL
  split
  · rename_i hc
    rw [List.getElem?_eq_getElem (hv hc.1)]
    simp
  · simp
/-- The map holds the new places. -/
def PlD (o : List Nat) (D : DataW Unit) : Prop := ∀ x : Nat, x ≤ 4000 → (x ∈ o → has D (.int .i64 (x : Int)) = true ∧ ∀ z, D.atKey (.int .i64 (x : Int)) z = .lit (.int .i64 ((o.idxOf x : Nat) : Int))) ∧ (x ∉ o → has D (.int .i64 (x : Int)) = false ∧ ∀ z, D.atKey (.int .i64 (x : Int)) z = z)
theorem PlD.nil : PlD [] (.map []) := fun x _ => ⟨fun h => by simp at h, fun _ => ⟨rfl, fun _ => rfl⟩⟩
theorem PlD.put {o : List Nat} {D : DataW Unit} (h : PlD o D) (hD : IsMap D) {p : Nat} (hp : p ∉ o) : PlD (o ++ [p]) (D.put (.int .i64 (p : Int)) (.lit (.int .i64 (o.length : Int)))) := by
  intro x hx
  by_cases he : x = p
  · subst he
    refine ⟨fun _ => ⟨has_put_same hD (by simp [WideAt.IsKeyLit]) _, fun z => ?_⟩, fun hn => absurd (by simp) hn⟩
    rw [atKey_put_same hD (by simp [WideAt.IsKeyLit]), idxOf_new hp]
  · have hne : (Lit.int .i64 (x : Int)) ≠ (Lit.int .i64 (p : Int)) := fun e => he (by injection e with _ e; omega)
    refine ⟨fun hm => ?_, fun hn => ?_⟩
    · have hxo : x ∈ o := by simpa [he] using hm
      obtain ⟨h1, h2⟩ := (h x hx).1 hxo
      refine ⟨by rw [has_put_other hne]; exact h1, fun z => ?_⟩
      rw [atKey_put_other hne, h2 z, List.idxOf_append, if_pos hxo]
    · obtain ⟨h1, h2⟩ := (h x hx).2 (fun hm => hn (List.mem_append_left _ hm))
      refine ⟨by rw [has_put_other hne]; exact h1, fun z => ?_⟩
      rw [atKey_put_other hne, h2 z]
/-- Where the program's copying stands: the old heap, the new one, the places. -/
structure CpIs (B t mp : Nat) (hv : Value) (o : List Nat) (L : List Ce) (cv : Value) (D : DataW Unit) (w : World) : Prop where
  box : w.heap[t]? = some (.cells #[hv, cv, .map (some mp)] 49 (0, 0))
  own : w.ownsRow B 53 9 cv L.length (cc L)
  map : w.ownsMap Tryd.prog 3 (plainElem Tryd.prog 3) mp o.length D
  pl : PlD o D
  ln : L.length = o.length
  lot : B ≤ t
  lom : B ≤ mp
theorem own_nomap {w : World} {B e n m g b : Nat} {k : TypeId} {P : Program} {R : Value → Option (DataW Unit × List MemPlace)} {D : DataW Unit} {v : Value} {xs : List Value} (h : w.ownsRow B e m v n xs) (h2 : w.ownsMap P k R g b D) : v.ownBlock ≠ some g := by
  obtain ⟨es, clock, hg, -⟩ := h2
  obtain ⟨_, ⟨rfl, _⟩ | ⟨g', cap, cur, rfl, _, h3, _⟩⟩ := h
  · simp [Value.ownBlock]
  · intro e
    cases e
    rw [h3] at hg
    cases hg
theorem map_ne {w : World} {g b t : Nat} {k : TypeId} {P : Program} {R : Value → Option (DataW Unit × List MemPlace)} {D : DataW Unit} {cs : Array Value} {T : TypeId} {f : Nat × Nat} (h2 : w.ownsMap P k R g b D) (h : w.heap[t]? = some (.cells cs T f)) : t ≠ g := by
  obtain ⟨es, clock, hg, -⟩ := h2
  intro e
  subst e
  rw [h] at hg
  cases hg
theorem map_blk {w w' : World} {g b : Nat} {k : TypeId} {P : Program} {R : Value → Option (DataW Unit × List MemPlace)} {D : DataW Unit} (h : w.ownsMap P k R g b D) (hb : w'.heap[g]? = w.heap[g]?) : w'.ownsMap P k R g b D := by
  obtain ⟨es, clock, hg, h1⟩ := h
  exact ⟨es, clock, hb.trans hg, h1⟩
theorem CpIs.blk {B t mp : Nat} {hv : Value} {o : List Nat} {L : List Ce} {cv : Value} {D : DataW Unit} {w w' : World} (h : CpIs B t mp hv o L cv D w) (ht : w'.heap[t]? = w.heap[t]?) (hm : w'.heap[mp]? = w.heap[mp]?) (hc : ∀ b, cv.ownBlock = some b → w'.heap[b]? = w.heap[b]?) : CpIs B t mp hv o L cv D w' :=
  ⟨ht.trans h.box, own_blkN h.own hc, map_blk h.map hm, h.pl, h.ln, h.lot, h.lom⟩
theorem CpIs.below {B t mp : Nat} {hv : Value} {o : List Nat} {L : List Ce} {cv : Value} {D : DataW Unit} {w w' : World} (h : CpIs B t mp hv o L cv D w) (hb : Below w.heap.size w w') : CpIs B t mp hv o L cv D w' :=
  h.blk (hb.block t (hp_lt h.box)) (hb.block mp h.map.lt) (fun b e => hb.block b (h.own.lt b e).2)
/-- 'v, ok := m[k]', as an equation. -/
theorem CpIs.look {B t mp : Nat} {hv : Value} {o : List Nat} {L : List Ce} {cv : Value} {D : DataW Unit} {w : World} (h : CpIs B t mp hv o L cv D w) {x : Nat} (hx : x ≤ 4000) :
    ∃ c : Int, (Instr.lookup 47 (.map (some mp)) (.int .i64 (x : Int)) true).run Tryd.prog w = .ok (.tuple #[.int .i64 c, .bool (decide (x ∈ o))]) w ∧ (x ∈ o → c = ((o.idxOf x : Nat) : Int)) ∧ (x ∉ o → c = 0) := by
  have hI : I64 (x : Int) := by unfold I64; omega
  obtain ⟨v, ps, hrun, hv⟩ := h.map.look_ok (t := 47) (int_keyed Tryd.underlying3) Tryd.underlying47 (cp_zero w) (plainElem_int Tryd.underlying3 (cp_wf (x := 0) (by unfold I64; omega))) (cp_key hI)
  obtain ⟨c, rfl, hc, hwc⟩ := plainElem_int_inv Tryd.underlying3 hv
  simp only [Prod.mk.injEq] at hc
  refine ⟨c, ?_, fun hm => ?_, fun hm => ?_⟩
  · have : has D (.int .i64 (x : Int)) = decide (x ∈ o) := by
      by_cases hm : x ∈ o
      · rw [((h.pl x hx).1 hm).1]; simp [hm]
      · rw [((h.pl x hx).2 hm).1]; simp [hm]
    rw [← this]; exact hrun
  · have := ((h.pl x hx).1 hm).2 (.lit (.int .i64 0))
    rw [hc.1] at this
    injection this with this
    injection this
  · have := ((h.pl x hx).2 hm).2 (.lit (.int .i64 0))
    rw [hc.1] at this
    injection this with this
    injection this
/-- What moving a value leaves, in the program. -/
def CpdPost (B t mp : Nat) (h : List Ce) (hv : Value) (o : List Nat) (L : List Ce) (cv : Value) (v : Vl) (w : World) (e : Ending) (w' : World) : Prop :=
  ∃ cv' D', e = .returned (.agg #[.int .i64 (mvV o v).kind, .int .i64 (mvV o v).n, .string (mvV o v).s]) ∧ CpIs B t mp hv (mvO o v) (L ++ mvL h o v) cv' D' w' ∧ KeptTo t mp cv w w' ∧ (cv'.ownBlock = cv.ownBlock ∨ ∃ k, w.heap.size ≤ k ∧ cv'.ownBlock = some k) ∧ Below B w w'
set_option maxHeartbeats 2000000 in
theorem iCopiedOld (B t mp : Nat) (h : List Ce) (hv : Value) (o : List Nat) (L : List Ce) (cv : Value) (D : DataW Unit) (v : Vl) (w : World) (hC : CpIs B t mp hv o L cv D w) (hB : B ≤ w.heap.size) (hv6 : v.kind = 6 → 0 ≤ v.n ∧ v.n < h.length) (hl4 : h.length ≤ 4000) (hold : v.kind = 6 → v.n.toNat ∈ o) (hO : OrdOk h.length o) :
    Calls Tryd.prog 21 #[.pointer (some ⟨t, 0, none⟩), .agg #[.int .i64 v.kind, .int .i64 v.n, .string v.s]] w (CpdPost B t mp h hv o L cv v w) := by
  obtain ⟨k, vn, s⟩ := v
  simp only at hv6 hold
  by_cases hk : k = 6
  · subst hk
    obtain ⟨n0, n1⟩ := hv6 rfl
    obtain ⟨x, rfl⟩ : ∃ x : Nat, vn = (x : Int) := ⟨vn.toNat, by omega⟩
    have hxo : x ∈ o := by simpa using hold rfl
    have HO := Lib.hid (show mvO o ⟨6, (x : Int), s⟩ = o from by simp [mvO, hxo])
    have HL := Lib.hid (show mvL h o ⟨6, (x : Int), s⟩ = [] from by simp [mvL, hxo])
    have HV := Lib.hid (show mvV o ⟨6, (x : Int), s⟩ = ⟨6, ((o.idxOf x : Nat) : Int), ⟨#[]⟩⟩ from by simp only [mvV, HO.out]; simp)
    have hol := nodup_le _ _ hO
    have hql : o.idxOf x < o.length := List.idxOf_lt_length_iff.2 hxo
    have hx4 : x ≤ 4000 := by omega
    have hlk : ∀ W, Below w.heap.size w W → (Instr.lookup 47 (.map (some mp)) (.int .i64 (x : Int)) true).run Tryd.prog W = .ok (.tuple #[.int .i64 ((o.idxOf x : Nat) : Int), .bool true]) W := fun W hW => by
      obtain ⟨c, hrun, hc, -⟩ := (hC.below hW).look hx4
      rw [hc hxo] at hrun
      rw [hrun]; simp [hxo]
    generalize o.idxOf x = q at *
    have b2 := hp_cell hC.box 2
    simp at b2
    have htl := hp_lt hC.box
    have HCb := fun (W : World) (hb : Below w.heap.size w W) => hC.below hb
    have KS : ∀ (O1 O2 : Obj) W, Below ((w.alloc O1).alloc O2).heap.size ((w.alloc O1).alloc O2) W → W.cell? ⟨t, 2, none⟩ = some (.map (some mp)) ∧ (Instr.lookup 47 (.map (some mp)) (.int .i64 (x : Int)) true).run Tryd.prog W = .ok (.tuple #[.int .i64 (q : Int), .bool true]) W := fun O1 O2 W h =>
      have hh := below_tr (Joins.below_alloc2 w O1 O2) h
      ⟨(hh.cell (p := ⟨t, 2, none⟩) htl).trans b2, hlk W hh⟩
    have l3 : t < w.heap.size + 1 + 1 := by omega
    clear hv6 hold hO hC hxo hlk hol
    go_enter Tryd.func21, Tryd.ntmps21
    go_wp2_with fail
    go_region_held3 (fun W => (W.cell? ⟨t, 2, none⟩ = some (.map (some mp)) ∧ (Instr.lookup 47 (.map (some mp)) (.int .i64 (x : Int)) true).run Tryd.prog W = .ok (.tuple #[.int .i64 (q : Int), .bool true]) W) ∧ W.cell? ⟨w.heap.size, 1, none⟩ = some (.int .i64 (x : Int)))
      (first | exact ⟨KS _ _ _ (Below.refl _ _), by simp⟩ | exact ⟨KS _ _ _ (Below.refl _ _).drew, by simp⟩)
      (fail)
    all_goals
      go_wp2
      exact bodyPost_ret (v := .agg #[.int .i64 6, .int .i64 q, .string ⟨#[]⟩]) (by simp [results, Tryd.results21, go_sem]) rfl ⟨cv, D, by rw [HV.out], by rw [HO.out, HL.out, List.append_nil]; exact HCb _ (Joins.below_alloc2 w _ _).drew, KeptTo.of_below (Joins.below_alloc2 w _ _).drew, .inl rfl, ((Joins.below_alloc2 w _ _).drew).mono hB⟩
  · have hkb : (k != 6) = true := by simpa using hk
    have HO := Lib.hid (show mvO o ⟨k, vn, s⟩ = o from by simp [mvO, hk])
    have HL := Lib.hid (show mvL h o ⟨k, vn, s⟩ = [] from by simp [mvL, hk])
    have HV := Lib.hid (show mvV o ⟨k, vn, s⟩ = ⟨k, vn, s⟩ from by simp [mvV, hk])
    have HCb := fun (W : World) (hb : Below w.heap.size w W) => hC.below hb
    clear hv6 hk hC hO hold
    go_enter Tryd.func21, Tryd.ntmps21
    go_wp2
    exact bodyPost_ret (v := .agg #[.int .i64 k, .int .i64 vn, .string s]) (by simp [results, Tryd.results21, go_sem]) rfl ⟨cv, D, by rw [HV.out], by rw [HO.out, HL.out, List.append_nil]; exact HCb _ (Joins.below_alloc2 w _ _), KeptTo.of_below (Joins.below_alloc2 w _ _), .inl rfl, (Joins.below_alloc2 w _ _).mono hB⟩
end Go.Proofs.YtdhpmblhejcehaaDoor
