/- Texts of this proof, merged: OkY1, FnPN, PrePN, OkY2, Take, OkY3, OkY4. -/
import Derived.Test.YtbehcmogndpkhaaGreatDoorM12
import Derived.Maps.Own
import Derived.Maps.OwnSet
import Derived.Maps.Views
import Derived.Maps.Keyed
import Derived.Deep.QuietTactic
import Derived.BigQuiet
import Derived.Deep.RegionHeld3
import Derived.Deep.RegionWith
import Derived.Outline
import Derived.WalkKit
import Derived.Deep.RegionHeld
import Derived.KernelRfl
namespace Go.Proofs.YtbehcmogndpkhaaGreatDoor
set_option linter.unusedVariables false
set_option maxRecDepth 100000
open Go.ChangeShapes Go.WideShapes Go.ChangeAt Go.RowKit Go.Maps Go.WideMaps

theorem any_yes {α : Type} (ok : α → Bool) (l : List α) (k : Nat) (h : k < l.length) (hx : ok l[k] = true) : l.any ok = true := List.any_eq_true.2 ⟨_, List.getElem_mem h, hx⟩
theorem any_snoc {α : Type} (ok : α → Bool) (l : List α) (k : Nat) (h : k < l.length) (ha : (l.take k).any ok = false) (hx : ok l[k] = false) : (l.take (k + 1)).any ok = false := by
  rw [List.take_succ_eq_append_getElem h, List.any_append, ha]
  simp [hx]
theorem all_any {α : Type} (ok : α → Bool) (l : List α) : l.all ok = !(l.any fun x => !ok x) := by
  induction l with
  | nil => rfl
  | cons x l ih => simp only [List.all_cons, List.any_cons, ih]; cases ok x <;> simp
theorem vPre_end (l : List (List Int)) (a : Nat) (h : a < l.length) (n : Int) : (vPre l () a l[a].length n).1 = true := by
  simp [vPre, List.getElem?_eq_getElem h]
theorem vPre_at (l : List (List Int)) (a d : Nat) (h : a < l.length) (hd : d < l[a].length) (n : Int) : (vPre l () a d n).1 = decide (l[a][d] = n) := by
  have h1 : ¬ d = l[a].length := by omega
  simp [vPre, List.getElem?_eq_getElem h, List.getElem?_eq_getElem hd, h1]
/-- A name that one of the nodes binds. -/
def seenB (l : List PN) (s : ByteArray) : Bool := l.any fun x => decide (x.kind = 2) && decide (x.s = s)
theorem seen_snoc (q : List PN) (k : Nat) (h : k < q.length) (s : ByteArray) : seenB (q.take (k + 1)) s = (seenB (q.take k) s || (decide (q[k].kind = 2) && decide (q[k].s = s))) := by
  unfold seenB
  rw [List.take_succ_eq_append_getElem h, List.any_append]
  simp
theorem twice_yes (q : List PN) (k : Nat) (h : k < q.length) (hk : q[k].kind = 2) (hs : seenB (q.take k) q[k].s = true) : TwiceP q := by
  unfold seenB at hs
  obtain ⟨x, hx, h2⟩ := List.any_eq_true.1 hs
  obtain ⟨i, hi, rfl⟩ := List.getElem_of_mem hx
  simp only [List.length_take] at hi
  simp only [List.getElem_take, Bool.and_eq_true, decide_eq_true_eq] at h2
  exact ⟨k, i, h, by omega, hk, h2.1, h2.2⟩
def onceP (q : List PN) (k : Nat) : Prop := ∀ i j, ∀ (hi : i < q.length) (hj : j < i), i < k → ¬ clash q[i] q[j]
theorem once_step (q : List PN) (k : Nat) (h : k < q.length) (ho : onceP q k) (hx : ¬ (q[k].kind = 2 ∧ seenB (q.take k) q[k].s = true)) : onceP q (k + 1) := by
  intro i j hi hj hik hc
  by_cases h1 : i < k
  · exact ho i j hi hj h1 hc
  · obtain rfl : i = k := by omega
    apply hx
    refine ⟨hc.1, List.any_eq_true.2 ⟨q[j], ?_, ?_⟩⟩
    · rw [List.mem_iff_getElem]
      exact ⟨j, by simp; omega, by simp⟩
    · simp [hc.2.1, hc.2.2]
theorem once_end (q : List PN) (ho : onceP q q.length) : ¬ TwiceP q := by
  rintro ⟨i, k, hi, hk, hc⟩
  exact ho i k hi hk hi hc
/-! ### A set of names, as a map -/
theorem plain_bool_inv {H : Type} {P : Program} {e : TypeId} (he : P.underlying e = some .bool) {v : Value} {z : DataW H × List MemPlace} (h : plainElem P e v = some z) : ∃ a, v = .bool a ∧ z = (.lit (.bool a), []) := by
  unfold plainElem at h
  rw [he] at h
  cases v <;> simp at h
  exact ⟨_, rfl, h.symm⟩
theorem look_bool {H : Type} {P : Program} {k t e : TypeId} {w : World} {b n : Nat} {D : DataW H} (h : w.ownsMap P k (plainElem P e) b n D) (K : Keyed P k) (ht : P.underlying t = some (.map k e)) (he : P.underlying e = some .bool) (hz : (zeroValue e).run P w = .ok (.bool false) w)
    {key : Value} {kl : Lit} (hkey : keyOf P k key = some kl) : ∃ c, (Instr.lookup t (.map (some b)) key false).run P w = .ok (.bool c) w ∧ D.atKey kl (.lit (.bool false)) = .lit (.bool c) := by
  obtain ⟨v, ps, hrun, hv⟩ := h.lookup K ht hz (plainElem_bool he false) hkey
  obtain ⟨c, rfl, hc⟩ := plain_bool_inv he hv
  simp only [Prod.mk.injEq] at hc
  exact ⟨c, hrun, hc.1⟩
/-- The map's datum holds the names that the first k nodes bind. -/
def namesD (q : List PN) (k : Nat) (D : DataW Unit) : Prop := ∀ s : ByteArray, D.atKey (.string s.data.toList) (.lit (.bool false)) = .lit (.bool (seenB (q.take k) s))
theorem names_zero (q : List PN) : namesD q 0 (.map []) := fun s => rfl
theorem names_skip {q : List PN} {k : Nat} {D : DataW Unit} (h : namesD q k D) (hk : k < q.length) (h2 : ¬ q[k].kind = 2) : namesD q (k + 1) D := by
  intro s
  rw [h s, seen_snoc q k hk]
  simp [h2]
theorem names_put {q : List PN} {k : Nat} {D : DataW Unit} (h : namesD q k D) (hD : IsMap D) (hk : k < q.length) (h2 : q[k].kind = 2) : namesD q (k + 1) (D.put (.string q[k].s.data.toList) (.lit (.bool true))) := by
  intro s
  rw [seen_snoc q k hk, h2]
  by_cases hs : q[k].s = s
  · rw [← hs, atKey_put_same hD (by simp [WideAt.IsKeyLit])]
    simp
  · rw [atKey_put_other, h s]
    · simp [hs]
    · intro e
      apply hs
      simp only [Lit.string.injEq] at e
      cases hq : q[k].s
      cases s
      rw [hq] at e
      simp at e
      rw [e]
theorem zero_bool (w : World) : (zeroValue 4).run Tryz.prog w = .ok (.bool false) w := by kernel_rfl
theorem key_str {s : ByteArray} (hs : s.size ≤ maxLen) : keyOf Tryz.prog 9 (.string s) = some (.string s.data.toList) := keyOf_string_mk Tryz.underlying9 hs
end Go.Proofs.YtbehcmogndpkhaaGreatDoor
namespace Go.Proofs.YtbehcmogndpkhaaGreatDoor
set_option linter.unusedVariables false
set_option maxRecDepth 100000
open Go.ChangeShapes Go.WideShapes Go.ChangeAt Go.RowKit

/-- A PNode that is handed over. -/
def PNVal (w : World) (v : Value) (x : PN) : Prop := ∃ v3, v = .agg #[.int .i64 x.kind, .int .i64 x.n, .string x.s, v3] ∧ I64 x.kind ∧ I64 x.n ∧ x.s.size ≤ maxLen ∧ RowRd 1 IntEl w v3 x.kids
theorem PNVal.kept {w w' : World} {v : Value} {x : PN} (k : Kept w w') : PNVal w v x → PNVal w' v x := fun ⟨v3, h, f0, f1, f2, f3⟩ => ⟨v3, h, f0, f1, f2, f3.kept IntEl.st k⟩
theorem iIndexPN (g : Nat) (lb : Array Value) (eg : ∀ args w, (callFunc g args).run Tryz.prog w = .ok (.enter g args) w) (ok : PN → Bool) (l : List PN) (v : Value) (w : World) (hR : RowRd 4 PNEl w v l)
    (hp : ∀ i (hi : i < l.length) (u : Value) (W : World), Below w.heap.size w W → PNVal W u l[i] → Calls Tryz.prog g (#[u] ++ lb) W fun e w' => e = .returned (.bool (ok l[i])) ∧ Below W.heap.size W w') :
    Calls Tryz.prog 264 #[v, .func (.func g) #[] lb] w fun e w' => ∃ r : Int, e = .returned (.int .i64 r) ∧ decide (0 ≤ r) = l.any ok ∧ Below w.heap.size w w' := by
  obtain ⟨p, cap, rfl, hm, hR⟩ := hR.form
  unfold maxLen at hm
  go_enter Tryz.func264, Tryz.ntmps264
  go_wp2
  go_loopw [8] (fun i wr => ∃ k : Nat, i = .int .i64 k ∧ k ≤ l.length ∧ (l.take k).any ok = false ∧ Below w.heap.size w wr) (fun i _ => l.length - (intOf i).toNat)
  case atStart => exact ⟨0, rfl, Nat.zero_le _, rfl, Below.refl _ _⟩
  case round =>
    obtain ⟨k, rfl, hk, hno, hbel⟩ := hrel
    have HA := Lib.hid hno
    clear hno
    by_cases hlt : k < l.length
    · obtain ⟨b, o, rfl, hbw, hc⟩ := hR (by omega)
      have ex := PNEl.st w wr b _ _ (Kept.of_below hbel) hbw (hc k hlt)
      have hpk := fun u => hp k hlt u wr hbel
      have HY := Lib.hid (fun (h : ok l[k] = true) => any_yes ok l k hlt h)
      have HN := Lib.hid (fun (h : ok l[k] = false) => any_snoc ok l k hlt HA.out h)
      clear hc hR hp
      generalize l[k] = x at *
      obtain ⟨⟨e0, i0⟩, ⟨e1, i1⟩, ⟨e2, i2⟩, ⟨v3, e3, r3⟩⟩ := ex
      have hp1 := hpk _ ⟨v3, rfl, i0, i1, i2, r3⟩
      clear hpk
      generalize hx : ok x = t at *
      cases t
      · have HN2 := Lib.hid (HN.out rfl)
        clear HN HY
        go_wp2_with (go_at_fn g; refine hp1.mono ?_; rintro e w1 ⟨rfl, hb⟩)
        go_roundw
        case rel => exact ⟨k + 1, by go_num, by omega, HN2.out, below_tr hbel hb⟩
        case measure => simp [intOf]; omega
      · have HY2 := Lib.hid (HY.out rfl)
        clear HN HY
        go_wp2_with (go_at_fn g; refine hp1.mono ?_; rintro e w1 ⟨rfl, hb⟩)
        go_ret
        exact ⟨_, rfl, by rw [HY2.out]; simp, below_tr hbel hb⟩
    · obtain rfl : k = l.length := by omega
      rw [List.take_length] at HA
      go_wp2
      go_ret
      exact ⟨_, rfl, by rw [HA.out]; rfl, hbel⟩
theorem iContainsPN (g : Nat) (lb : Array Value) (eg : ∀ args w, (callFunc g args).run Tryz.prog w = .ok (.enter g args) w) (ok : PN → Bool) (l : List PN) (v : Value) (w : World) (hR : RowRd 4 PNEl w v l)
    (hp : ∀ i (hi : i < l.length) (u : Value) (W : World), Below w.heap.size w W → PNVal W u l[i] → Calls Tryz.prog g (#[u] ++ lb) W fun e w' => e = .returned (.bool (ok l[i])) ∧ Below W.heap.size W w') :
    Calls Tryz.prog 245 #[v, .func (.func g) #[] lb] w fun e w' => e = .returned (.bool (l.any ok)) ∧ Below w.heap.size w w' := by
  have hI := iIndexPN g lb eg ok l v w hR hp
  go_enter Tryz.func245, Tryz.ntmps245
  go_wp2_with (go_at_call 264; refine hI.mono ?_; rintro e w1 ⟨r, rfl, hr, hb⟩)
  go_ret
  refine ⟨ret_bool ?_, hb⟩
  rw [← hr]
theorem iNotPN (g : Nat) (lb : Array Value) (eg : ∀ args w, (callFunc g args).run Tryz.prog w = .ok (.enter g args) w) (r : Bool) (x : PN) (u : Value) (bo : Nat) (w : World) (hc : w.cell? ⟨bo, 0, none⟩ = some (.func (.func g) #[] lb)) (hbo : bo < w.heap.size) (hu : PNVal w u x)
    (hp : ∀ W, Below w.heap.size w W → Calls Tryz.prog g (#[u] ++ lb) W fun e w' => e = .returned (.bool r) ∧ Below W.heap.size W w') :
    Calls Tryz.prog 246 #[u, .pointer (some ⟨bo, 0, none⟩)] w fun e w' => e = .returned (.bool (!r)) ∧ Below w.heap.size w w' := by
  obtain ⟨v3, rfl, _, _, _, _⟩ := hu
  have hp1 := hp _ (Joins.below_alloc1 w (.cells #[.int .i64 x.kind, .int .i64 x.n, .string x.s, v3] 180))
  have hne : w.heap.size ≠ bo := by omega
  go_enter Tryz.func246, Tryz.ntmps246
  go_wp2_with (go_at_fn g; refine hp1.mono ?_; rintro e w1 ⟨rfl, hb⟩)
  go_ret
  exact ⟨rfl, below_tr (Joins.below_alloc1 w _) hb⟩
theorem e_iNotPN : ∀ args w, (callFunc 246 args).run Tryz.prog w = .ok (.enter 246 args) w := enters_of Tryz.func246 (by kernel_rfl) rfl
theorem iEveryPN (g : Nat) (lb : Array Value) (eg : ∀ args w, (callFunc g args).run Tryz.prog w = .ok (.enter g args) w) (ok : PN → Bool) (l : List PN) (v : Value) (w : World) (hR : RowRd 4 PNEl w v l)
    (hp : ∀ i (hi : i < l.length) (u : Value) (W : World), Below w.heap.size w W → PNVal W u l[i] → Calls Tryz.prog g (#[u] ++ lb) W fun e w' => e = .returned (.bool (ok l[i])) ∧ Below W.heap.size W w') :
    Calls Tryz.prog 218 #[v, .func (.func g) #[] lb] w fun e w' => e = .returned (.bool (l.all ok)) ∧ Below w.heap.size w w' := by
  have hC := fun (T : TypeId) => iContainsPN 246 #[.pointer (some ⟨w.heap.size, 0, none⟩)] e_iNotPN (fun x => !ok x) l v (w.alloc (.cells #[.func (.func g) #[] lb] T)) (hR.kept PNEl.st (Kept.alloc _ _))
    (fun i hi u W hW hu => iNotPN g lb eg (ok l[i]) l[i] u w.heap.size W ((hW.cell (p := ⟨w.heap.size, 0, none⟩) (by simp)).trans (by simp)) (Nat.lt_of_lt_of_le (by simp) hW.size) hu
      fun W' hB => hp i hi u W' (below_tr (Joins.below_alloc1 w _) (below_tr hW hB)) (hu.kept (Kept.of_below hB)))
  go_enter Tryz.func218, Tryz.ntmps218
  go_wp2_with (go_at_call 245; refine (hC _).mono ?_; rintro e w1 ⟨rfl, hb⟩)
  go_ret
  exact ⟨ret_bool (by rw [all_any]), below_tr (Joins.below_alloc1 w _) hb⟩
theorem iMapPN (g : Nat) (lb : Array Value) (eg : ∀ args w, (callFunc g args).run Tryz.prog w = .ok (.enter g args) w) (f : PN → Int) (l : List PN) (v : Value) (w : World) (hR : RowRd 4 PNEl w v l) (hl : l.length ≤ 1048576) (hI : ∀ x ∈ l, I64 (f x))
    (hp : ∀ i (hi : i < l.length) (u : Value) (W : World), Below w.heap.size w W → PNVal W u l[i] → Calls Tryz.prog g (#[u] ++ lb) W fun e w' => e = .returned (.int .i64 (f l[i])) ∧ Below W.heap.size W w') :
    Calls Tryz.prog 242 #[v, .func (.func g) #[] lb] w fun e w' => ∃ v', e = .returned v' ∧ RowRd 1 IntEl w' v' (l.map f) ∧ Below w.heap.size w w' := by
  obtain ⟨p, cap, rfl, hm, hR⟩ := hR.form
  unfold maxLen at hm
  obtain ⟨ii, hi, hz0, hz1, hz2⟩ := info_parts info_int
  obtain ⟨w0, hmk, hown0, hgr0⟩ := run_make_own (P := Tryz.prog) w w.heap.size 35 3 ii (.int .i64 0) 1 Tryz.underlying35 hi hz0 hz1 .i64 .i64 l.length (by rw [hz2]; omega) (by unfold maxLen; omega) (Nat.le_refl _)
  have hb0 : Below w.heap.size w w0 := (Below.refl _ _).grown hgr0 (Nat.le_refl _) (fun k hk => by simp at hk)
  have hI' : ∀ x ∈ l.map f, I64 x := by
    intro x hx
    obtain ⟨y, hy, rfl⟩ := List.mem_map.1 hx
    exact hI y hy
  go_enter Tryz.func242, Tryz.ntmps242
  go_wp2
  go_loopw [5, 13] (fun nx i wr => ∃ k : Nat, i = .int .i64 k ∧ k ≤ l.length ∧ wr.ownsRow w.heap.size 3 1 nx ((l.take k).map f).length (ic ((l.take k).map f)) ∧ Below w.heap.size w wr ∧ w.heap.size ≤ wr.heap.size) (fun _ i _ => l.length - (intOf i).toNat)
  case atStart => exact ⟨0, rfl, Nat.zero_le _, hown0, hb0, hb0.size⟩
  case round =>
    obtain ⟨k, rfl, hk, hown, hbel, hsz⟩ := hrel
    have hlen : ((l.take k).map f).length = k := by simp; omega
    by_cases hlt : k < l.length
    · obtain ⟨b, o, rfl, hbw, hc⟩ := hR (by omega)
      have ex := PNEl.st w wr b _ _ (Kept.of_below hbel) hbw (hc k hlt)
      have HT := Lib.hid (take_map_succ f l k hlt)
      have hpk := hp k hlt
      clear hc hR hmk hown0 hgr0 hb0 hp hI hI'
      generalize l[k] = x at *
      obtain ⟨⟨e0, i0⟩, ⟨e1, i1⟩, ⟨e2, i2⟩, ⟨v3, e3, r3⟩⟩ := ex
      obtain ⟨p3, c3, rfl, m3, -⟩ := r3.form
      have hag := hpk _ (wr.alloc (.cells #[.int .i64 x.kind, .int .i64 x.n, .string x.s, .slice p3 x.kids.length c3] 180)) (below_tr hbel (Joins.below_alloc1 wr _)) (PNVal.kept (Kept.alloc wr _) ⟨_, rfl, i0, i1, i2, r3⟩)
      clear hpk
      generalize f x = fx at *
      go_wp2_with (first
        | (go_at_fn g; refine hag.mono ?_; rintro e w1 ⟨rfl, hb⟩; have hb1 := below_tr (Joins.below_alloc1 wr _) hb; have hown1 := own_below hown hb1; have hbel1 := below_tr hbel hb1; have hsz1 := Nat.le_trans hsz hb1.size)
        | (at_builtin; refine wpList_append_own _ rfl (.tmp 17) (.tmp 21) 35 rfl w.heap.size 3 ii (.int .i64 0) 1 8 Tryz.underlying35 hi hz0 hz1 hz2 rfl (by decide) _ ((l.take k).map f).length (ic ((l.take k).map f)) rfl (hown1.alloc _) ⟨w1.heap.size, 0, none⟩ 1 1 [.int .i64 fx] rfl rfl (new_cells _ _ _ _ rfl) (ic_one [fx]) (by unfold maxLen; omega) (by omega) (by simp; omega) ?_; intro v' w2 hown' hgrow _))
      have R := own_app hown1 hbel1 (Nat.le_refl _) hsz1 hgrow
      have O := own_i rfl rfl (l' := [fx]) rfl rfl hown'
      clear hown hown1 hown' hgrow hbel hbel1
      go_roundw
      case rel => exact ⟨k + 1, by go_num, by omega, by rw [HT.out]; exact O, R.1, R.2⟩
      case measure => simp [intOf]; omega
    · obtain rfl : k = l.length := by omega
      rw [List.take_length] at hown
      clear hR hmk hown0 hgr0 hb0 hp
      go_wp2
      go_ret
      exact ⟨_, rfl, own_rd hown (by simp; unfold maxLen; omega) hI', hbel⟩
end Go.Proofs.YtbehcmogndpkhaaGreatDoor
namespace Go.Proofs.YtbehcmogndpkhaaGreatDoor
set_option linter.unusedVariables false
set_option maxRecDepth 100000
open Go.ChangeShapes Go.WideShapes Go.ChangeAt Go.RowKit


theorem iKidsPN (x : PN) (v3 : Value) (w : World) : Calls Tryz.prog 217 #[.agg #[.int .i64 x.kind, .int .i64 x.n, .string x.s, v3]] w fun e w' => e = .returned v3 ∧ Below w.heap.size w w' := by
  go_enter Tryz.func217, Tryz.ntmps217
  go_wp2
  go_ret
  exact ⟨rfl, Joins.below_alloc1 w _⟩
theorem iLenPN (bk : Nat) (x : PN) (u : Value) (w : World) (hc : w.cell? ⟨bk, 0, none⟩ = some (.func (.func 217) #[] #[])) (hbk : bk < w.heap.size) (hu : PNVal w u x) :
    Calls Tryz.prog 243 #[u, .pointer (some ⟨bk, 0, none⟩)] w fun e w' => e = .returned (.int .i64 (x.kids.length : Int)) ∧ Below w.heap.size w w' := by
  obtain ⟨v3, rfl, _, _, _, r⟩ := hu
  have hK := fun W => iKidsPN x v3 W
  obtain ⟨p, c, rfl, m, -⟩ := r.form
  have hne : w.heap.size ≠ bk := by omega
  go_enter Tryz.func243, Tryz.ntmps243
  go_wp2_with (go_at_call 217; refine (hK _).mono ?_; rintro e w1 ⟨rfl, hb⟩)
  go_ret
  exact ⟨rfl, below_tr (Joins.below_alloc1 w _) hb⟩
theorem e_iLenPN : ∀ args w, (callFunc 243 args).run Tryz.prog w = .ok (.enter 243 args) w := enters_of Tryz.func243 (by kernel_rfl) rfl
set_option maxHeartbeats 4000000 in
theorem iNextPN (q : List PN) (vc vn : Value) (bc bk bn a d : Nat) (n : Int) (w : World) (hcc : w.cell? ⟨bc, 0, none⟩ = some vc) (hck : w.cell? ⟨bk, 0, none⟩ = some (.func (.func 217) #[] #[])) (hcn : w.cell? ⟨bn, 0, none⟩ = some vn)
    (hbc : bc < w.heap.size) (hbk : bk < w.heap.size) (hbn : bn < w.heap.size) (hC : RowRd 1 IntEl w vc (lens (q.map PN.kids))) (hR : RowRd 4 PNEl w vn q) (ha : a < q.length) (hd : d ≤ q[a].kids.length) :
    Calls Tryz.prog 244 #[.int .i64 a, .int .i64 d, .int .i64 n, .pointer (some ⟨bc, 0, none⟩), .pointer (some ⟨bk, 0, none⟩), .pointer (some ⟨bn, 0, none⟩)] w fun e w' => e = .returned (.bool (vPre (q.map PN.kids) () a d n).1) ∧ Below w.heap.size w w' := by
  have hle : (lens (q.map PN.kids)).length = q.length := by simp [lens]
  obtain ⟨p, cap, rfl, hm, hCf⟩ := hC.form
  obtain ⟨b, o, rfl, hb, hcs⟩ := hCf (by omega)
  have hca := (hcs a (by omega)).1
  have hla : (lens (q.map PN.kids))[a]'(by omega) = (q[a].kids.length : Int) := by simp [lens]
  rw [hla, Nat.mul_one] at hca
  rw [hle] at hcc
  clear hla hcs hCf hC
  unfold maxLen at hm
  rw [hle] at hm
  obtain ⟨p2, cap2, rfl, hm2, hRf⟩ := hR.form
  unfold maxLen at hm2
  obtain ⟨b2, o2, rfl, hb2, hn⟩ := hRf (by omega)
  have ex := hn a ha
  clear hn hRf hR
  by_cases h0 : d = q[a].kids.length
  · have HB := Lib.hid (show (vPre (q.map PN.kids) () a d n).1 = true from by
      subst h0
      have := vPre_end (q.map PN.kids) a (by simpa using ha) n
      simpa using this)
    clear ex
    generalize q[a] = x at *
    subst h0
    generalize x.kids.length = d at *
    go_enter Tryz.func244, Tryz.ntmps244
    go_wp2_with fail
    go_quiet (fail)
    go_wp2
    go_ret
    exact ⟨ret_bool HB.out.symm, below_drewN (Below.refl _ _) _⟩
  · have hd' : d < q[a].kids.length := by omega
    have HB := Lib.hid (show (vPre (q.map PN.kids) () a d n).1 = decide (q[a].kids[d] = n) from by
      have := vPre_at (q.map PN.kids) a d (by simpa using ha) (by simpa using hd') n
      simpa using this)
    have hdl : ((d : Int) == (q[a].kids.length : Int)) = false := by simp; omega
    clear hd h0
    generalize q[a] = x at *
    obtain ⟨⟨e0, i0⟩, ⟨e1, i1⟩, ⟨e2, i2⟩, ⟨v3, e3, r3⟩⟩ := ex
    obtain ⟨p3, c3, rfl, hm3, hkf⟩ := r3.form
    unfold maxLen at hm3
    obtain ⟨b3, o3, rfl, hb3, hks⟩ := hkf (by omega)
    obtain ⟨hkd, hi1, hi2⟩ := hks d hd'
    rw [Nat.mul_one] at hkd
    clear hks hkf
    have HD := Lib.hid HB.out
    clear HB
    generalize x.kids[d] = y at *
    have hKD := fun (v3 : Value) (W : World) => iKidsPN x v3 W
    have hI : ∀ W, Kept w W → (W.cell? ⟨bc, 0, none⟩ = some (.slice (some ⟨b, o, none⟩) q.length cap) ∧ W.cell? ⟨b, o + a, none⟩ = some (.int .i64 x.kids.length) ∧ W.cell? ⟨bk, 0, none⟩ = some (.func (.func 217) #[] #[]) ∧ W.cell? ⟨bn, 0, none⟩ = some (.slice (some ⟨b2, o2, none⟩) q.length cap2) ∧ W.cell? ⟨b3, o3 + d, none⟩ = some (.int .i64 y) ∧ W.cell? ⟨b2, o2 + a * 4, none⟩ = some (.int .i64 x.kind) ∧ W.cell? ⟨b2, o2 + a * 4 + 1, none⟩ = some (.int .i64 x.n) ∧ W.cell? ⟨b2, o2 + a * 4 + 2, none⟩ = some (.string x.s) ∧ W.cell? ⟨b2, o2 + a * 4 + 3, none⟩ = some (.slice (some ⟨b3, o3, none⟩) x.kids.length c3)) :=
      fun W hK => ⟨(hK.cell _ _ hbc).trans hcc, (hK.cell _ _ hb).trans hca, (hK.cell _ _ hbk).trans hck, (hK.cell _ _ hbn).trans hcn, (hK.cell _ _ hb3).trans hkd, (hK.cell _ _ hb2).trans e0, (hK.cell _ _ hb2).trans e1, (hK.cell _ _ hb2).trans e2, (hK.cell _ _ hb2).trans e3⟩
    clear hcc hca hck hcn hkd
    go_enter Tryz.func244, Tryz.ntmps244
    go_wp2_with fail
    go_region_held3 (fun W => W.cell? ⟨bc, 0, none⟩ = some (.slice (some ⟨b, o, none⟩) q.length cap) ∧ W.cell? ⟨b, o + a, none⟩ = some (.int .i64 x.kids.length) ∧ W.cell? ⟨bk, 0, none⟩ = some (.func (.func 217) #[] #[]) ∧ W.cell? ⟨bn, 0, none⟩ = some (.slice (some ⟨b2, o2, none⟩) q.length cap2) ∧ W.cell? ⟨b3, o3 + d, none⟩ = some (.int .i64 y) ∧ W.cell? ⟨b2, o2 + a * 4, none⟩ = some (.int .i64 x.kind) ∧ W.cell? ⟨b2, o2 + a * 4 + 1, none⟩ = some (.int .i64 x.n) ∧ W.cell? ⟨b2, o2 + a * 4 + 2, none⟩ = some (.string x.s) ∧ W.cell? ⟨b2, o2 + a * 4 + 3, none⟩ = some (.slice (some ⟨b3, o3, none⟩) x.kids.length c3))
      (first | exact hI _ (Kept.refl _) | exact hI _ (Kept.drew _) | exact hI _ ((Kept.drew _).trans (Kept.of_below hb1)))
      ((go_at_call 217; refine (hKD _ _).mono ?_; rintro e w1 ⟨rfl, hb1⟩))
    go_wp2
    go_ret
    refine ⟨ret_bool ?_, (Below.refl _ _).drew.trans hb1⟩
    rw [HD.out, Bool.eq_iff_iff]; simp
theorem e_iNextPN : ∀ args w, (callFunc 244 args).run Tryz.prog w = .ok (.enter 244 args) w := enters_of Tryz.func244 (by kernel_rfl) rfl
theorem iWalkPrePN (q : List PN) (vc vn : Value) (bc bk bn : Nat) (w : World) (hcc : w.cell? ⟨bc, 0, none⟩ = some vc) (hck : w.cell? ⟨bk, 0, none⟩ = some (.func (.func 217) #[] #[])) (hcn : w.cell? ⟨bn, 0, none⟩ = some vn)
    (hbc : bc < w.heap.size) (hbk : bk < w.heap.size) (hbn : bn < w.heap.size) (hC : RowRd 1 IntEl w vc (lens (q.map PN.kids))) (hR : RowRd 4 PNEl w vn q) (hl : q.length ≤ 1048576) :
    Calls Tryz.prog 82 #[vc, .int .i64 0, .func (.func 244) #[] #[.pointer (some ⟨bc, 0, none⟩), .pointer (some ⟨bk, 0, none⟩), .pointer (some ⟨bn, 0, none⟩)]] w fun e w' => e = .returned (.int .i64 (walkS (vPre (q.map PN.kids)) (lens (q.map PN.kids)) (q.length + 1) () 0).1) ∧ Below w.heap.size w w' := by
  have hle : (lens (q.map PN.kids)).length = q.length := by simp [lens]
  refine iWalk (vPre (q.map PN.kids)) (fun _ W => Below w.heap.size w W) 244 #[.pointer (some ⟨bc, 0, none⟩), .pointer (some ⟨bk, 0, none⟩), .pointer (some ⟨bn, 0, none⟩)] e_iNextPN (lens (q.map PN.kids)) vc (by omega) (fun _ W hW => hC.kept IntEl.st (Kept.of_below hW)) ?_ (q.length + 1) () 0 w (Below.refl _ _) (Nat.zero_le _) (by omega)
  intro u W a d n h hW hd h0 h1
  have hla : ((lens (q.map PN.kids))[a]'h).toNat = (q[a]'(by omega)).kids.length := by simp [lens]
  rw [hla] at hd
  exact (iNextPN q vc vn bc bk bn a d n W ((hW.cell (p := ⟨bc, 0, none⟩) hbc).trans hcc) ((hW.cell (p := ⟨bk, 0, none⟩) hbk).trans hck) ((hW.cell (p := ⟨bn, 0, none⟩) hbn).trans hcn) (Nat.lt_of_lt_of_le hbc hW.size) (Nat.lt_of_lt_of_le hbk hW.size) (Nat.lt_of_lt_of_le hbn hW.size)
    (hC.kept IntEl.st (Kept.of_below hW)) (hR.kept PNEl.st (Kept.of_below hW)) (by omega) hd).mono fun e w' ⟨h1, h2⟩ => ⟨h1, below_tr hW h2⟩
theorem iPrePN (q : List PN) (v : Value) (w : World) (hR : RowRd 4 PNEl w v q) :
    Calls Tryz.prog 216 #[v, .func (.func 217) #[] #[]] w fun e w' => e = .returned (.bool (preB (q.map PN.kids))) ∧ Below w.heap.size w w' := by
  have hR0 := hR
  obtain ⟨p, cap, rfl, hm, hRf⟩ := hR.form
  clear hRf
  unfold maxLen at hm
  by_cases h0 : 600 < q.length
  · have h0' : 600 < (q.length : Int) := by omega
    have HB := Lib.hid (show preB (q.map PN.kids) = false from by simp [preB]; omega)
    go_enter Tryz.func216, Tryz.ntmps216
    go_wp2
    go_ret
    exact ⟨ret_bool HB.out.symm, Joins.below_alloc2 w _ _⟩
  · have h0' : decide (600 < (q.length : Int)) = false := by simp; omega
    have h1 : decide (q.length ≤ 600) = true := by simp; omega
    have HB := Lib.hid (show preB (q.map PN.kids) = decide ((walkS (vPre (q.map PN.kids)) (lens (q.map PN.kids)) (q.length + 1) () 0).1 = (q.length : Int)) from by
      unfold preB; rw [List.length_map, h1]; simp)
    have hmap : q.map (fun x => (x.kids.length : Int)) = lens (q.map PN.kids) := by simp [lens]
    have hIx : ∀ x ∈ q, I64 (x.kids.length : Int) := by
      intro x hx
      obtain ⟨i, hi, rfl⟩ := List.getElem_of_mem hx
      obtain ⟨_, _, _, _, hRf⟩ := hR0.form
      obtain ⟨b, o, _, _, h⟩ := hRf (by omega)
      obtain ⟨⟨e0, i0⟩, ⟨e1, i1⟩, ⟨e2, i2⟩, ⟨v3, e3, r3⟩⟩ := h i hi
      obtain ⟨_, _, _, hm3, _⟩ := r3.form
      unfold maxLen at hm3
      exact ⟨by omega, by omega⟩
    have hWK := fun (vc : Value) (bc : Nat) (W : World) => iWalkPrePN q vc (.slice p q.length cap) bc (w.heap.size + 1) w.heap.size W
    have hMP := fun (W : World) (hK : Kept w W) (hc : W.cell? ⟨w.heap.size + 1, 0, none⟩ = some (.func (.func 217) #[] #[])) (hlt : w.heap.size + 1 < W.heap.size) =>
      iMapPN 243 #[.pointer (some ⟨w.heap.size + 1, 0, none⟩)] e_iLenPN (fun x => (x.kids.length : Int)) q (.slice p q.length cap) W (hR0.kept PNEl.st hK) (by omega) hIx
        (fun i hi u W' hW' hu => iLenPN (w.heap.size + 1) q[i] u W' ((hW'.cell (p := ⟨w.heap.size + 1, 0, none⟩) hlt).trans hc) (Nat.lt_of_lt_of_le hlt hW'.size) hu)
    have hq := Lib.hid (show q.length ≤ 1048576 by omega)
    clear h0 h1
    go_enter Tryz.func216, Tryz.ntmps216
    go_wp2_with (go_at_call 242; refine (hMP _ (Kept.al2 _ _ _) (by simp) (by simp)).mono ?_; rintro e w1 ⟨v', rfl, hv', hb⟩; rw [hmap] at hv'; have hvf := hv'.form; obtain ⟨pv, cv, rfl, mv, -⟩ := hvf)
    clear hMP hmap hIx hR
    have hsz := hb.size
    simp at hsz
    have f0 : w1.cell? ⟨w.heap.size, 0, none⟩ = some (.slice p q.length cap) := (hb.cell (p := ⟨w.heap.size, 0, none⟩) (by simp; omega)).trans (by simp)
    have f1 : w1.cell? ⟨w.heap.size + 1, 0, none⟩ = some (.func (.func 217) #[] #[]) := (hb.cell (p := ⟨w.heap.size + 1, 0, none⟩) (by simp)).trans (by simp)
    have b0 := below_tr (Joins.below_alloc2 w _ _) hb
    clear hb
    obtain ⟨O, hO⟩ : ∃ O, O = Obj.cells #[.slice pv (lens (q.map PN.kids)).length cv] 35 := ⟨_, rfl⟩
    have kO : Kept w1 (w1.alloc O) := Kept.alloc _ _
    have g0 := (kO.cell w.heap.size 0 (by omega)).trans f0
    have g1 := (kO.cell (w.heap.size + 1) 0 (by omega)).trans f1
    have gC : (w1.alloc O).cell? ⟨w1.heap.size, 0, none⟩ = some (.slice pv (lens (q.map PN.kids)).length cv) := by rw [hO]; simp
    have hvO := hv'.kept IntEl.st kO
    have z0 : w1.heap.size < (w1.alloc O).heap.size := by simp
    have bO : Below w.heap.size w (w1.alloc O) := b0.alloc (by omega) O
    rw [← hO]
    clear hO hv' f0 f1 kO
    generalize w1.alloc O = wb at *
    have HW := fun W (hK : Kept wb W) => Lib.hid (hWK _ w1.heap.size W ((hK.cell _ _ z0).trans gC) ((hK.cell (w.heap.size + 1) 0 (by omega)).trans g1) ((hK.cell w.heap.size 0 (by omega)).trans g0) (Nat.lt_of_lt_of_le z0 hK.size) (Nat.lt_of_lt_of_le (by omega) hK.size) (Nat.lt_of_lt_of_le (by omega) hK.size)
      (hvO.kept IntEl.st hK) (hR0.kept PNEl.st ((Kept.of_below bO).trans hK)) hq.out)
    have hI : ∀ W, Kept wb W → (W.cell? ⟨w.heap.size, 0, none⟩ = some (.slice p q.length cap) ∧ W.cell? ⟨w1.heap.size, 0, none⟩ = some (.slice pv (lens (q.map PN.kids)).length cv)) := fun W hK => ⟨(hK.cell w.heap.size 0 (by omega)).trans g0, (hK.cell _ _ z0).trans gC⟩
    clear hWK hvO g0 g1 gC
    generalize (walkS (vPre (q.map PN.kids)) (lens (q.map PN.kids)) (q.length + 1) () 0).1 = r at *
    go_wp2_with fail
    go_region_held3 (fun W => W.cell? ⟨w.heap.size, 0, none⟩ = some (.slice p q.length cap) ∧ W.cell? ⟨w1.heap.size, 0, none⟩ = some (.slice pv (lens (q.map PN.kids)).length cv))
      (first | exact hI _ (Kept.refl _) | exact hI _ (Kept.drew _) | exact hI _ ((Kept.drew _).trans (Kept.of_below hb2)))
      ((go_at_call 82; refine (HW _ (by first | exact Kept.drew _ | exact Kept.refl _)).out.mono ?_; rintro e w2 ⟨rfl, hb2⟩))
    go_wp2
    go_ret
    refine ⟨ret_bool ?_, below_tr bO.drew hb2⟩
    rw [HB.out, Bool.eq_iff_iff]; simp
end Go.Proofs.YtbehcmogndpkhaaGreatDoor
namespace Go.Proofs.YtbehcmogndpkhaaGreatDoor
set_option linter.unusedVariables false
set_option maxRecDepth 100000
open Go.ChangeShapes Go.WideShapes Go.ChangeAt Go.RowKit Go.Maps Go.WideMaps

theorem iConOkB (s : ByteArray) (w : World) (hs : s.size ≤ maxLen) :
    Calls Tryz.prog 184 #[.string s] w fun e w' => e = .returned (.bool (conB s)) ∧ Below w.heap.size w w' := (iConOk s w hs).mono fun e w' ⟨h, h'⟩ => ⟨h, by subst h'; exact Below.refl _ _⟩
theorem iConTakes (s : ByteArray) (n : Int) (w : World) (hs : s.size ≤ maxLen) :
    Calls Tryz.prog 179 #[.string s, .int .i64 n] w fun e w' => e = .returned (.bool (conOkB s n true)) ∧ Below w.heap.size w w' := by
  by_cases h1 : s.toList = [58, 58]
  · have HB := Lib.hid (show conOkB s n true = decide (n = 1) from by rw [conOkB, if_pos h1]; simp)
    go_enter Tryz.func179, Tryz.ntmps179
    go_wp2
    all_goals
      go_ret
      refine ⟨ret_bool ?_, Below.refl _ _⟩
      rw [HB.out]
      first | (simp; done) | (rw [Bool.eq_iff_iff]; simp; done)
  · have b1 : (s.toList == [58, 58]) = false := by simpa using h1
    by_cases h2 : s.toList = [116, 114, 117, 101] ∨ (s.toList = [102, 97, 108, 115, 101] ∨ s.toList = [91, 93])
    · have HB := Lib.hid (show conOkB s n true = decide (n = 0) from by rw [conOkB, if_neg h1, if_pos h2])
      clear h1
      rcases h2 with h | h | h
      all_goals
        clear b1
        go_enter Tryz.func179, Tryz.ntmps179
        go_wp2
        go_ret
        refine ⟨ret_bool ?_, Below.refl _ _⟩
        rw [HB.out, Bool.eq_iff_iff]; simp
    · obtain ⟨g1, g2⟩ := not_or.1 h2
      obtain ⟨g3, g4⟩ := not_or.1 g2
      have b2 : (s.toList == [116, 114, 117, 101]) = false := by simpa using g1
      have b3 : (s.toList == [102, 97, 108, 115, 101]) = false := by simpa using g3
      have b4 : (s.toList == [91, 93]) = false := by simpa using g4
      have HB := Lib.hid (show conOkB s n true = (conB s && decide (n ≤ 1)) from by rw [conOkB, if_neg h1, if_neg h2])
      clear h1 h2 g1 g2 g3 g4
      go_enter Tryz.func179, Tryz.ntmps179
      go_wp2_with fail
      refine (iConOkB _ _ hs).mono ?_
      rintro e w1 ⟨rfl, hb⟩
      generalize conB s = c at *
      cases c
      all_goals
        go_wp2
        all_goals
          go_ret
          refine ⟨ret_bool ?_, hb⟩
          rw [HB.out]
          first | (simp; done) | (rw [Bool.eq_iff_iff]; simp; done) | (simp; omega)
theorem iConsPat (k n : Int) (s : ByteArray) (u : Value) (w : World) (hs : s.size ≤ maxLen) :
    Calls Tryz.prog 202 #[.agg #[.int .i64 k, .int .i64 n, .string s, u]] w fun e w' => e = .returned (.bool (decide (k = 4) && decide (s.toList = [58, 58]))) ∧ Below w.heap.size w w' := by
  by_cases h4 : k = 4
  · subst h4
    go_enter Tryz.func202, Tryz.ntmps202
    go_wp2
    go_ret
    refine ⟨ret_bool ?_, Joins.below_alloc1 w _⟩
    rw [Bool.eq_iff_iff]; simp
  · have h4' : (k == 4) = false := by simpa using h4
    have HB := Lib.hid (show (decide (k = 4) && decide (s.toList = [58, 58])) = false from by simp [h4])
    clear h4
    go_enter Tryz.func202, Tryz.ntmps202
    go_wp2
    go_ret
    exact ⟨ret_bool HB.out.symm, Joins.below_alloc1 w _⟩
set_option maxHeartbeats 4000000 in
theorem iPNode (k n : Int) (s : ByteArray) (kids : List Int) (u : Value) (w : World) (hk : RowRd 1 IntEl w u kids) (hs : s.size ≤ maxLen) :
    Calls Tryz.prog 214 #[.agg #[.int .i64 k, .int .i64 n, .string s, u]] w fun e w' => e = .returned (.bool (pnodeB true k n s kids.length)) ∧ Below w.heap.size w w' := by
  obtain ⟨b, cap', rfl, hm', hkf⟩ := hk.form
  clear hk hkf
  unfold maxLen at hm'
  have hb0 := fun cs => Joins.below_alloc1 w (.cells cs 180)
  have hsz : ∀ cs, w.heap.size < (w.alloc (.cells cs 180)).heap.size := fun cs => by simp
  have hkc : k = 1 ∨ k = 6 ∨ k = 5 ∨ k = 2 ∨ k = 3 ∨ k = 4 ∨ (¬ k = 1 ∧ ¬ k = 6 ∧ ¬ k = 5 ∧ ¬ k = 2 ∧ ¬ k = 3 ∧ ¬ k = 4) := by omega
  by_cases hn : n = 0
  · subst hn
    by_cases he : s.toList = []
    · have he1 : s.toList.isEmpty = true := by simp [he]
      rcases hkc with rfl | rfl | rfl | rfl | rfl | rfl | ⟨g1, g2, g3, g4, g5, g6⟩
      iterate 3
        · go_enter Tryz.func214, Tryz.ntmps214
          go_wp2
          all_goals
            go_ret
            refine ⟨ret_bool ?_, Joins.below_alloc1 w _⟩
            first | (simp [pnodeB, he]; done) | (rw [Bool.eq_iff_iff]; simp [pnodeB, he]; done) | (simp [pnodeB, he]; omega)
      · go_enter Tryz.func214, Tryz.ntmps214
        go_wp2_with fail
        refine (iNameOkB _ _ hs).mono ?_
        rintro e w1 ⟨rfl, hb1⟩
        obtain ⟨hc, hf⟩ := bcell hb1
        cases hx : nameB s
        all_goals
          go_wp2
          all_goals
            go_ret
            refine ⟨ret_bool ?_, below_tr (Joins.below_alloc1 w _) hb1⟩
            first | (simp [pnodeB, hx]; done) | (rw [Bool.eq_iff_iff]; simp [pnodeB, hx]; done) | (rw [Bool.eq_iff_iff]; simp [pnodeB, hx]; omega)
      · go_enter Tryz.func214, Tryz.ntmps214
        go_wp2
        all_goals
          go_ret
          refine ⟨ret_bool ?_, Joins.below_alloc1 w _⟩
          first | (simp [pnodeB, he]; done) | (rw [Bool.eq_iff_iff]; simp [pnodeB, he]; done) | (rw [Bool.eq_iff_iff]; simp [pnodeB, he]; omega)
      · go_enter Tryz.func214, Tryz.ntmps214
        go_wp2_with fail
        refine (iConTakes _ _ _ hs).mono ?_
        rintro e w1 ⟨rfl, hb1⟩
        go_wp2
        all_goals
          go_ret
          refine ⟨ret_bool ?_, below_tr (Joins.below_alloc1 w _) hb1⟩
          simp [pnodeB]
      · have b1 : (k == 1) = false := by simpa using g1
        have b2 : (k == 2) = false := by simpa using g4
        have b3 : (k == 3) = false := by simpa using g5
        have b4 : (k == 4) = false := by simpa using g6
        have b5 : (k == 5) = false := by simpa using g3
        have b6 : (k == 6) = false := by simpa using g2
        have HF := Lib.hid (show pnodeB true k 0 s (kids.length : Int) = false from by simp [pnodeB, g1, g2, g3, g4, g5, g6])
        clear g1 g2 g3 g4 g5 g6
        go_enter Tryz.func214, Tryz.ntmps214
        go_wp2
        all_goals
          go_ret
          exact ⟨ret_bool HF.out.symm, Joins.below_alloc1 w _⟩
    · have he1 : s.toList.isEmpty = false := by simpa using he
      have HE := Lib.hid he
      clear he
      rcases hkc with rfl | rfl | rfl | rfl | rfl | rfl | ⟨g1, g2, g3, g4, g5, g6⟩
      iterate 3
        · go_enter Tryz.func214, Tryz.ntmps214
          go_wp2
          all_goals
            go_ret
            refine ⟨ret_bool ?_, Joins.below_alloc1 w _⟩
            simp [pnodeB, HE.out]
      · go_enter Tryz.func214, Tryz.ntmps214
        go_wp2_with fail
        refine (iNameOkB _ _ hs).mono ?_
        rintro e w1 ⟨rfl, hb1⟩
        obtain ⟨hc, hf⟩ := bcell hb1
        cases hx : nameB s
        all_goals
          go_wp2
          all_goals
            go_ret
            refine ⟨ret_bool ?_, below_tr (Joins.below_alloc1 w _) hb1⟩
            first | (simp [pnodeB, hx]; done) | (rw [Bool.eq_iff_iff]; simp [pnodeB, hx]; done) | (rw [Bool.eq_iff_iff]; simp [pnodeB, hx]; omega)
      · go_enter Tryz.func214, Tryz.ntmps214
        go_wp2
        all_goals
          go_ret
          refine ⟨ret_bool ?_, Joins.below_alloc1 w _⟩
          simp [pnodeB, HE.out]
      · go_enter Tryz.func214, Tryz.ntmps214
        go_wp2_with fail
        refine (iConTakes _ _ _ hs).mono ?_
        rintro e w1 ⟨rfl, hb1⟩
        go_wp2
        all_goals
          go_ret
          refine ⟨ret_bool ?_, below_tr (Joins.below_alloc1 w _) hb1⟩
          simp [pnodeB]
      · have b1 : (k == 1) = false := by simpa using g1
        have b2 : (k == 2) = false := by simpa using g4
        have b3 : (k == 3) = false := by simpa using g5
        have b4 : (k == 4) = false := by simpa using g6
        have b5 : (k == 5) = false := by simpa using g3
        have b6 : (k == 6) = false := by simpa using g2
        have d2 : (k != 2) = true := by simpa using g4
        have d4 : (k != 4) = true := by simpa using g6
        have HF := Lib.hid (show pnodeB true k 0 s (kids.length : Int) = false from by simp [pnodeB, g1, g2, g3, g4, g5, g6])
        clear g1 g2 g3 g4 g5 g6
        go_enter Tryz.func214, Tryz.ntmps214
        go_wp2
        all_goals
          go_ret
          exact ⟨ret_bool HF.out.symm, Joins.below_alloc1 w _⟩
  · have hn1 : (n == 0) = false := by simpa using hn
    have hn2 : (n != 0) = true := by simpa using hn
    have HN := Lib.hid hn
    clear hn
    by_cases h3 : k = 3
    · subst h3
      by_cases he : s.toList = []
      · have he1 : s.toList.isEmpty = true := by simp [he]
        by_cases hlo : -4611686018427387903 ≤ n
        · by_cases hhi : n ≤ 4611686018427387903
          · have HF := Lib.hid (show pnodeB true 3 n s (kids.length : Int) = decide ((kids.length : Int) = 0) from by simp [pnodeB, he, hlo, hhi])
            go_enter Tryz.func214, Tryz.ntmps214
            go_wp2
            all_goals
              go_ret
              refine ⟨ret_bool ?_, Joins.below_alloc1 w _⟩
              rw [HF.out]
              first | (simp; done) | (rw [Bool.eq_iff_iff]; simp; done) | (rw [Bool.eq_iff_iff]; simp; omega)
          · have HF := Lib.hid (show pnodeB true 3 n s (kids.length : Int) = false from by simp [pnodeB, he, hhi])
            go_enter Tryz.func214, Tryz.ntmps214
            go_wp2
            all_goals
              go_ret
              exact ⟨ret_bool HF.out.symm, Joins.below_alloc1 w _⟩
        · have HF := Lib.hid (show pnodeB true 3 n s (kids.length : Int) = false from by simp [pnodeB, he, hlo])
          go_enter Tryz.func214, Tryz.ntmps214
          go_wp2
          all_goals
            go_ret
            exact ⟨ret_bool HF.out.symm, Joins.below_alloc1 w _⟩
      · have he1 : s.toList.isEmpty = false := by simpa using he
        have HE := Lib.hid he
        clear he
        go_enter Tryz.func214, Tryz.ntmps214
        go_wp2
        all_goals
          go_ret
          refine ⟨ret_bool ?_, Joins.below_alloc1 w _⟩
          simp [pnodeB, HE.out]
    · have h3' : (k != 3) = true := by simpa using h3
      have HF := Lib.hid (show pnodeB true k n s (kids.length : Int) = false from by simp [pnodeB, HN.out, h3])
      clear h3 hkc
      go_enter Tryz.func214, Tryz.ntmps214
      go_wp2
      all_goals
        go_ret
        exact ⟨ret_bool HF.out.symm, Joins.below_alloc1 w _⟩
end Go.Proofs.YtbehcmogndpkhaaGreatDoor
namespace Go.Proofs.YtbehcmogndpkhaaGreatDoor
set_option linter.unusedVariables false
open Go.RowKit

/-- Which of n operations have come up. -/
def msk (n : Nat) (ts : List Nat) : Array Bool := ((List.range n).map fun i => ts.contains i).toArray
theorem region_begin {P : Program} {ops : Array Oper} {Q : Exit → Act → World → Prop} {S : World → Prop} {id n : Nat} {a : Act} {w : World} (hm : P.follows .mixedOrders = true) (hn : ops.size = n)
    (hl : Array.replicate n false = msk n []) (hS : S w.drew) (h : S w.drew → wpAnyH P .any ops Q S n (msk n []) a w.drew) : (Code.region id ops true).wp P Q a w := by
  subst hn
  exact wp_region_held_drew hm hS (fun hs => by rw [hl]; exact h hs)
theorem take_next {P : Program} {md : Region.Mode} {ops : Array Oper} {Q : Exit → Act → World → Prop} {S : World → Prop} {i n d : Nat} {oi : Oper} {v : Value} {fuel : Nat} (ts : List Nat) {ts' : List Nat} {a a' : Act} {w : World} (hi : ops[i]? = some oi)
    (hs : Region.noSelect ops = true) (hf : Region.free md ops (msk n ts) i = true) (hr : (Region.ready md ops (msk n ts)).contains i = true)
    (hQ : ∀ c a w, Q (.panic c) (a.put oi.dst v) w → Q (.panic c) a w) (hy : YieldsIf P ops S oi v a) (hS : S w)
    (hl : (msk n ts).setIfInBounds i true = msk n ts') (hd : oi.dst = some d) (ha : a.put (some d) v = a')
    (h : wpAnyH P md ops Q S fuel (msk n ts') a' w) : wpAnyH P md ops Q S (fuel + 1) (msk n ts) a w := by
  subst ha
  rw [← hd] at h
  exact wpAnyH_take hi hs hf hr hQ hy hS (by rw [hl]; exact h)
theorem mask_is {P : Program} {md : Region.Mode} {ops : Array Oper} {Q : Exit → Act → World → Prop} {S : World → Prop} {n fuel : Nat} {up : Array Bool} {a : Act} {w : World} (ts' : List Nat) (hl : up = msk n ts')
    (h : wpAnyH P md ops Q S fuel (msk n ts') a w) : wpAnyH P md ops Q S fuel up a w := hl ▸ h
end Go.Proofs.YtbehcmogndpkhaaGreatDoor
namespace Go.Proofs.YtbehcmogndpkhaaGreatDoor
set_option linter.unusedVariables false
set_option maxRecDepth 100000
open Go.ChangeShapes Go.WideShapes Go.ChangeAt Go.RowKit Go.Maps Go.WideMaps

set_option maxHeartbeats 4000000 in
theorem iTwice (q : List PN) (v : Value) (w : World) (hR : RowRd 4 PNEl w v q) :
    Calls Tryz.prog 219 #[.agg #[v]] w fun e w' => e = .returned (.bool (propB (TwiceP q))) ∧ Below w.heap.size w w' := by
  obtain ⟨p, cap, rfl, hm, hRf⟩ := hR.form
  unfold maxLen at hm
  have hmm := @run_makeMap Tryz.prog
  have hbm := fun O => below_tr (Joins.below_alloc1 w O) (Joins.below_alloc1 _ (.map #[] 0))
  go_enter Tryz.func219, Tryz.ntmps219
  go_wp2
  go_loopw [10] (fun i wr => ∃ (k : Nat) (D : DataW Unit), i = .int .i64 k ∧ k ≤ q.length ∧ wr.ownsMap Tryz.prog 9 (plainElem Tryz.prog 4) (w.heap.size + 1) k D ∧ namesD q k D ∧ onceP q k ∧ Below w.heap.size w wr) (fun i _ => q.length - (intOf i).toNat)
  case atStart =>
    refine ⟨0, .map [], rfl, Nat.zero_le _, ?_, names_zero q, fun i j hi hj h => absurd h (by omega), hbm _⟩
    have := World.ownsMap_made (H := Unit) (w.alloc (.cells #[.slice p q.length cap] 123)) Tryz.prog 9 (plainElem Tryz.prog 4)
    simpa using this
  case round =>
    obtain ⟨k, D, rfl, hk, hown, hnm, honce, hbel⟩ := hrel
    have HNm := Lib.hid hnm
    have HO := Lib.hid honce
    clear hnm honce hmm hbm
    by_cases hlt : k < q.length
    · obtain ⟨b, o, rfl, hbw, hc⟩ := hRf (by omega)
      have ex := PNEl.st w wr b _ _ (Kept.of_below hbel) hbw (hc k hlt)
      have HSk := Lib.hid (fun h2 => names_skip HNm.out hlt h2)
      have HPut := Lib.hid (fun h2 => names_put HNm.out hown.isMap hlt h2)
      have HSt := Lib.hid (once_step q k hlt HO.out)
      have HTw := Lib.hid (twice_yes q k hlt)
      clear hc hRf hR
      generalize q[k] = x at *
      obtain ⟨⟨e0, i0⟩, ⟨e1, i1⟩, ⟨e2, i2⟩, ⟨v3, e3, r3⟩⟩ := ex
      obtain ⟨p3, c3, rfl, m3, -⟩ := r3.form
      have hb1 := below_tr hbel (Joins.below_alloc1 wr (.cells #[.int .i64 x.kind, .int .i64 x.n, .string x.s, .slice p3 x.kids.length c3] 180))
      have hown0 := hown.alloc (.cells #[.int .i64 x.kind, .int .i64 x.n, .string x.s, .slice p3 x.kids.length c3] 180)
      by_cases h2 : x.kind = 2
      · have h2' : (x.kind != 2) = false := by simpa using h2
        obtain ⟨c, hrun, hat⟩ := look_bool hown0 (string_keyed Tryz.underlying9) Tryz.underlying297 Tryz.underlying4 (zero_bool _) (key_str i2)
        have hcs : c = seenB (q.take k) x.s := by
          have := HNm.out x.s
          rw [hat] at this
          simpa using this
        have HC := Lib.hid hcs
        have H2 := Lib.hid h2
        clear hcs hat h2
        cases c
        · go_wp2_with (at_mapUpdate; refine wpList_mapUpdate_own _ rfl _ _ _ 297 rfl 9 4 (string_keyed Tryz.underlying9) Tryz.underlying297 (plainElem (H := Unit) Tryz.prog 4) (w.heap.size + 1) k _ rfl hown0 (by unfold maxLen; omega) _ _ _ rfl rfl (key_str i2) _ [] (plainElem_bool Tryz.underlying4 true) ?_; intro w1 hown1 hgrow1)
          go_roundw
          case rel => exact ⟨k + 1, _, by go_num, by omega, hown1, HPut.out H2.out, HSt.out (by rintro ⟨_, h⟩; rw [← HC.out] at h; cases h), hb1.grown hgrow1 hb1.size (fun j hj => by cases hj; omega)⟩
          case measure => simp [intOf]; omega
        · go_wp2
          go_ret
          exact ⟨ret_bool (propB_t (HTw.out H2.out HC.out.symm)).symm, hb1⟩
      · have h2' : (x.kind != 2) = true := by simpa using h2
        have H2 := Lib.hid h2
        clear h2
        go_wp2
        go_roundw
        case rel => exact ⟨k + 1, D, by go_num, by omega, hown0.mono (by omega), HSk.out H2.out, HSt.out (fun h => H2.out h.1), hb1⟩
        case measure => simp [intOf]; omega
    · obtain rfl : k = q.length := by omega
      go_wp2
      go_ret
      exact ⟨ret_bool (propB_f (once_end q HO.out)).symm, hbel⟩
set_option maxHeartbeats 4000000 in
theorem iRightPair (q : List PN) (vq : Value) (x : PN) (v3 : Value) (w : World) (hR : RowRd 4 PNEl w vq q) (r3 : RowRd 1 IntEl w v3 x.kids) (i2 : x.s.size ≤ maxLen) (hcons : isConsB x = true → x.kids.length = 1) (hk : ∀ k ∈ x.kids, 0 ≤ k ∧ k < (q.length : Int)) :
    Calls Tryz.prog 215 #[vq, .agg #[.int .i64 x.kind, .int .i64 x.n, .string x.s, v3]] w fun e w' => e = .returned (.bool (!isConsB x || decide (firstPK q x.kids = 5))) ∧ Below w.heap.size w w' := by
  have hC := fun W => iConsPat x.kind x.n x.s v3 W i2
  have e2 : (decide (x.kind = 4) && decide (x.s.toList = [58, 58])) = isConsB x := rfl
  rw [e2] at hC
  obtain ⟨p3, c3, rfl, hm3, hkf⟩ := r3.form
  unfold maxLen at hm3
  obtain ⟨O, hO⟩ : ∃ O, O = Obj.cells #[.int .i64 x.kind, .int .i64 x.n, .string x.s, .slice p3 x.kids.length c3] 180 := ⟨_, rfl⟩
  have kO : Kept w (w.alloc O) := Kept.alloc _ _
  have z0 : w.heap.size < (w.alloc O).heap.size := by simp
  have d0 : (w.alloc O).cell? ⟨w.heap.size, 0, none⟩ = some (.int .i64 x.kind) := by rw [hO]; simp
  have d1 : (w.alloc O).cell? ⟨w.heap.size, 1, none⟩ = some (.int .i64 x.n) := by rw [hO]; simp
  have d2 : (w.alloc O).cell? ⟨w.heap.size, 2, none⟩ = some (.string x.s) := by rw [hO]; simp
  have d3 : (w.alloc O).cell? ⟨w.heap.size, 3, none⟩ = some (.slice p3 x.kids.length c3) := by rw [hO]; simp
  have bO : Below w.heap.size w (w.alloc O) := Joins.below_alloc1 w O
  have HC := fun W (hB : Below (w.alloc O).heap.size (w.alloc O) W) => hC W
  have hRO := hR.kept PNEl.st kO
  have r3O := r3.kept IntEl.st kO
  obtain ⟨p2, cap2, rfl, hm2, _⟩ := hRO.form
  unfold maxLen at hm2
  clear hC hR r3 hkf
  cases hb2 : isConsB x
  · rw [hb2] at HC
    clear hcons hk
    go_enter Tryz.func215, Tryz.ntmps215
    go_wp2_with fail
    rw [← hO]
    clear hO
    generalize w.alloc O = wb at *
    have hI := fun W (hB : Below wb.heap.size wb W) => (⟨(hB.cell (p := ⟨_, 0, none⟩) z0).trans d0, (hB.cell (p := ⟨_, 1, none⟩) z0).trans d1, (hB.cell (p := ⟨_, 2, none⟩) z0).trans d2, (hB.cell (p := ⟨_, 3, none⟩) z0).trans d3⟩ : W.cell? ⟨w.heap.size, 0, none⟩ = some (.int .i64 x.kind) ∧ W.cell? ⟨w.heap.size, 1, none⟩ = some (.int .i64 x.n) ∧ W.cell? ⟨w.heap.size, 2, none⟩ = some (.string x.s) ∧ W.cell? ⟨w.heap.size, 3, none⟩ = some (.slice p3 x.kids.length c3))
    clear hRO r3O e2
    refine (HC _ (Below.refl _ _)).mono ?_
    rintro e w1 ⟨rfl, hb1⟩
    have hB1 := hb1
    have hcs1 := hI _ hB1
    go_split_ands
    have hHeld := hB1
    go_wp2
    go_ret
    exact ⟨by simp, below_tr bO hHeld⟩
  · rw [hb2] at HC
    have hl := hcons hb2
    obtain ⟨k, hkk⟩ : ∃ k, x.kids = [k] := List.length_eq_one_iff.1 hl
    obtain ⟨hk0, hk1⟩ := hk k (by simp [hkk])
    obtain ⟨n, rfl⟩ : ∃ n : Nat, k = n := ⟨k.toNat, by omega⟩
    have hn : n < q.length := by omega
    have hg := List.getElem?_eq_getElem hn
    have HF := Lib.hid (show (!true || decide (firstPK q x.kids = 5)) = decide (q[n].kind = 5) from by rw [hkk]; simp [firstPK, hg])
    obtain ⟨_, _, eq3, _, hkf⟩ := r3O.form
    cases eq3
    obtain ⟨b3, o3, rfl, hb3, hks⟩ := hkf (by omega)
    have hk3 := (hks 0 (by omega)).1
    simp only [hkk, List.getElem_cons_zero, Nat.zero_mul, Nat.add_zero] at hk3
    obtain ⟨_, _, eq2, _, hqf⟩ := hRO.form
    cases eq2
    obtain ⟨b2, o2, rfl, hb2', hqs⟩ := hqf (by omega)
    have hq5 := (hqs n hn).1.1
    have hl1 : (0 : Int) < (x.kids.length : Int) := by omega
    have hl2 : 0 < x.kids.length := by omega
    clear hcons hk hks hkf hqf hqs hRO r3O hg
    generalize q[n] = y at *
    clear hkk hl hk0 hk1
    go_enter Tryz.func215, Tryz.ntmps215
    go_wp2_with fail
    rw [← hO]
    clear hO
    generalize w.alloc O = wb at *
    have hI := fun W (hB : Below wb.heap.size wb W) => (⟨(hB.cell (p := ⟨_, 0, none⟩) z0).trans d0, (hB.cell (p := ⟨_, 1, none⟩) z0).trans d1, (hB.cell (p := ⟨_, 2, none⟩) z0).trans d2, (hB.cell (p := ⟨_, 3, none⟩) z0).trans d3, (hB.cell (p := ⟨_, _, none⟩) hb3).trans hk3, (hB.cell (p := ⟨_, _, none⟩) hb2').trans hq5⟩ : W.cell? ⟨w.heap.size, 0, none⟩ = some (.int .i64 x.kind) ∧ W.cell? ⟨w.heap.size, 1, none⟩ = some (.int .i64 x.n) ∧ W.cell? ⟨w.heap.size, 2, none⟩ = some (.string x.s) ∧ W.cell? ⟨w.heap.size, 3, none⟩ = some (.slice (some ⟨b3, o3, none⟩) x.kids.length c3) ∧ W.cell? ⟨b3, o3, none⟩ = some (.int .i64 n) ∧ W.cell? ⟨b2, o2 + n * 4, none⟩ = some (.int .i64 y.kind))
    clear e2
    refine (HC _ (Below.refl _ _)).mono ?_
    rintro e w1 ⟨rfl, hb1⟩
    have hB1 := hb1
    have hcs1 := hI _ hB1
    go_split_ands
    have hHeld := hB1
    go_wp2
    go_ret
    refine ⟨ret_bool ?_, below_tr bO hHeld⟩
    rw [HF.out, Bool.eq_iff_iff]; simp
set_option maxHeartbeats 4000000 in
theorem iRightPN (q : List PN) (vq : Value) (bq : Nat) (x : PN) (u : Value) (w : World) (hcq : w.cell? ⟨bq, 0, none⟩ = some vq) (hbq : bq < w.heap.size) (hR : RowRd 4 PNEl w vq q) (hu : PNVal w u x) (hk : ∀ k ∈ x.kids, 0 ≤ k ∧ k < (q.length : Int)) :
    Calls Tryz.prog 213 #[u, .pointer (some ⟨bq, 0, none⟩)] w fun e w' => e = .returned (.bool (rightPB q x)) ∧ Below w.heap.size w w' := by
  obtain ⟨v3, rfl, i0, i1, i2, r3⟩ := hu
  have hP := fun W (hK : Kept w W) => iPNode x.kind x.n x.s x.kids v3 W (r3.kept IntEl.st hK) i2
  have HR := Lib.hid (show rightPB q x = (isPNB x && (!isConsB x || decide (firstPK q x.kids = 5))) from rfl)
  have hcons := isPN_cons x
  have e1 : pnodeB true x.kind x.n x.s (x.kids.length : Int) = isPNB x := rfl
  rw [e1] at hP
  have hC := fun W (hK : Kept w W) (h1 : isPNB x = true) => iRightPair q vq x v3 W (hR.kept PNEl.st hK) (r3.kept IntEl.st hK) i2 (hcons h1) hk
  obtain ⟨p3, c3, rfl, hm3, _⟩ := r3.form
  unfold maxLen at hm3
  obtain ⟨O, hO⟩ : ∃ O, O = Obj.cells #[.int .i64 x.kind, .int .i64 x.n, .string x.s, .slice p3 x.kids.length c3] 180 := ⟨_, rfl⟩
  have kO : Kept w (w.alloc O) := Kept.alloc _ _
  have z0 : w.heap.size < (w.alloc O).heap.size := by simp
  have d0 : (w.alloc O).cell? ⟨w.heap.size, 0, none⟩ = some (.int .i64 x.kind) := by rw [hO]; simp
  have d1 : (w.alloc O).cell? ⟨w.heap.size, 1, none⟩ = some (.int .i64 x.n) := by rw [hO]; simp
  have d2 : (w.alloc O).cell? ⟨w.heap.size, 2, none⟩ = some (.string x.s) := by rw [hO]; simp
  have d3 : (w.alloc O).cell? ⟨w.heap.size, 3, none⟩ = some (.slice p3 x.kids.length c3) := by rw [hO]; simp
  have dq := (kO.cell bq 0 hbq).trans hcq
  have bO : Below w.heap.size w (w.alloc O) := Joins.below_alloc1 w O
  have HP := fun W (hB : Below (w.alloc O).heap.size (w.alloc O) W) => hP W (kO.trans (Kept.of_below hB))
  have HC := fun (h1 : isPNB x = true) W (hB : Below (w.alloc O).heap.size (w.alloc O) W) => hC W (kO.trans (Kept.of_below hB)) h1
  have bq0 : bq < (w.alloc O).heap.size := Nat.lt_trans hbq z0
  clear hP hC hR r3 hcq hcons hk
  cases hb : isPNB x
  · rw [hb] at HP HR
    have HF := Lib.hid (show rightPB q x = false from by rw [HR.out]; rfl)
    clear HR HC
    go_enter Tryz.func213, Tryz.ntmps213
    go_wp2_with fail
    rw [← hO]
    clear hO
    generalize w.alloc O = wb at *
    have hI := fun W (hB : Below wb.heap.size wb W) => (⟨(hB.cell (p := ⟨_, 0, none⟩) z0).trans d0, (hB.cell (p := ⟨_, 1, none⟩) z0).trans d1, (hB.cell (p := ⟨_, 2, none⟩) z0).trans d2, (hB.cell (p := ⟨_, 3, none⟩) z0).trans d3⟩ : W.cell? ⟨w.heap.size, 0, none⟩ = some (.int .i64 x.kind) ∧ W.cell? ⟨w.heap.size, 1, none⟩ = some (.int .i64 x.n) ∧ W.cell? ⟨w.heap.size, 2, none⟩ = some (.string x.s) ∧ W.cell? ⟨w.heap.size, 3, none⟩ = some (.slice p3 x.kids.length c3))
    clear e1
    refine (HP _ (Below.refl _ _)).mono ?_
    rintro e w1 ⟨rfl, hb1⟩
    have hB1 := hb1
    have hcs1 := hI _ hB1
    go_split_ands
    have hHeld := hB1
    go_wp2
    go_ret
    exact ⟨ret_bool HF.out.symm, below_tr bO hHeld⟩
  · have HC := HC hb
    rw [hb] at HP HR
    have HF := Lib.hid (show (!isConsB x || decide (firstPK q x.kids = 5)) = rightPB q x from by rw [HR.out, Bool.true_and])
    rw [HF.out] at HC
    clear HR HF
    generalize rightPB q x = rr at *
    go_enter Tryz.func213, Tryz.ntmps213
    go_wp2_with fail
    rw [← hO]
    clear hO
    generalize w.alloc O = wb at *
    have hI := fun W (hB : Below wb.heap.size wb W) => (⟨(hB.cell (p := ⟨_, 0, none⟩) z0).trans d0, (hB.cell (p := ⟨_, 1, none⟩) z0).trans d1, (hB.cell (p := ⟨_, 2, none⟩) z0).trans d2, (hB.cell (p := ⟨_, 3, none⟩) z0).trans d3, (hB.cell (p := ⟨_, 0, none⟩) bq0).trans dq⟩ : W.cell? ⟨w.heap.size, 0, none⟩ = some (.int .i64 x.kind) ∧ W.cell? ⟨w.heap.size, 1, none⟩ = some (.int .i64 x.n) ∧ W.cell? ⟨w.heap.size, 2, none⟩ = some (.string x.s) ∧ W.cell? ⟨w.heap.size, 3, none⟩ = some (.slice p3 x.kids.length c3) ∧ W.cell? ⟨bq, 0, none⟩ = some vq)
    clear e1
    refine (HP _ (Below.refl _ _)).mono ?_
    rintro e w1 ⟨rfl, hb1⟩
    have hB1 := hb1
    have hcs1 := hI _ hB1
    go_split_ands
    go_wp2_with fail
    refine (HC _ hB1).mono ?_
    rintro e w2 ⟨rfl, hb2⟩
    have hB2 := below_tr hB1 hb2
    have hcs2 := hI _ hB2
    go_split_ands
    have hHeld := hB2
    go_wp2
    go_ret
    exact ⟨rfl, below_tr bO hHeld⟩
theorem e_iRightPN : ∀ args w, (callFunc 213 args).run Tryz.prog w = .ok (.enter 213 args) w := enters_of Tryz.func213 (by kernel_rfl) rfl
end Go.Proofs.YtbehcmogndpkhaaGreatDoor
namespace Go.Proofs.YtbehcmogndpkhaaGreatDoor
set_option linter.unusedVariables false
set_option maxRecDepth 100000
open Go.ChangeShapes Go.WideShapes Go.ChangeAt Go.RowKit

theorem iPatOk (q : List PN) (v : Value) (w : World) (hR : RowRd 4 PNEl w v q) :
    Calls Tryz.prog 182 #[.agg #[v]] w fun e w' => e = .returned (.bool (patOkB q)) ∧ Below w.heap.size w w' := by
  have HP := Lib.hid (pat_ok q)
  have hR0 := hR
  obtain ⟨p, cap, rfl, hm, hRf⟩ := hR.form
  clear hRf
  unfold maxLen at hm
  obtain ⟨O, hO⟩ : ∃ O, O = Obj.cells #[.slice p q.length cap] 123 := ⟨_, rfl⟩
  have kO : Kept w (w.alloc O) := Kept.alloc _ _
  have z0 : w.heap.size < (w.alloc O).heap.size := by simp
  have c0 : (w.alloc O).cell? ⟨w.heap.size, 0, none⟩ = some (.slice p q.length cap) := by rw [hO]; simp
  have bO : Below w.heap.size w (w.alloc O) := Joins.below_alloc1 w O
  have hRO := hR0.kept PNEl.st kO
  have HPre := fun W (hK : Below (w.alloc O).heap.size (w.alloc O) W) => Lib.hid (iPrePN q _ W (hRO.kept PNEl.st (Kept.of_below hK)))
  have HTw := fun W (hK : Below (w.alloc O).heap.size (w.alloc O) W) => Lib.hid (iTwice q _ W (hRO.kept PNEl.st (Kept.of_below hK)))
  cases hp : preB (q.map PN.kids)
  · rw [hp] at HP HPre
    have HF := Lib.hid (show patOkB q = false from HP.out)
    clear HP HTw hR hR0 hRO
    go_enter Tryz.func182, Tryz.ntmps182
    go_wp2_with fail
    rw [← hO]
    clear hO
    generalize w.alloc O = wb at *
    refine (HPre _ (Below.refl _ _)).out.mono ?_
    rintro e w1 ⟨rfl, hb1⟩
    go_wp2
    go_ret
    exact ⟨ret_bool HF.out.symm, below_tr bO hb1⟩
  · have hkids := pat_kids q hp
    have HEv := fun W (hK : Below (w.alloc O).heap.size (w.alloc O) W) => Lib.hid (iEveryPN 213 #[.pointer (some ⟨w.heap.size, 0, none⟩)] e_iRightPN (rightPB q) q _ W (hRO.kept PNEl.st (Kept.of_below hK))
      (fun i hi u W' hW' hu => iRightPN q _ w.heap.size q[i] u W' ((hW'.cell (p := ⟨w.heap.size, 0, none⟩) (Nat.lt_of_lt_of_le z0 hK.size)).trans ((hK.cell (p := ⟨w.heap.size, 0, none⟩) z0).trans c0)) (Nat.lt_of_lt_of_le z0 (Nat.le_trans hK.size hW'.size)) (hRO.kept PNEl.st ((Kept.of_below hK).trans (Kept.of_below hW'))) hu (hkids _ (List.getElem_mem hi))))
    rw [hp] at HP HPre
    clear hkids hR hR0 hRO
    cases he : q.all (rightPB q)
    · rw [he] at HP HEv
      have HF := Lib.hid (show patOkB q = false from HP.out)
      clear HP HTw
      go_enter Tryz.func182, Tryz.ntmps182
      go_wp2_with fail
      rw [← hO]
      clear hO
      generalize w.alloc O = wb at *
      refine (HPre _ (Below.refl _ _)).out.mono ?_
      rintro e w1 ⟨rfl, hb1⟩
      have c1 := (hb1.cell (p := ⟨w.heap.size, 0, none⟩) z0).trans c0
      go_wp2_with fail
      refine (HEv _ hb1).out.mono ?_
      rintro e w2 ⟨rfl, hb2⟩
      go_wp2
      go_ret
      exact ⟨ret_bool HF.out.symm, below_tr (below_tr bO hb1) hb2⟩
    · rw [he] at HP HEv
      have HF := Lib.hid (show patOkB q = !propB (TwiceP q) from HP.out)
      clear HP
      generalize propB (TwiceP q) = tw at *
      go_enter Tryz.func182, Tryz.ntmps182
      go_wp2_with fail
      rw [← hO]
      clear hO
      generalize w.alloc O = wb at *
      refine (HPre _ (Below.refl _ _)).out.mono ?_
      rintro e w1 ⟨rfl, hb1⟩
      have c1 := (hb1.cell (p := ⟨w.heap.size, 0, none⟩) z0).trans c0
      go_wp2_with fail
      refine (HEv _ hb1).out.mono ?_
      rintro e w2 ⟨rfl, hb2⟩
      have hB2 := below_tr hb1 hb2
      have c2 := (hB2.cell (p := ⟨w.heap.size, 0, none⟩) z0).trans c0
      go_wp2_with fail
      refine (HTw _ hB2).out.mono ?_
      rintro e w3 ⟨rfl, hb3⟩
      go_wp2
      go_ret
      exact ⟨ret_bool HF.out.symm, below_tr (below_tr bO hB2) hb3⟩
theorem iPatOkC (q : List PN) (v : Value) (w : World) (hR : RowRd 4 PNEl w v q) (hz : bPat q ≤ 1048576) :
    Calls Tryz.prog 182 #[.agg #[v]] w fun e w' => e = .returned (.bool (patOkB q)) ∧ Below w.heap.size w w' := iPatOk q v w hR
theorem e_iPatOk : ∀ args w, (callFunc 182 args).run Tryz.prog w = .ok (.enter 182 args) w := enters_of Tryz.func182 (by kernel_rfl) rfl
end Go.Proofs.YtbehcmogndpkhaaGreatDoor
