/- The program's generic helpers at one element type, by program (tools/genfun.py). -/
import Derived.Test.YtdhpmblhejcehaaDoorAnyH
import Derived.Test.YtdhpmblhejcehaaDoorOkS
import Derived.Shelf.Abstract
import Derived.Laws.EntriesVeiled
import Derived.Deep.QuietTactic
import Derived.BigQuiet
import Derived.Deep.RegionHeld3
import Derived.Deep.RegionWith
import Derived.Outline
namespace Go.Proofs.YtdhpmblhejcehaaDoor
set_option linter.unusedVariables false
set_option maxRecDepth 100000
open Go.ChangeShapes Go.WideShapes Go.ChangeAt Go.RowKit

/-- A Val that is handed over. -/
def VlVal (w : World) (v : Value) (x : Vl) : Prop := v = .agg #[.int .i64 x.kind, .int .i64 x.n, .string x.s] ∧ I64 x.kind ∧ I64 x.n ∧ x.s.size ≤ maxLen
theorem VlVal.kept {w w' : World} {v : Value} {x : Vl} (k : Kept w w') : VlVal w v x → VlVal w' v x := fun ⟨h, f0, f1, f2⟩ => ⟨h, f0, f1, f2⟩
theorem iIndexVl (g : Nat) (lb : Array Value) (eg : ∀ args w, (callFunc g args).run Tryd.prog w = .ok (.enter g args) w) (ok : Vl → Bool) (l : List Vl) (v : Value) (w : World) (hR : RowRd 3 VlEl w v l)
    (hp : ∀ i (hi : i < l.length) (u : Value) (W : World), Below w.heap.size w W → VlVal W u l[i] → Calls Tryd.prog g (#[u] ++ lb) W fun e w' => e = .returned (.bool (ok l[i])) ∧ Below W.heap.size W w') :
    Calls Tryd.prog 61 #[v, .func (.func g) #[] lb] w fun e w' => ∃ r : Int, e = .returned (.int .i64 r) ∧ decide (0 ≤ r) = l.any ok ∧ Below w.heap.size w w' := by
  obtain ⟨p, cap, rfl, hm, hR⟩ := hR.form
  unfold maxLen at hm
  go_enter Tryd.func61, Tryd.ntmps61
  go_wp2
  go_loopw [8] (fun i wr => ∃ k : Nat, i = .int .i64 k ∧ k ≤ l.length ∧ (l.take k).any ok = false ∧ Below w.heap.size w wr) (fun i _ => l.length - (intOf i).toNat)
  case atStart => exact ⟨0, rfl, Nat.zero_le _, rfl, Below.refl _ _⟩
  case round =>
    obtain ⟨k, rfl, hk, hno, hbel⟩ := hrel
    have HA := Lib.hid hno
    clear hno
    by_cases hlt : k < l.length
    · obtain ⟨b, o, rfl, hbw, hc⟩ := hR (by omega)
      have ex := VlEl.st w wr b _ _ (Kept.of_below hbel) hbw (hc k hlt)
      have hpk := fun u => hp k hlt u wr hbel
      have HY := Lib.hid (fun (h : ok l[k] = true) => anyH_yes ok l k hlt h)
      have HN := Lib.hid (fun (h : ok l[k] = false) => anyH_snoc ok l k hlt HA.out h)
      clear hc hR hp
      generalize l[k] = x at *
      obtain ⟨⟨e0, i0⟩, ⟨e1, i1⟩, ⟨e2, i2⟩⟩ := ex
      have hp1 := hpk _ ⟨rfl, i0, i1, i2⟩
      clear hpk
      generalize hx : ok x = t at *
      cases t
      · have HN2 := Lib.hid (HN.out rfl)
        clear HN HY
        go_wp2_with (go_at_fn g; refine hp1.mono ?_; rintro e w1 ⟨rfl, hb⟩)
        go_roundw
        case rel => exact ⟨k + 1, by go_num, by omega, HN2.out, below_tr hbel hb⟩
        case measure => simp [intOf]; omega
      · have HY2 := Lib.hid (HY.out rfl)
        clear HN HY
        go_wp2_with (go_at_fn g; refine hp1.mono ?_; rintro e w1 ⟨rfl, hb⟩)
        go_ret
        exact ⟨_, rfl, by rw [HY2.out]; simp, below_tr hbel hb⟩
    · obtain rfl : k = l.length := by omega
      rw [List.take_length] at HA
      go_wp2
      go_ret
      exact ⟨_, rfl, by rw [HA.out]; rfl, hbel⟩
theorem iContainsVl (g : Nat) (lb : Array Value) (eg : ∀ args w, (callFunc g args).run Tryd.prog w = .ok (.enter g args) w) (ok : Vl → Bool) (l : List Vl) (v : Value) (w : World) (hR : RowRd 3 VlEl w v l)
    (hp : ∀ i (hi : i < l.length) (u : Value) (W : World), Below w.heap.size w W → VlVal W u l[i] → Calls Tryd.prog g (#[u] ++ lb) W fun e w' => e = .returned (.bool (ok l[i])) ∧ Below W.heap.size W w') :
    Calls Tryd.prog 47 #[v, .func (.func g) #[] lb] w fun e w' => e = .returned (.bool (l.any ok)) ∧ Below w.heap.size w w' := by
  have hI := iIndexVl g lb eg ok l v w hR hp
  go_enter Tryd.func47, Tryd.ntmps47
  go_wp2_with (go_at_call 61; refine hI.mono ?_; rintro e w1 ⟨r, rfl, hr, hb⟩)
  go_ret
  refine ⟨ret_bool ?_, hb⟩
  rw [← hr]
theorem iNotVl (g : Nat) (lb : Array Value) (eg : ∀ args w, (callFunc g args).run Tryd.prog w = .ok (.enter g args) w) (r : Bool) (x : Vl) (u : Value) (bo : Nat) (w : World) (hc : w.cell? ⟨bo, 0, none⟩ = some (.func (.func g) #[] lb)) (hbo : bo < w.heap.size) (hu : VlVal w u x)
    (hp : ∀ W, Below w.heap.size w W → Calls Tryd.prog g (#[u] ++ lb) W fun e w' => e = .returned (.bool r) ∧ Below W.heap.size W w') :
    Calls Tryd.prog 48 #[u, .pointer (some ⟨bo, 0, none⟩)] w fun e w' => e = .returned (.bool (!r)) ∧ Below w.heap.size w w' := by
  obtain ⟨rfl, _, _, _⟩ := hu
  have hp1 := hp _ (Joins.below_alloc1 w (.cells #[.int .i64 x.kind, .int .i64 x.n, .string x.s] 33))
  have hne : w.heap.size ≠ bo := by omega
  go_enter Tryd.func48, Tryd.ntmps48
  go_wp2_with (go_at_fn g; refine hp1.mono ?_; rintro e w1 ⟨rfl, hb⟩)
  go_ret
  exact ⟨rfl, below_tr (Joins.below_alloc1 w _) hb⟩
theorem e_iNotVl : ∀ args w, (callFunc 48 args).run Tryd.prog w = .ok (.enter 48 args) w := enters_of Tryd.func48 (by kernel_rfl) rfl
theorem iEveryVl (g : Nat) (lb : Array Value) (eg : ∀ args w, (callFunc g args).run Tryd.prog w = .ok (.enter g args) w) (ok : Vl → Bool) (l : List Vl) (v : Value) (w : World) (hR : RowRd 3 VlEl w v l)
    (hp : ∀ i (hi : i < l.length) (u : Value) (W : World), Below w.heap.size w W → VlVal W u l[i] → Calls Tryd.prog g (#[u] ++ lb) W fun e w' => e = .returned (.bool (ok l[i])) ∧ Below W.heap.size W w') :
    Calls Tryd.prog 29 #[v, .func (.func g) #[] lb] w fun e w' => e = .returned (.bool (l.all ok)) ∧ Below w.heap.size w w' := by
  have hC := fun (T : TypeId) => iContainsVl 48 #[.pointer (some ⟨w.heap.size, 0, none⟩)] e_iNotVl (fun x => !ok x) l v (w.alloc (.cells #[.func (.func g) #[] lb] T)) (hR.kept VlEl.st (Kept.alloc _ _))
    (fun i hi u W hW hu => iNotVl g lb eg (ok l[i]) l[i] u w.heap.size W ((hW.cell (p := ⟨w.heap.size, 0, none⟩) (by simp)).trans (by simp)) (Nat.lt_of_lt_of_le (by simp) hW.size) hu
      fun W' hB => hp i hi u W' (below_tr (Joins.below_alloc1 w _) (below_tr hW hB)) (hu.kept (Kept.of_below hB)))
  go_enter Tryd.func29, Tryd.ntmps29
  go_wp2_with (go_at_call 47; refine (hC _).mono ?_; rintro e w1 ⟨rfl, hb⟩)
  go_ret
  exact ⟨ret_bool (by rw [allH_any]), below_tr (Joins.below_alloc1 w _) hb⟩
end Go.Proofs.YtdhpmblhejcehaaDoor
