/- The program's generic helpers at one element type, by program (tools/genfun.py). -/
import Derived.Test.YtkhemdagghlcdaaGreatDoorOkY1
import Derived.Deep.QuietTactic
import Derived.BigQuiet
import Derived.Deep.RegionHeld3
import Derived.Deep.RegionWith
import Derived.Outline
namespace Go.Proofs.YtkhemdagghlcdaaGreatDoor
set_option linter.unusedVariables false
set_option maxRecDepth 100000
open Go.ChangeShapes Go.WideShapes Go.ChangeAt Go.RowKit

/-- A PNode that is handed over. -/
def PNVal (w : World) (v : Value) (x : PN) : Prop := ∃ v3, v = .agg #[.int .i64 x.kind, .int .i64 x.n, .string x.s, v3] ∧ I64 x.kind ∧ I64 x.n ∧ x.s.size ≤ maxLen ∧ RowRd 1 IntEl w v3 x.kids
theorem PNVal.kept {w w' : World} {v : Value} {x : PN} (k : Kept w w') : PNVal w v x → PNVal w' v x := fun ⟨v3, h, f0, f1, f2, f3⟩ => ⟨v3, h, f0, f1, f2, f3.kept IntEl.st k⟩
theorem iIndexPN (g : Nat) (lb : Array Value) (eg : ∀ args w, (callFunc g args).run Tryz.prog w = .ok (.enter g args) w) (ok : PN → Bool) (l : List PN) (v : Value) (w : World) (hR : RowRd 4 PNEl w v l)
    (hp : ∀ i (hi : i < l.length) (u : Value) (W : World), Below w.heap.size w W → PNVal W u l[i] → Calls Tryz.prog g (#[u] ++ lb) W fun e w' => e = .returned (.bool (ok l[i])) ∧ Below W.heap.size W w') :
    Calls Tryz.prog 107 #[v, .func (.func g) #[] lb] w fun e w' => ∃ r : Int, e = .returned (.int .i64 r) ∧ decide (0 ≤ r) = l.any ok ∧ Below w.heap.size w w' := by
  obtain ⟨p, cap, rfl, hm, hR⟩ := hR.form
  unfold maxLen at hm
  go_enter Tryz.func107, Tryz.ntmps107
  go_wp2
  go_loopw [8] (fun i wr => ∃ k : Nat, i = .int .i64 k ∧ k ≤ l.length ∧ (l.take k).any ok = false ∧ Below w.heap.size w wr) (fun i _ => l.length - (intOf i).toNat)
  case atStart => exact ⟨0, rfl, Nat.zero_le _, rfl, Below.refl _ _⟩
  case round =>
    obtain ⟨k, rfl, hk, hno, hbel⟩ := hrel
    have HA := Lib.hid hno
    clear hno
    by_cases hlt : k < l.length
    · obtain ⟨b, o, rfl, hbw, hc⟩ := hR (by omega)
      have ex := PNEl.st w wr b _ _ (Kept.of_below hbel) hbw (hc k hlt)
      have hpk := fun u => hp k hlt u wr hbel
      have HY := Lib.hid (fun (h : ok l[k] = true) => any_yes ok l k hlt h)
      have HN := Lib.hid (fun (h : ok l[k] = false) => any_snoc ok l k hlt HA.out h)
      clear hc hR hp
      generalize l[k] = x at *
      obtain ⟨⟨e0, i0⟩, ⟨e1, i1⟩, ⟨e2, i2⟩, ⟨v3, e3, r3⟩⟩ := ex
      have hp1 := hpk _ ⟨v3, rfl, i0, i1, i2, r3⟩
      clear hpk
      generalize hx : ok x = t at *
      cases t
      · have HN2 := Lib.hid (HN.out rfl)
        clear HN HY
        go_wp2_with (go_at_fn g; refine hp1.mono ?_; rintro e w1 ⟨rfl, hb⟩)
        go_roundw
        case rel => exact ⟨k + 1, by go_num, by omega, HN2.out, below_tr hbel hb⟩
        case measure => simp [intOf]; omega
      · have HY2 := Lib.hid (HY.out rfl)
        clear HN HY
        go_wp2_with (go_at_fn g; refine hp1.mono ?_; rintro e w1 ⟨rfl, hb⟩)
        go_ret
        exact ⟨_, rfl, by rw [HY2.out]; simp, below_tr hbel hb⟩
    · obtain rfl : k = l.length := by omega
      rw [List.take_length] at HA
      go_wp2
      go_ret
      exact ⟨_, rfl, by rw [HA.out]; rfl, hbel⟩
theorem iContainsPN (g : Nat) (lb : Array Value) (eg : ∀ args w, (callFunc g args).run Tryz.prog w = .ok (.enter g args) w) (ok : PN → Bool) (l : List PN) (v : Value) (w : World) (hR : RowRd 4 PNEl w v l)
    (hp : ∀ i (hi : i < l.length) (u : Value) (W : World), Below w.heap.size w W → PNVal W u l[i] → Calls Tryz.prog g (#[u] ++ lb) W fun e w' => e = .returned (.bool (ok l[i])) ∧ Below W.heap.size W w') :
    Calls Tryz.prog 91 #[v, .func (.func g) #[] lb] w fun e w' => e = .returned (.bool (l.any ok)) ∧ Below w.heap.size w w' := by
  have hI := iIndexPN g lb eg ok l v w hR hp
  go_enter Tryz.func91, Tryz.ntmps91
  go_wp2_with (go_at_call 107; refine hI.mono ?_; rintro e w1 ⟨r, rfl, hr, hb⟩)
  go_ret
  refine ⟨ret_bool ?_, hb⟩
  rw [← hr]
theorem iNotPN (g : Nat) (lb : Array Value) (eg : ∀ args w, (callFunc g args).run Tryz.prog w = .ok (.enter g args) w) (r : Bool) (x : PN) (u : Value) (bo : Nat) (w : World) (hc : w.cell? ⟨bo, 0, none⟩ = some (.func (.func g) #[] lb)) (hbo : bo < w.heap.size) (hu : PNVal w u x)
    (hp : ∀ W, Below w.heap.size w W → Calls Tryz.prog g (#[u] ++ lb) W fun e w' => e = .returned (.bool r) ∧ Below W.heap.size W w') :
    Calls Tryz.prog 92 #[u, .pointer (some ⟨bo, 0, none⟩)] w fun e w' => e = .returned (.bool (!r)) ∧ Below w.heap.size w w' := by
  obtain ⟨v3, rfl, _, _, _, _⟩ := hu
  have hp1 := hp _ (Joins.below_alloc1 w (.cells #[.int .i64 x.kind, .int .i64 x.n, .string x.s, v3] 85))
  have hne : w.heap.size ≠ bo := by omega
  go_enter Tryz.func92, Tryz.ntmps92
  go_wp2_with (go_at_fn g; refine hp1.mono ?_; rintro e w1 ⟨rfl, hb⟩)
  go_ret
  exact ⟨rfl, below_tr (Joins.below_alloc1 w _) hb⟩
theorem e_iNotPN : ∀ args w, (callFunc 92 args).run Tryz.prog w = .ok (.enter 92 args) w := enters_of Tryz.func92 (by kernel_rfl) rfl
theorem iEveryPN (g : Nat) (lb : Array Value) (eg : ∀ args w, (callFunc g args).run Tryz.prog w = .ok (.enter g args) w) (ok : PN → Bool) (l : List PN) (v : Value) (w : World) (hR : RowRd 4 PNEl w v l)
    (hp : ∀ i (hi : i < l.length) (u : Value) (W : World), Below w.heap.size w W → PNVal W u l[i] → Calls Tryz.prog g (#[u] ++ lb) W fun e w' => e = .returned (.bool (ok l[i])) ∧ Below W.heap.size W w') :
    Calls Tryz.prog 68 #[v, .func (.func g) #[] lb] w fun e w' => e = .returned (.bool (l.all ok)) ∧ Below w.heap.size w w' := by
  have hC := fun (T : TypeId) => iContainsPN 92 #[.pointer (some ⟨w.heap.size, 0, none⟩)] e_iNotPN (fun x => !ok x) l v (w.alloc (.cells #[.func (.func g) #[] lb] T)) (hR.kept PNEl.st (Kept.alloc _ _))
    (fun i hi u W hW hu => iNotPN g lb eg (ok l[i]) l[i] u w.heap.size W ((hW.cell (p := ⟨w.heap.size, 0, none⟩) (by simp)).trans (by simp)) (Nat.lt_of_lt_of_le (by simp) hW.size) hu
      fun W' hB => hp i hi u W' (below_tr (Joins.below_alloc1 w _) (below_tr hW hB)) (hu.kept (Kept.of_below hB)))
  go_enter Tryz.func68, Tryz.ntmps68
  go_wp2_with (go_at_call 91; refine (hC _).mono ?_; rintro e w1 ⟨rfl, hb⟩)
  go_ret
  exact ⟨ret_bool (by rw [all_any]), below_tr (Joins.below_alloc1 w _) hb⟩
theorem iMapPN (g : Nat) (lb : Array Value) (eg : ∀ args w, (callFunc g args).run Tryz.prog w = .ok (.enter g args) w) (f : PN → Int) (l : List PN) (v : Value) (w : World) (hR : RowRd 4 PNEl w v l) (hl : l.length ≤ 1048576) (hI : ∀ x ∈ l, I64 (f x))
    (hp : ∀ i (hi : i < l.length) (u : Value) (W : World), Below w.heap.size w W → PNVal W u l[i] → Calls Tryz.prog g (#[u] ++ lb) W fun e w' => e = .returned (.int .i64 (f l[i])) ∧ Below W.heap.size W w') :
    Calls Tryz.prog 87 #[v, .func (.func g) #[] lb] w fun e w' => ∃ v', e = .returned v' ∧ RowRd 1 IntEl w' v' (l.map f) ∧ Below w.heap.size w w' := by
  obtain ⟨p, cap, rfl, hm, hR⟩ := hR.form
  unfold maxLen at hm
  obtain ⟨ii, hi, hz0, hz1, hz2⟩ := info_parts info_int
  obtain ⟨w0, hmk, hown0, hgr0⟩ := run_make_own (P := Tryz.prog) w w.heap.size 83 3 ii (.int .i64 0) 1 Tryz.underlying83 hi hz0 hz1 .i64 .i64 l.length (by rw [hz2]; omega) (by unfold maxLen; omega) (Nat.le_refl _)
  have hb0 : Below w.heap.size w w0 := (Below.refl _ _).grown hgr0 (Nat.le_refl _) (fun k hk => by simp at hk)
  have hI' : ∀ x ∈ l.map f, I64 x := by
    intro x hx
    obtain ⟨y, hy, rfl⟩ := List.mem_map.1 hx
    exact hI y hy
  go_enter Tryz.func87, Tryz.ntmps87
  go_wp2
  go_loopw [5, 13] (fun nx i wr => ∃ k : Nat, i = .int .i64 k ∧ k ≤ l.length ∧ wr.ownsRow w.heap.size 3 1 nx ((l.take k).map f).length (ic ((l.take k).map f)) ∧ Below w.heap.size w wr ∧ w.heap.size ≤ wr.heap.size) (fun _ i _ => l.length - (intOf i).toNat)
  case atStart => exact ⟨0, rfl, Nat.zero_le _, hown0, hb0, hb0.size⟩
  case round =>
    obtain ⟨k, rfl, hk, hown, hbel, hsz⟩ := hrel
    have hlen : ((l.take k).map f).length = k := by simp; omega
    by_cases hlt : k < l.length
    · obtain ⟨b, o, rfl, hbw, hc⟩ := hR (by omega)
      have ex := PNEl.st w wr b _ _ (Kept.of_below hbel) hbw (hc k hlt)
      have HT := Lib.hid (take_map_succ f l k hlt)
      have hpk := hp k hlt
      clear hc hR hmk hown0 hgr0 hb0 hp hI hI'
      generalize l[k] = x at *
      obtain ⟨⟨e0, i0⟩, ⟨e1, i1⟩, ⟨e2, i2⟩, ⟨v3, e3, r3⟩⟩ := ex
      obtain ⟨p3, c3, rfl, m3, -⟩ := r3.form
      have hag := hpk _ (wr.alloc (.cells #[.int .i64 x.kind, .int .i64 x.n, .string x.s, .slice p3 x.kids.length c3] 85)) (below_tr hbel (Joins.below_alloc1 wr _)) (PNVal.kept (Kept.alloc wr _) ⟨_, rfl, i0, i1, i2, r3⟩)
      clear hpk
      generalize f x = fx at *
      go_wp2_with (first
        | (go_at_fn g; refine hag.mono ?_; rintro e w1 ⟨rfl, hb⟩; have hb1 := below_tr (Joins.below_alloc1 wr _) hb; have hown1 := own_below hown hb1; have hbel1 := below_tr hbel hb1; have hsz1 := Nat.le_trans hsz hb1.size)
        | (at_builtin; refine wpList_append_own _ rfl (.tmp 17) (.tmp 21) 83 rfl w.heap.size 3 ii (.int .i64 0) 1 8 Tryz.underlying83 hi hz0 hz1 hz2 rfl (by decide) _ ((l.take k).map f).length (ic ((l.take k).map f)) rfl (hown1.alloc _) ⟨w1.heap.size, 0, none⟩ 1 1 [.int .i64 fx] rfl rfl (new_cells _ _ _ _ rfl) (ic_one [fx]) (by unfold maxLen; omega) (by omega) (by simp; omega) ?_; intro v' w2 hown' hgrow _))
      have R := own_app hown1 hbel1 (Nat.le_refl _) hsz1 hgrow
      have O := own_i rfl rfl (l' := [fx]) rfl rfl hown'
      clear hown hown1 hown' hgrow hbel hbel1
      go_roundw
      case rel => exact ⟨k + 1, by go_num, by omega, by rw [HT.out]; exact O, R.1, R.2⟩
      case measure => simp [intOf]; omega
    · obtain rfl : k = l.length := by omega
      rw [List.take_length] at hown
      clear hR hmk hown0 hgr0 hb0 hp
      go_wp2
      go_ret
      exact ⟨_, rfl, own_rd hown (by simp; unfold maxLen; omega) hI', hbel⟩
end Go.Proofs.YtkhemdagghlcdaaGreatDoor
