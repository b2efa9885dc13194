/- Texts of this proof, merged: FnPat, FnCn, FnNd, FnTp, EqFn, EqSl, Same, OkY2. -/
import Derived.Test.YtaibgnfjjbncpaaGreatM4
import Derived.Deep.QuietTactic
import Derived.BigQuiet
import Derived.Deep.RegionHeld3
import Derived.Deep.RegionWith
import Derived.Outline
import Derived.RegionTactic
namespace Go.Proofs.YtaibgnfjjbncpaaGreat
set_option linter.unusedVariables false
set_option maxRecDepth 100000
open Go.ChangeShapes Go.WideShapes Go.ChangeAt Go.RowKit

/-- A Pat that is handed over. -/
def PatVal (w : World) (v : Value) (x : List PN) : Prop := ∃ v0, v = .agg #[v0] ∧ RowRd 4 PNEl w v0 x
theorem PatVal.kept {w w' : World} {v : Value} {x : List PN} (k : Kept w w') : PatVal w v x → PatVal w' v x := fun ⟨v0, h, f0⟩ => ⟨v0, h, f0.kept PNEl.st k⟩
theorem iIndexPat (g : Nat) (lb : Array Value) (eg : ∀ args w, (callFunc g args).run Tryz.prog w = .ok (.enter g args) w) (ok : List PN → Bool) (l : List (List PN)) (v : Value) (w : World) (hR : RowRd 1 PatEl w v l)
    (hp : ∀ i (hi : i < l.length) (u : Value) (W : World), Below w.heap.size w W → PatVal W u l[i] → Calls Tryz.prog g (#[u] ++ lb) W fun e w' => e = .returned (.bool (ok l[i])) ∧ Below W.heap.size W w') :
    Calls Tryz.prog 144 #[v, .func (.func g) #[] lb] w fun e w' => ∃ r : Int, e = .returned (.int .i64 r) ∧ decide (0 ≤ r) = l.any ok ∧ Below w.heap.size w w' := by
  obtain ⟨p, cap, rfl, hm, hR⟩ := hR.form
  unfold maxLen at hm
  go_enter Tryz.func144, Tryz.ntmps144
  go_wp2
  go_loopw [8] (fun i wr => ∃ k : Nat, i = .int .i64 k ∧ k ≤ l.length ∧ (l.take k).any ok = false ∧ Below w.heap.size w wr) (fun i _ => l.length - (intOf i).toNat)
  case atStart => exact ⟨0, rfl, Nat.zero_le _, rfl, Below.refl _ _⟩
  case round =>
    obtain ⟨k, rfl, hk, hno, hbel⟩ := hrel
    have HA := Lib.hid hno
    clear hno
    by_cases hlt : k < l.length
    · obtain ⟨b, o, rfl, hbw, hc⟩ := hR (by omega)
      have ex := PatEl.st w wr b _ _ (Kept.of_below hbel) hbw (hc k hlt)
      rw [Nat.mul_one] at ex
      have hpk := fun u => hp k hlt u wr hbel
      have HY := Lib.hid (fun (h : ok l[k] = true) => any_yes ok l k hlt h)
      have HN := Lib.hid (fun (h : ok l[k] = false) => any_snoc ok l k hlt HA.out h)
      clear hc hR hp
      generalize l[k] = x at *
      obtain ⟨v0, e0, r0⟩ := ex
      have hp1 := hpk _ ⟨v0, rfl, r0⟩
      clear hpk
      generalize hx : ok x = t at *
      cases t
      · have HN2 := Lib.hid (HN.out rfl)
        clear HN HY
        go_wp2_with (go_at_fn g; refine hp1.mono ?_; rintro e w1 ⟨rfl, hb⟩)
        go_roundw
        case rel => exact ⟨k + 1, by go_num, by omega, HN2.out, below_tr hbel hb⟩
        case measure => simp [intOf]; omega
      · have HY2 := Lib.hid (HY.out rfl)
        clear HN HY
        go_wp2_with (go_at_fn g; refine hp1.mono ?_; rintro e w1 ⟨rfl, hb⟩)
        go_ret
        exact ⟨_, rfl, by rw [HY2.out]; simp, below_tr hbel hb⟩
    · obtain rfl : k = l.length := by omega
      rw [List.take_length] at HA
      go_wp2
      go_ret
      exact ⟨_, rfl, by rw [HA.out]; rfl, hbel⟩
theorem iContainsPat (g : Nat) (lb : Array Value) (eg : ∀ args w, (callFunc g args).run Tryz.prog w = .ok (.enter g args) w) (ok : List PN → Bool) (l : List (List PN)) (v : Value) (w : World) (hR : RowRd 1 PatEl w v l)
    (hp : ∀ i (hi : i < l.length) (u : Value) (W : World), Below w.heap.size w W → PatVal W u l[i] → Calls Tryz.prog g (#[u] ++ lb) W fun e w' => e = .returned (.bool (ok l[i])) ∧ Below W.heap.size W w') :
    Calls Tryz.prog 121 #[v, .func (.func g) #[] lb] w fun e w' => e = .returned (.bool (l.any ok)) ∧ Below w.heap.size w w' := by
  have hI := iIndexPat g lb eg ok l v w hR hp
  go_enter Tryz.func121, Tryz.ntmps121
  go_wp2_with (go_at_call 144; refine hI.mono ?_; rintro e w1 ⟨r, rfl, hr, hb⟩)
  go_ret
  refine ⟨ret_bool ?_, hb⟩
  rw [← hr]
theorem iNotPat (g : Nat) (lb : Array Value) (eg : ∀ args w, (callFunc g args).run Tryz.prog w = .ok (.enter g args) w) (r : Bool) (x : List PN) (u : Value) (bo : Nat) (w : World) (hc : w.cell? ⟨bo, 0, none⟩ = some (.func (.func g) #[] lb)) (hbo : bo < w.heap.size) (hu : PatVal w u x)
    (hp : ∀ W, Below w.heap.size w W → Calls Tryz.prog g (#[u] ++ lb) W fun e w' => e = .returned (.bool r) ∧ Below W.heap.size W w') :
    Calls Tryz.prog 122 #[u, .pointer (some ⟨bo, 0, none⟩)] w fun e w' => e = .returned (.bool (!r)) ∧ Below w.heap.size w w' := by
  obtain ⟨v0, rfl, _⟩ := hu
  have hp1 := hp _ (Joins.below_alloc1 w (.cells #[v0] 87))
  have hne : w.heap.size ≠ bo := by omega
  go_enter Tryz.func122, Tryz.ntmps122
  go_wp2_with (go_at_fn g; refine hp1.mono ?_; rintro e w1 ⟨rfl, hb⟩)
  go_ret
  exact ⟨rfl, below_tr (Joins.below_alloc1 w _) hb⟩
theorem e_iNotPat : ∀ args w, (callFunc 122 args).run Tryz.prog w = .ok (.enter 122 args) w := enters_of Tryz.func122 (by kernel_rfl) rfl
theorem iEveryPat (g : Nat) (lb : Array Value) (eg : ∀ args w, (callFunc g args).run Tryz.prog w = .ok (.enter g args) w) (ok : List PN → Bool) (l : List (List PN)) (v : Value) (w : World) (hR : RowRd 1 PatEl w v l)
    (hp : ∀ i (hi : i < l.length) (u : Value) (W : World), Below w.heap.size w W → PatVal W u l[i] → Calls Tryz.prog g (#[u] ++ lb) W fun e w' => e = .returned (.bool (ok l[i])) ∧ Below W.heap.size W w') :
    Calls Tryz.prog 102 #[v, .func (.func g) #[] lb] w fun e w' => e = .returned (.bool (l.all ok)) ∧ Below w.heap.size w w' := by
  have hC := fun (T : TypeId) => iContainsPat 122 #[.pointer (some ⟨w.heap.size, 0, none⟩)] e_iNotPat (fun x => !ok x) l v (w.alloc (.cells #[.func (.func g) #[] lb] T)) (hR.kept PatEl.st (Kept.alloc _ _))
    (fun i hi u W hW hu => iNotPat g lb eg (ok l[i]) l[i] u w.heap.size W ((hW.cell (p := ⟨w.heap.size, 0, none⟩) (by simp)).trans (by simp)) (Nat.lt_of_lt_of_le (by simp) hW.size) hu
      fun W' hB => hp i hi u W' (below_tr (Joins.below_alloc1 w _) (below_tr hW hB)) (hu.kept (Kept.of_below hB)))
  go_enter Tryz.func102, Tryz.ntmps102
  go_wp2_with (go_at_call 121; refine (hC _).mono ?_; rintro e w1 ⟨rfl, hb⟩)
  go_ret
  exact ⟨ret_bool (by rw [all_any]), below_tr (Joins.below_alloc1 w _) hb⟩
end Go.Proofs.YtaibgnfjjbncpaaGreat
namespace Go.Proofs.YtaibgnfjjbncpaaGreat
set_option linter.unusedVariables false
set_option maxRecDepth 100000
open Go.ChangeShapes Go.WideShapes Go.ChangeAt Go.RowKit

/-- A Con that is handed over. -/
def CnVal (w : World) (v : Value) (x : Cn) : Prop := ∃ v2, v = .agg #[.string x.name, .bool x.has, v2] ∧ x.name.size ≤ maxLen ∧ RowRd 3 TyIEl w v2 x.arg
theorem CnVal.kept {w w' : World} {v : Value} {x : Cn} (k : Kept w w') : CnVal w v x → CnVal w' v x := fun ⟨v2, h, f0, f1⟩ => ⟨v2, h, f0, f1.kept TyIEl.st k⟩
theorem iIndexCn (g : Nat) (lb : Array Value) (eg : ∀ args w, (callFunc g args).run Tryz.prog w = .ok (.enter g args) w) (ok : Cn → Bool) (l : List Cn) (v : Value) (w : World) (hR : RowRd 3 CnEl w v l)
    (hp : ∀ i (hi : i < l.length) (u : Value) (W : World), Below w.heap.size w W → CnVal W u l[i] → Calls Tryz.prog g (#[u] ++ lb) W fun e w' => e = .returned (.bool (ok l[i])) ∧ Below W.heap.size W w') :
    Calls Tryz.prog 137 #[v, .func (.func g) #[] lb] w fun e w' => ∃ r : Int, e = .returned (.int .i64 r) ∧ decide (0 ≤ r) = l.any ok ∧ Below w.heap.size w w' := by
  obtain ⟨p, cap, rfl, hm, hR⟩ := hR.form
  unfold maxLen at hm
  go_enter Tryz.func137, Tryz.ntmps137
  go_wp2
  go_loopw [8] (fun i wr => ∃ k : Nat, i = .int .i64 k ∧ k ≤ l.length ∧ (l.take k).any ok = false ∧ Below w.heap.size w wr) (fun i _ => l.length - (intOf i).toNat)
  case atStart => exact ⟨0, rfl, Nat.zero_le _, rfl, Below.refl _ _⟩
  case round =>
    obtain ⟨k, rfl, hk, hno, hbel⟩ := hrel
    have HA := Lib.hid hno
    clear hno
    by_cases hlt : k < l.length
    · obtain ⟨b, o, rfl, hbw, hc⟩ := hR (by omega)
      have ex := CnEl.st w wr b _ _ (Kept.of_below hbel) hbw (hc k hlt)
      have hpk := fun u => hp k hlt u wr hbel
      have HY := Lib.hid (fun (h : ok l[k] = true) => any_yes ok l k hlt h)
      have HN := Lib.hid (fun (h : ok l[k] = false) => any_snoc ok l k hlt HA.out h)
      clear hc hR hp
      generalize l[k] = x at *
      obtain ⟨⟨e0, i0⟩, e1, ⟨v2, e2, r2⟩⟩ := ex
      unfold BoolEl at e1
      have hp1 := hpk _ ⟨v2, rfl, i0, r2⟩
      clear hpk
      generalize hx : ok x = t at *
      cases t
      · have HN2 := Lib.hid (HN.out rfl)
        clear HN HY
        go_wp2_with (go_at_fn g; refine hp1.mono ?_; rintro e w1 ⟨rfl, hb⟩)
        go_roundw
        case rel => exact ⟨k + 1, by go_num, by omega, HN2.out, below_tr hbel hb⟩
        case measure => simp [intOf]; omega
      · have HY2 := Lib.hid (HY.out rfl)
        clear HN HY
        go_wp2_with (go_at_fn g; refine hp1.mono ?_; rintro e w1 ⟨rfl, hb⟩)
        go_ret
        exact ⟨_, rfl, by rw [HY2.out]; simp, below_tr hbel hb⟩
    · obtain rfl : k = l.length := by omega
      rw [List.take_length] at HA
      go_wp2
      go_ret
      exact ⟨_, rfl, by rw [HA.out]; rfl, hbel⟩
theorem iContainsCn (g : Nat) (lb : Array Value) (eg : ∀ args w, (callFunc g args).run Tryz.prog w = .ok (.enter g args) w) (ok : Cn → Bool) (l : List Cn) (v : Value) (w : World) (hR : RowRd 3 CnEl w v l)
    (hp : ∀ i (hi : i < l.length) (u : Value) (W : World), Below w.heap.size w W → CnVal W u l[i] → Calls Tryz.prog g (#[u] ++ lb) W fun e w' => e = .returned (.bool (ok l[i])) ∧ Below W.heap.size W w') :
    Calls Tryz.prog 112 #[v, .func (.func g) #[] lb] w fun e w' => e = .returned (.bool (l.any ok)) ∧ Below w.heap.size w w' := by
  have hI := iIndexCn g lb eg ok l v w hR hp
  go_enter Tryz.func112, Tryz.ntmps112
  go_wp2_with (go_at_call 137; refine hI.mono ?_; rintro e w1 ⟨r, rfl, hr, hb⟩)
  go_ret
  refine ⟨ret_bool ?_, hb⟩
  rw [← hr]
theorem iNotCn (g : Nat) (lb : Array Value) (eg : ∀ args w, (callFunc g args).run Tryz.prog w = .ok (.enter g args) w) (r : Bool) (x : Cn) (u : Value) (bo : Nat) (w : World) (hc : w.cell? ⟨bo, 0, none⟩ = some (.func (.func g) #[] lb)) (hbo : bo < w.heap.size) (hu : CnVal w u x)
    (hp : ∀ W, Below w.heap.size w W → Calls Tryz.prog g (#[u] ++ lb) W fun e w' => e = .returned (.bool r) ∧ Below W.heap.size W w') :
    Calls Tryz.prog 113 #[u, .pointer (some ⟨bo, 0, none⟩)] w fun e w' => e = .returned (.bool (!r)) ∧ Below w.heap.size w w' := by
  obtain ⟨v2, rfl, _, _⟩ := hu
  have hp1 := hp _ (Joins.below_alloc1 w (.cells #[.string x.name, .bool x.has, v2] 66))
  have hne : w.heap.size ≠ bo := by omega
  go_enter Tryz.func113, Tryz.ntmps113
  go_wp2_with (go_at_fn g; refine hp1.mono ?_; rintro e w1 ⟨rfl, hb⟩)
  go_ret
  exact ⟨rfl, below_tr (Joins.below_alloc1 w _) hb⟩
theorem e_iNotCn : ∀ args w, (callFunc 113 args).run Tryz.prog w = .ok (.enter 113 args) w := enters_of Tryz.func113 (by kernel_rfl) rfl
theorem iEveryCn (g : Nat) (lb : Array Value) (eg : ∀ args w, (callFunc g args).run Tryz.prog w = .ok (.enter g args) w) (ok : Cn → Bool) (l : List Cn) (v : Value) (w : World) (hR : RowRd 3 CnEl w v l)
    (hp : ∀ i (hi : i < l.length) (u : Value) (W : World), Below w.heap.size w W → CnVal W u l[i] → Calls Tryz.prog g (#[u] ++ lb) W fun e w' => e = .returned (.bool (ok l[i])) ∧ Below W.heap.size W w') :
    Calls Tryz.prog 76 #[v, .func (.func g) #[] lb] w fun e w' => e = .returned (.bool (l.all ok)) ∧ Below w.heap.size w w' := by
  have hC := fun (T : TypeId) => iContainsCn 113 #[.pointer (some ⟨w.heap.size, 0, none⟩)] e_iNotCn (fun x => !ok x) l v (w.alloc (.cells #[.func (.func g) #[] lb] T)) (hR.kept CnEl.st (Kept.alloc _ _))
    (fun i hi u W hW hu => iNotCn g lb eg (ok l[i]) l[i] u w.heap.size W ((hW.cell (p := ⟨w.heap.size, 0, none⟩) (by simp)).trans (by simp)) (Nat.lt_of_lt_of_le (by simp) hW.size) hu
      fun W' hB => hp i hi u W' (below_tr (Joins.below_alloc1 w _) (below_tr hW hB)) (hu.kept (Kept.of_below hB)))
  go_enter Tryz.func76, Tryz.ntmps76
  go_wp2_with (go_at_call 112; refine (hC _).mono ?_; rintro e w1 ⟨rfl, hb⟩)
  go_ret
  exact ⟨ret_bool (by rw [all_any]), below_tr (Joins.below_alloc1 w _) hb⟩
end Go.Proofs.YtaibgnfjjbncpaaGreat
namespace Go.Proofs.YtaibgnfjjbncpaaGreat
set_option linter.unusedVariables false
set_option maxRecDepth 100000
open Go.ChangeShapes Go.WideShapes Go.ChangeAt Go.RowKit

/-- A Node that is handed over. -/
def NdVal (w : World) (v : Value) (x : Nd) : Prop := ∃ v4 v5, v = .agg #[.int .i64 x.kind, .int .i64 x.at_, .int .i64 x.n, .string x.s, v4, v5] ∧ I64 x.kind ∧ I64 x.at_ ∧ I64 x.n ∧ x.s.size ≤ maxLen ∧ RowRd 1 IntEl w v4 x.kids ∧ RowRd 1 PatEl w v5 x.pats
theorem NdVal.kept {w w' : World} {v : Value} {x : Nd} (k : Kept w w') : NdVal w v x → NdVal w' v x := fun ⟨v4, v5, h, f0, f1, f2, f3, f4, f5⟩ => ⟨v4, v5, h, f0, f1, f2, f3, f4.kept IntEl.st k, f5.kept PatEl.st k⟩
theorem iIndexNd (g : Nat) (lb : Array Value) (eg : ∀ args w, (callFunc g args).run Tryz.prog w = .ok (.enter g args) w) (ok : Nd → Bool) (l : List Nd) (v : Value) (w : World) (hR : RowRd 6 NdEl w v l)
    (hp : ∀ i (hi : i < l.length) (u : Value) (W : World), Below w.heap.size w W → NdVal W u l[i] → Calls Tryz.prog g (#[u] ++ lb) W fun e w' => e = .returned (.bool (ok l[i])) ∧ Below W.heap.size W w') :
    Calls Tryz.prog 114 #[v, .func (.func g) #[] lb] w fun e w' => ∃ r : Int, e = .returned (.int .i64 r) ∧ decide (0 ≤ r) = l.any ok ∧ Below w.heap.size w w' := by
  obtain ⟨p, cap, rfl, hm, hR⟩ := hR.form
  unfold maxLen at hm
  go_enter Tryz.func114, Tryz.ntmps114
  go_wp2
  go_loopw [8] (fun i wr => ∃ k : Nat, i = .int .i64 k ∧ k ≤ l.length ∧ (l.take k).any ok = false ∧ Below w.heap.size w wr) (fun i _ => l.length - (intOf i).toNat)
  case atStart => exact ⟨0, rfl, Nat.zero_le _, rfl, Below.refl _ _⟩
  case round =>
    obtain ⟨k, rfl, hk, hno, hbel⟩ := hrel
    have HA := Lib.hid hno
    clear hno
    by_cases hlt : k < l.length
    · obtain ⟨b, o, rfl, hbw, hc⟩ := hR (by omega)
      have ex := NdEl.st w wr b _ _ (Kept.of_below hbel) hbw (hc k hlt)
      have hpk := fun u => hp k hlt u wr hbel
      have HY := Lib.hid (fun (h : ok l[k] = true) => any_yes ok l k hlt h)
      have HN := Lib.hid (fun (h : ok l[k] = false) => any_snoc ok l k hlt HA.out h)
      clear hc hR hp
      generalize l[k] = x at *
      obtain ⟨⟨e0, i0⟩, ⟨e1, i1⟩, ⟨e2, i2⟩, ⟨e3, i3⟩, ⟨v4, e4, r4⟩, ⟨v5, e5, r5⟩⟩ := ex
      have hp1 := hpk _ ⟨v4, v5, rfl, i0, i1, i2, i3, r4, r5⟩
      clear hpk
      generalize hx : ok x = t at *
      cases t
      · have HN2 := Lib.hid (HN.out rfl)
        clear HN HY
        go_wp2_with (go_at_fn g; refine hp1.mono ?_; rintro e w1 ⟨rfl, hb⟩)
        go_roundw
        case rel => exact ⟨k + 1, by go_num, by omega, HN2.out, below_tr hbel hb⟩
        case measure => simp [intOf]; omega
      · have HY2 := Lib.hid (HY.out rfl)
        clear HN HY
        go_wp2_with (go_at_fn g; refine hp1.mono ?_; rintro e w1 ⟨rfl, hb⟩)
        go_ret
        exact ⟨_, rfl, by rw [HY2.out]; simp, below_tr hbel hb⟩
    · obtain rfl : k = l.length := by omega
      rw [List.take_length] at HA
      go_wp2
      go_ret
      exact ⟨_, rfl, by rw [HA.out]; rfl, hbel⟩
theorem iContainsNd (g : Nat) (lb : Array Value) (eg : ∀ args w, (callFunc g args).run Tryz.prog w = .ok (.enter g args) w) (ok : Nd → Bool) (l : List Nd) (v : Value) (w : World) (hR : RowRd 6 NdEl w v l)
    (hp : ∀ i (hi : i < l.length) (u : Value) (W : World), Below w.heap.size w W → NdVal W u l[i] → Calls Tryz.prog g (#[u] ++ lb) W fun e w' => e = .returned (.bool (ok l[i])) ∧ Below W.heap.size W w') :
    Calls Tryz.prog 81 #[v, .func (.func g) #[] lb] w fun e w' => e = .returned (.bool (l.any ok)) ∧ Below w.heap.size w w' := by
  have hI := iIndexNd g lb eg ok l v w hR hp
  go_enter Tryz.func81, Tryz.ntmps81
  go_wp2_with (go_at_call 114; refine hI.mono ?_; rintro e w1 ⟨r, rfl, hr, hb⟩)
  go_ret
  refine ⟨ret_bool ?_, hb⟩
  rw [← hr]
theorem iNotNd (g : Nat) (lb : Array Value) (eg : ∀ args w, (callFunc g args).run Tryz.prog w = .ok (.enter g args) w) (r : Bool) (x : Nd) (u : Value) (bo : Nat) (w : World) (hc : w.cell? ⟨bo, 0, none⟩ = some (.func (.func g) #[] lb)) (hbo : bo < w.heap.size) (hu : NdVal w u x)
    (hp : ∀ W, Below w.heap.size w W → Calls Tryz.prog g (#[u] ++ lb) W fun e w' => e = .returned (.bool r) ∧ Below W.heap.size W w') :
    Calls Tryz.prog 82 #[u, .pointer (some ⟨bo, 0, none⟩)] w fun e w' => e = .returned (.bool (!r)) ∧ Below w.heap.size w w' := by
  obtain ⟨v4, v5, rfl, _, _, _, _, _, _⟩ := hu
  have hp1 := hp _ (Joins.below_alloc1 w (.cells #[.int .i64 x.kind, .int .i64 x.at_, .int .i64 x.n, .string x.s, v4, v5] 49))
  have hne : w.heap.size ≠ bo := by omega
  go_enter Tryz.func82, Tryz.ntmps82
  go_wp2_with (go_at_fn g; refine hp1.mono ?_; rintro e w1 ⟨rfl, hb⟩)
  go_ret
  exact ⟨rfl, below_tr (Joins.below_alloc1 w _) hb⟩
theorem e_iNotNd : ∀ args w, (callFunc 82 args).run Tryz.prog w = .ok (.enter 82 args) w := enters_of Tryz.func82 (by kernel_rfl) rfl
theorem iEveryNd (g : Nat) (lb : Array Value) (eg : ∀ args w, (callFunc g args).run Tryz.prog w = .ok (.enter g args) w) (ok : Nd → Bool) (l : List Nd) (v : Value) (w : World) (hR : RowRd 6 NdEl w v l)
    (hp : ∀ i (hi : i < l.length) (u : Value) (W : World), Below w.heap.size w W → NdVal W u l[i] → Calls Tryz.prog g (#[u] ++ lb) W fun e w' => e = .returned (.bool (ok l[i])) ∧ Below W.heap.size W w') :
    Calls Tryz.prog 39 #[v, .func (.func g) #[] lb] w fun e w' => e = .returned (.bool (l.all ok)) ∧ Below w.heap.size w w' := by
  have hC := fun (T : TypeId) => iContainsNd 82 #[.pointer (some ⟨w.heap.size, 0, none⟩)] e_iNotNd (fun x => !ok x) l v (w.alloc (.cells #[.func (.func g) #[] lb] T)) (hR.kept NdEl.st (Kept.alloc _ _))
    (fun i hi u W hW hu => iNotNd g lb eg (ok l[i]) l[i] u w.heap.size W ((hW.cell (p := ⟨w.heap.size, 0, none⟩) (by simp)).trans (by simp)) (Nat.lt_of_lt_of_le (by simp) hW.size) hu
      fun W' hB => hp i hi u W' (below_tr (Joins.below_alloc1 w _) (below_tr hW hB)) (hu.kept (Kept.of_below hB)))
  go_enter Tryz.func39, Tryz.ntmps39
  go_wp2_with (go_at_call 81; refine (hC _).mono ?_; rintro e w1 ⟨rfl, hb⟩)
  go_ret
  exact ⟨ret_bool (by rw [all_any]), below_tr (Joins.below_alloc1 w _) hb⟩
theorem iMapNd (g : Nat) (lb : Array Value) (eg : ∀ args w, (callFunc g args).run Tryz.prog w = .ok (.enter g args) w) (f : Nd → Int) (l : List Nd) (v : Value) (w : World) (hR : RowRd 6 NdEl w v l) (hl : l.length ≤ 1048576) (hI : ∀ x ∈ l, I64 (f x))
    (hp : ∀ i (hi : i < l.length) (u : Value) (W : World), Below w.heap.size w W → NdVal W u l[i] → Calls Tryz.prog g (#[u] ++ lb) W fun e w' => e = .returned (.int .i64 (f l[i])) ∧ Below W.heap.size W w') :
    Calls Tryz.prog 77 #[v, .func (.func g) #[] lb] w fun e w' => ∃ v', e = .returned v' ∧ RowRd 1 IntEl w' v' (l.map f) ∧ Below w.heap.size w w' := by
  obtain ⟨p, cap, rfl, hm, hR⟩ := hR.form
  unfold maxLen at hm
  obtain ⟨ii, hi, hz0, hz1, hz2⟩ := info_parts info_int
  obtain ⟨w0, hmk, hown0, hgr0⟩ := run_make_own (P := Tryz.prog) w w.heap.size 46 3 ii (.int .i64 0) 1 Tryz.underlying46 hi hz0 hz1 .i64 .i64 l.length (by rw [hz2]; omega) (by unfold maxLen; omega) (Nat.le_refl _)
  have hb0 : Below w.heap.size w w0 := (Below.refl _ _).grown hgr0 (Nat.le_refl _) (fun k hk => by simp at hk)
  have hI' : ∀ x ∈ l.map f, I64 x := by
    intro x hx
    obtain ⟨y, hy, rfl⟩ := List.mem_map.1 hx
    exact hI y hy
  go_enter Tryz.func77, Tryz.ntmps77
  go_wp2
  go_loopw [5, 13] (fun nx i wr => ∃ k : Nat, i = .int .i64 k ∧ k ≤ l.length ∧ wr.ownsRow w.heap.size 3 1 nx ((l.take k).map f).length (ic ((l.take k).map f)) ∧ Below w.heap.size w wr ∧ w.heap.size ≤ wr.heap.size) (fun _ i _ => l.length - (intOf i).toNat)
  case atStart => exact ⟨0, rfl, Nat.zero_le _, hown0, hb0, hb0.size⟩
  case round =>
    obtain ⟨k, rfl, hk, hown, hbel, hsz⟩ := hrel
    have hlen : ((l.take k).map f).length = k := by simp; omega
    by_cases hlt : k < l.length
    · obtain ⟨b, o, rfl, hbw, hc⟩ := hR (by omega)
      have ex := NdEl.st w wr b _ _ (Kept.of_below hbel) hbw (hc k hlt)
      have HT := Lib.hid (take_map_succ f l k hlt)
      have hpk := hp k hlt
      clear hc hR hmk hown0 hgr0 hb0 hp hI hI'
      generalize l[k] = x at *
      obtain ⟨⟨e0, i0⟩, ⟨e1, i1⟩, ⟨e2, i2⟩, ⟨e3, i3⟩, ⟨v4, e4, r4⟩, ⟨v5, e5, r5⟩⟩ := ex
      obtain ⟨p4, c4, rfl, m4, -⟩ := r4.form
      obtain ⟨p5, c5, rfl, m5, -⟩ := r5.form
      have hag := hpk _ (wr.alloc (.cells #[.int .i64 x.kind, .int .i64 x.at_, .int .i64 x.n, .string x.s, .slice p4 x.kids.length c4, .slice p5 x.pats.length c5] 49)) (below_tr hbel (Joins.below_alloc1 wr _)) (NdVal.kept (Kept.alloc wr _) ⟨_, _, rfl, i0, i1, i2, i3, r4, r5⟩)
      clear hpk
      generalize f x = fx at *
      go_wp2_with (first
        | (go_at_fn g; refine hag.mono ?_; rintro e w1 ⟨rfl, hb⟩; have hb1 := below_tr (Joins.below_alloc1 wr _) hb; have hown1 := own_below hown hb1; have hbel1 := below_tr hbel hb1; have hsz1 := Nat.le_trans hsz hb1.size)
        | (at_builtin; refine wpList_append_own _ rfl (.tmp 17) (.tmp 21) 46 rfl w.heap.size 3 ii (.int .i64 0) 1 8 Tryz.underlying46 hi hz0 hz1 hz2 rfl (by decide) _ ((l.take k).map f).length (ic ((l.take k).map f)) rfl (hown1.alloc _) ⟨w1.heap.size, 0, none⟩ 1 1 [.int .i64 fx] rfl rfl (new_cells _ _ _ _ rfl) (ic_one [fx]) (by unfold maxLen; omega) (by omega) (by simp; omega) ?_; intro v' w2 hown' hgrow _))
      have R := own_app hown1 hbel1 (Nat.le_refl _) hsz1 hgrow
      have O := own_i rfl rfl (l' := [fx]) rfl rfl hown'
      clear hown hown1 hown' hgrow hbel hbel1
      go_roundw
      case rel => exact ⟨k + 1, by go_num, by omega, by rw [HT.out]; exact O, R.1, R.2⟩
      case measure => simp [intOf]; omega
    · obtain rfl : k = l.length := by omega
      rw [List.take_length] at hown
      clear hR hmk hown0 hgr0 hb0 hp
      go_wp2
      go_ret
      exact ⟨_, rfl, own_rd hown (by simp; unfold maxLen; omega) hI', hbel⟩
end Go.Proofs.YtaibgnfjjbncpaaGreat
namespace Go.Proofs.YtaibgnfjjbncpaaGreat
set_option linter.unusedVariables false
set_option maxRecDepth 100000
open Go.ChangeShapes Go.WideShapes Go.ChangeAt Go.RowKit

/-- A Type that is handed over. -/
def TpVal (w : World) (v : Value) (x : Tp) : Prop := ∃ v2, v = .agg #[.string x.name, .int .i64 x.params, v2] ∧ x.name.size ≤ maxLen ∧ I64 x.params ∧ RowRd 3 CnEl w v2 x.cons
theorem TpVal.kept {w w' : World} {v : Value} {x : Tp} (k : Kept w w') : TpVal w v x → TpVal w' v x := fun ⟨v2, h, f0, f1, f2⟩ => ⟨v2, h, f0, f1, f2.kept CnEl.st k⟩
theorem iIndexTp (g : Nat) (lb : Array Value) (eg : ∀ args w, (callFunc g args).run Tryz.prog w = .ok (.enter g args) w) (ok : Tp → Bool) (l : List Tp) (v : Value) (w : World) (hR : RowRd 3 TpEl w v l)
    (hp : ∀ i (hi : i < l.length) (u : Value) (W : World), Below w.heap.size w W → TpVal W u l[i] → Calls Tryz.prog g (#[u] ++ lb) W fun e w' => e = .returned (.bool (ok l[i])) ∧ Below W.heap.size W w') :
    Calls Tryz.prog 104 #[v, .func (.func g) #[] lb] w fun e w' => ∃ r : Int, e = .returned (.int .i64 r) ∧ decide (0 ≤ r) = l.any ok ∧ Below w.heap.size w w' := by
  obtain ⟨p, cap, rfl, hm, hR⟩ := hR.form
  unfold maxLen at hm
  go_enter Tryz.func104, Tryz.ntmps104
  go_wp2
  go_loopw [8] (fun i wr => ∃ k : Nat, i = .int .i64 k ∧ k ≤ l.length ∧ (l.take k).any ok = false ∧ Below w.heap.size w wr) (fun i _ => l.length - (intOf i).toNat)
  case atStart => exact ⟨0, rfl, Nat.zero_le _, rfl, Below.refl _ _⟩
  case round =>
    obtain ⟨k, rfl, hk, hno, hbel⟩ := hrel
    have HA := Lib.hid hno
    clear hno
    by_cases hlt : k < l.length
    · obtain ⟨b, o, rfl, hbw, hc⟩ := hR (by omega)
      have ex := TpEl.st w wr b _ _ (Kept.of_below hbel) hbw (hc k hlt)
      have hpk := fun u => hp k hlt u wr hbel
      have HY := Lib.hid (fun (h : ok l[k] = true) => any_yes ok l k hlt h)
      have HN := Lib.hid (fun (h : ok l[k] = false) => any_snoc ok l k hlt HA.out h)
      clear hc hR hp
      generalize l[k] = x at *
      obtain ⟨⟨e0, i0⟩, ⟨e1, i1⟩, ⟨v2, e2, r2⟩⟩ := ex
      have hp1 := hpk _ ⟨v2, rfl, i0, i1, r2⟩
      clear hpk
      generalize hx : ok x = t at *
      cases t
      · have HN2 := Lib.hid (HN.out rfl)
        clear HN HY
        go_wp2_with (go_at_fn g; refine hp1.mono ?_; rintro e w1 ⟨rfl, hb⟩)
        go_roundw
        case rel => exact ⟨k + 1, by go_num, by omega, HN2.out, below_tr hbel hb⟩
        case measure => simp [intOf]; omega
      · have HY2 := Lib.hid (HY.out rfl)
        clear HN HY
        go_wp2_with (go_at_fn g; refine hp1.mono ?_; rintro e w1 ⟨rfl, hb⟩)
        go_ret
        exact ⟨_, rfl, by rw [HY2.out]; simp, below_tr hbel hb⟩
    · obtain rfl : k = l.length := by omega
      rw [List.take_length] at HA
      go_wp2
      go_ret
      exact ⟨_, rfl, by rw [HA.out]; rfl, hbel⟩
theorem iContainsTp (g : Nat) (lb : Array Value) (eg : ∀ args w, (callFunc g args).run Tryz.prog w = .ok (.enter g args) w) (ok : Tp → Bool) (l : List Tp) (v : Value) (w : World) (hR : RowRd 3 TpEl w v l)
    (hp : ∀ i (hi : i < l.length) (u : Value) (W : World), Below w.heap.size w W → TpVal W u l[i] → Calls Tryz.prog g (#[u] ++ lb) W fun e w' => e = .returned (.bool (ok l[i])) ∧ Below W.heap.size W w') :
    Calls Tryz.prog 71 #[v, .func (.func g) #[] lb] w fun e w' => e = .returned (.bool (l.any ok)) ∧ Below w.heap.size w w' := by
  have hI := iIndexTp g lb eg ok l v w hR hp
  go_enter Tryz.func71, Tryz.ntmps71
  go_wp2_with (go_at_call 104; refine hI.mono ?_; rintro e w1 ⟨r, rfl, hr, hb⟩)
  go_ret
  refine ⟨ret_bool ?_, hb⟩
  rw [← hr]
theorem iNotTp (g : Nat) (lb : Array Value) (eg : ∀ args w, (callFunc g args).run Tryz.prog w = .ok (.enter g args) w) (r : Bool) (x : Tp) (u : Value) (bo : Nat) (w : World) (hc : w.cell? ⟨bo, 0, none⟩ = some (.func (.func g) #[] lb)) (hbo : bo < w.heap.size) (hu : TpVal w u x)
    (hp : ∀ W, Below w.heap.size w W → Calls Tryz.prog g (#[u] ++ lb) W fun e w' => e = .returned (.bool r) ∧ Below W.heap.size W w') :
    Calls Tryz.prog 72 #[u, .pointer (some ⟨bo, 0, none⟩)] w fun e w' => e = .returned (.bool (!r)) ∧ Below w.heap.size w w' := by
  obtain ⟨v2, rfl, _, _, _⟩ := hu
  have hp1 := hp _ (Joins.below_alloc1 w (.cells #[.string x.name, .int .i64 x.params, v2] 43))
  have hne : w.heap.size ≠ bo := by omega
  go_enter Tryz.func72, Tryz.ntmps72
  go_wp2_with (go_at_fn g; refine hp1.mono ?_; rintro e w1 ⟨rfl, hb⟩)
  go_ret
  exact ⟨rfl, below_tr (Joins.below_alloc1 w _) hb⟩
theorem e_iNotTp : ∀ args w, (callFunc 72 args).run Tryz.prog w = .ok (.enter 72 args) w := enters_of Tryz.func72 (by kernel_rfl) rfl
theorem iEveryTp (g : Nat) (lb : Array Value) (eg : ∀ args w, (callFunc g args).run Tryz.prog w = .ok (.enter g args) w) (ok : Tp → Bool) (l : List Tp) (v : Value) (w : World) (hR : RowRd 3 TpEl w v l)
    (hp : ∀ i (hi : i < l.length) (u : Value) (W : World), Below w.heap.size w W → TpVal W u l[i] → Calls Tryz.prog g (#[u] ++ lb) W fun e w' => e = .returned (.bool (ok l[i])) ∧ Below W.heap.size W w') :
    Calls Tryz.prog 35 #[v, .func (.func g) #[] lb] w fun e w' => e = .returned (.bool (l.all ok)) ∧ Below w.heap.size w w' := by
  have hC := fun (T : TypeId) => iContainsTp 72 #[.pointer (some ⟨w.heap.size, 0, none⟩)] e_iNotTp (fun x => !ok x) l v (w.alloc (.cells #[.func (.func g) #[] lb] T)) (hR.kept TpEl.st (Kept.alloc _ _))
    (fun i hi u W hW hu => iNotTp g lb eg (ok l[i]) l[i] u w.heap.size W ((hW.cell (p := ⟨w.heap.size, 0, none⟩) (by simp)).trans (by simp)) (Nat.lt_of_lt_of_le (by simp) hW.size) hu
      fun W' hB => hp i hi u W' (below_tr (Joins.below_alloc1 w _) (below_tr hW hB)) (hu.kept (Kept.of_below hB)))
  go_enter Tryz.func35, Tryz.ntmps35
  go_wp2_with (go_at_call 71; refine (hC _).mono ?_; rintro e w1 ⟨rfl, hb⟩)
  go_ret
  exact ⟨ret_bool (by rw [all_any]), below_tr (Joins.below_alloc1 w _) hb⟩
end Go.Proofs.YtaibgnfjjbncpaaGreat
namespace Go.Proofs.YtaibgnfjjbncpaaGreat
set_option linter.unusedVariables false
set_option maxRecDepth 100000
open Go.ChangeShapes Go.WideShapes Go.ChangeAt Go.RowKit

/-- Two lists alike, element by element. -/
def eqF {α : Type} (ok : α → α → Bool) : List α → List α → Bool
  | [], [] => true
  | x :: l, y :: m => ok x y && eqF ok l m
  | _, _ => false
theorem eqF_len {α : Type} (ok : α → α → Bool) : ∀ (l m : List α), m.length ≠ l.length → eqF ok l m = false := by
  intro l
  induction l with
  | nil => intro m h; cases m with
    | nil => simp at h
    | cons y m => rfl
  | cons x l ih => intro m h; cases m with
    | nil => rfl
    | cons y m => simp only [eqF]; rw [ih m (by simpa using h), Bool.and_false]
theorem eqF_step {α : Type} (ok : α → α → Bool) (l m : List α) (k : Nat) (h : k < l.length) (h2 : k < m.length) : eqF ok (l.drop k) (m.drop k) = (ok l[k] m[k] && eqF ok (l.drop (k + 1)) (m.drop (k + 1))) := by
  rw [List.drop_eq_getElem_cons h, List.drop_eq_getElem_cons h2]; rfl
theorem eqF_iff {α β : Type} (ok : α → α → Bool) (f : α → β) : ∀ (l m : List α), (∀ x ∈ l, ∀ y ∈ m, (ok x y = true ↔ f x = f y)) → (eqF ok l m = true ↔ l.map f = m.map f) := by
  intro l
  induction l with
  | nil => intro m h; cases m with
    | nil => simp [eqF]
    | cons y m => simp [eqF]
  | cons x l ih => intro m h; cases m with
    | nil => simp [eqF]
    | cons y m => simp only [eqF, Bool.and_eq_true, List.map_cons, List.cons.injEq]; rw [h x (by simp) y (by simp), ih m (fun x hx y hy => h x (by simp [hx]) y (by simp [hy]))]
set_option maxHeartbeats 4000000 in
theorem iEqFPN (g : Nat) (lb : Array Value) (eg : ∀ args w, (callFunc g args).run Tryz.prog w = .ok (.enter g args) w) (ok : PN → PN → Bool) (l m : List PN) (v v2 : Value) (w : World) (hR : RowRd 4 PNEl w v l) (hR2 : RowRd 4 PNEl w v2 m)
    (hp : ∀ i (hi : i < l.length) (hj : i < m.length) (u u2 : Value) (W : World), Below w.heap.size w W → PNVal W u l[i] → PNVal W u2 m[i] → Calls Tryz.prog g (#[u, u2] ++ lb) W fun e w' => e = .returned (.bool (ok l[i] m[i])) ∧ Below W.heap.size W w') :
    Calls Tryz.prog 84 #[v, v2, .func (.func g) #[] lb] w fun e w' => e = .returned (.bool (eqF ok l m)) ∧ Below w.heap.size w w' := by
  obtain ⟨p, cap, rfl, hm, hR⟩ := hR.form
  obtain ⟨p2, cap2, rfl, hm2, hR2⟩ := hR2.form
  unfold maxLen at hm hm2
  by_cases hl : m.length = l.length
  · have HL := Lib.hid hl
    rw [hl]
    rw [hl] at hm2
    clear hl
    go_enter Tryz.func84, Tryz.ntmps84
    go_wp2
    go_loopw [17] (fun i wr => ∃ k : Nat, i = .int .i64 k ∧ k ≤ l.length ∧ eqF ok (l.drop k) (m.drop k) = eqF ok l m ∧ Below w.heap.size w wr) (fun i _ => l.length - (intOf i).toNat)
    case atStart => exact ⟨0, rfl, Nat.zero_le _, rfl, Below.refl _ _⟩
    case round =>
      obtain ⟨k, rfl, hk, hno, hbel⟩ := hrel
      have HA := Lib.hid hno
      clear hno
      by_cases hlt : k < l.length
      · have hlt2 : k < m.length := by rw [HL.out]; exact hlt
        obtain ⟨b, o, rfl, hbw, hc⟩ := hR (by omega)
        obtain ⟨b2, o2, rfl, hbw2, hc2⟩ := hR2 (by omega)
        have ex := PNEl.st w wr b _ _ (Kept.of_below hbel) hbw (hc k hlt)
        have ex2 := PNEl.st w wr b2 _ _ (Kept.of_below hbel) hbw2 (hc2 k hlt2)
        have hpk := fun u u2 W (hW : Below wr.heap.size wr W) => hp k hlt hlt2 u u2 W (below_tr hbel hW)
        have HS := Lib.hid (eqF_step ok l m k hlt hlt2)
        clear hc hR hp hc2 hR2
        generalize l[k] = x at *
        generalize m[k] = y at *
        clear hlt2
        obtain ⟨⟨e0, i0⟩, ⟨e1, i1⟩, ⟨e2, i2⟩, ⟨v3, e3, r3⟩⟩ := ex
        obtain ⟨⟨e0z, i0z⟩, ⟨e1z, i1z⟩, ⟨e2z, i2z⟩, ⟨v3z, e3z, r3z⟩⟩ := ex2
        have hu : PNVal wr (.agg #[.int .i64 x.kind, .int .i64 x.n, .string x.s, v3]) x := ⟨v3, rfl, i0, i1, i2, r3⟩
        have hu2 : PNVal wr (.agg #[.int .i64 y.kind, .int .i64 y.n, .string y.s, v3z]) y := ⟨v3z, rfl, i0z, i1z, i2z, r3z⟩
        have hp1 := fun W (hW : Below wr.heap.size wr W) => Lib.hid (hpk _ _ W hW (hu.kept (Kept.of_below hW)) (hu2.kept (Kept.of_below hW)))
        clear hpk hu hu2
        obtain ⟨p3, c3, rfl, -, -⟩ := r3.form
        obtain ⟨p3z, c3z, rfl, -, -⟩ := r3z.form
        have hsz := hbel.size
        have hb2 : b2 < wr.heap.size := by omega
        have e0w := fun ob => ((Joins.below_alloc1 wr ob).cell (p := ⟨b2, _, none⟩) hb2).trans e0z
        have e1w := fun ob => ((Joins.below_alloc1 wr ob).cell (p := ⟨b2, _, none⟩) hb2).trans e1z
        have e2w := fun ob => ((Joins.below_alloc1 wr ob).cell (p := ⟨b2, _, none⟩) hb2).trans e2z
        have e3w := fun ob => ((Joins.below_alloc1 wr ob).cell (p := ⟨b2, _, none⟩) hb2).trans e3z
        clear e0z e1z e2z e3z
        generalize hx : ok x y = t at *
        cases t
        · go_wp2_with (go_at_fn g; refine (hp1 _ (below_tr (Joins.below_alloc1 _ _) (Joins.below_alloc1 _ _))).out.mono ?_; rintro e w1 ⟨rfl, hb⟩)
          go_ret
          exact ⟨ret_bool (by rw [← HA.out, HS.out]; simp), below_tr hbel (below_tr (below_tr (Joins.below_alloc1 _ _) (Joins.below_alloc1 _ _)) hb)⟩
        · have HA2 := Lib.hid (show eqF ok (l.drop (k + 1)) (m.drop (k + 1)) = eqF ok l m from by rw [← HA.out, HS.out]; simp)
          go_wp2_with (go_at_fn g; refine (hp1 _ (below_tr (Joins.below_alloc1 _ _) (Joins.below_alloc1 _ _))).out.mono ?_; rintro e w1 ⟨rfl, hb⟩)
          go_roundw
          case rel => exact ⟨k + 1, by go_num, by omega, HA2.out, below_tr hbel (below_tr (below_tr (Joins.below_alloc1 _ _) (Joins.below_alloc1 _ _)) hb)⟩
          case measure => simp [intOf]; omega
      · obtain rfl : k = l.length := by omega
        have HF := Lib.hid (show eqF ok l m = true from by rw [← HA.out, List.drop_eq_nil_of_le (Nat.le_refl _), List.drop_eq_nil_of_le (by rw [HL.out]; exact Nat.le_refl _)]; rfl)
        go_wp2
        go_ret
        exact ⟨ret_bool HF.out.symm, hbel⟩
  · have HF := Lib.hid (eqF_len ok l m hl)
    have h1 : ¬ ((l.length : Int) = (m.length : Int)) := by omega
    have h2 : ¬ (l.length = m.length) := by omega
    clear hR hR2 hp hl
    go_enter Tryz.func84, Tryz.ntmps84
    go_wp2
    go_ret
    exact ⟨ret_bool HF.out.symm, Below.refl _ _⟩
set_option maxHeartbeats 4000000 in
theorem iEqFPat (g : Nat) (lb : Array Value) (eg : ∀ args w, (callFunc g args).run Tryz.prog w = .ok (.enter g args) w) (ok : (List PN) → (List PN) → Bool) (l m : List (List PN)) (v v2 : Value) (w : World) (hR : RowRd 1 PatEl w v l) (hR2 : RowRd 1 PatEl w v2 m)
    (hp : ∀ i (hi : i < l.length) (hj : i < m.length) (u u2 : Value) (W : World), Below w.heap.size w W → PatVal W u l[i] → PatVal W u2 m[i] → Calls Tryz.prog g (#[u, u2] ++ lb) W fun e w' => e = .returned (.bool (ok l[i] m[i])) ∧ Below W.heap.size W w') :
    Calls Tryz.prog 43 #[v, v2, .func (.func g) #[] lb] w fun e w' => e = .returned (.bool (eqF ok l m)) ∧ Below w.heap.size w w' := by
  obtain ⟨p, cap, rfl, hm, hR⟩ := hR.form
  obtain ⟨p2, cap2, rfl, hm2, hR2⟩ := hR2.form
  unfold maxLen at hm hm2
  by_cases hl : m.length = l.length
  · have HL := Lib.hid hl
    rw [hl]
    rw [hl] at hm2
    clear hl
    go_enter Tryz.func43, Tryz.ntmps43
    go_wp2
    go_loopw [17] (fun i wr => ∃ k : Nat, i = .int .i64 k ∧ k ≤ l.length ∧ eqF ok (l.drop k) (m.drop k) = eqF ok l m ∧ Below w.heap.size w wr) (fun i _ => l.length - (intOf i).toNat)
    case atStart => exact ⟨0, rfl, Nat.zero_le _, rfl, Below.refl _ _⟩
    case round =>
      obtain ⟨k, rfl, hk, hno, hbel⟩ := hrel
      have HA := Lib.hid hno
      clear hno
      by_cases hlt : k < l.length
      · have hlt2 : k < m.length := by rw [HL.out]; exact hlt
        obtain ⟨b, o, rfl, hbw, hc⟩ := hR (by omega)
        obtain ⟨b2, o2, rfl, hbw2, hc2⟩ := hR2 (by omega)
        have ex := PatEl.st w wr b _ _ (Kept.of_below hbel) hbw (hc k hlt)
        have ex2 := PatEl.st w wr b2 _ _ (Kept.of_below hbel) hbw2 (hc2 k hlt2)
        rw [Nat.mul_one] at ex ex2
        have hpk := fun u u2 W (hW : Below wr.heap.size wr W) => hp k hlt hlt2 u u2 W (below_tr hbel hW)
        have HS := Lib.hid (eqF_step ok l m k hlt hlt2)
        clear hc hR hp hc2 hR2
        generalize l[k] = x at *
        generalize m[k] = y at *
        clear hlt2
        obtain ⟨v0, e0, r0⟩ := ex
        obtain ⟨v0z, e0z, r0z⟩ := ex2
        have hu : PatVal wr (.agg #[v0]) x := ⟨v0, rfl, r0⟩
        have hu2 : PatVal wr (.agg #[v0z]) y := ⟨v0z, rfl, r0z⟩
        have hp1 := fun W (hW : Below wr.heap.size wr W) => Lib.hid (hpk _ _ W hW (hu.kept (Kept.of_below hW)) (hu2.kept (Kept.of_below hW)))
        clear hpk hu hu2
        obtain ⟨p0, c0, rfl, -, -⟩ := r0.form
        obtain ⟨p0z, c0z, rfl, -, -⟩ := r0z.form
        have hsz := hbel.size
        have hb2 : b2 < wr.heap.size := by omega
        have e0w := fun ob => ((Joins.below_alloc1 wr ob).cell (p := ⟨b2, _, none⟩) hb2).trans e0z
        clear e0z
        generalize hx : ok x y = t at *
        cases t
        · go_wp2_with (go_at_fn g; refine (hp1 _ (below_tr (Joins.below_alloc1 _ _) (Joins.below_alloc1 _ _))).out.mono ?_; rintro e w1 ⟨rfl, hb⟩)
          go_ret
          exact ⟨ret_bool (by rw [← HA.out, HS.out]; simp), below_tr hbel (below_tr (below_tr (Joins.below_alloc1 _ _) (Joins.below_alloc1 _ _)) hb)⟩
        · have HA2 := Lib.hid (show eqF ok (l.drop (k + 1)) (m.drop (k + 1)) = eqF ok l m from by rw [← HA.out, HS.out]; simp)
          go_wp2_with (go_at_fn g; refine (hp1 _ (below_tr (Joins.below_alloc1 _ _) (Joins.below_alloc1 _ _))).out.mono ?_; rintro e w1 ⟨rfl, hb⟩)
          go_roundw
          case rel => exact ⟨k + 1, by go_num, by omega, HA2.out, below_tr hbel (below_tr (below_tr (Joins.below_alloc1 _ _) (Joins.below_alloc1 _ _)) hb)⟩
          case measure => simp [intOf]; omega
      · obtain rfl : k = l.length := by omega
        have HF := Lib.hid (show eqF ok l m = true from by rw [← HA.out, List.drop_eq_nil_of_le (Nat.le_refl _), List.drop_eq_nil_of_le (by rw [HL.out]; exact Nat.le_refl _)]; rfl)
        go_wp2
        go_ret
        exact ⟨ret_bool HF.out.symm, hbel⟩
  · have HF := Lib.hid (eqF_len ok l m hl)
    have h1 : ¬ ((l.length : Int) = (m.length : Int)) := by omega
    have h2 : ¬ (l.length = m.length) := by omega
    clear hR hR2 hp hl
    go_enter Tryz.func43, Tryz.ntmps43
    go_wp2
    go_ret
    exact ⟨ret_bool HF.out.symm, Below.refl _ _⟩
set_option maxHeartbeats 4000000 in
theorem iEqFCn (g : Nat) (lb : Array Value) (eg : ∀ args w, (callFunc g args).run Tryz.prog w = .ok (.enter g args) w) (ok : Cn → Cn → Bool) (l m : List Cn) (v v2 : Value) (w : World) (hR : RowRd 3 CnEl w v l) (hR2 : RowRd 3 CnEl w v2 m)
    (hp : ∀ i (hi : i < l.length) (hj : i < m.length) (u u2 : Value) (W : World), Below w.heap.size w W → CnVal W u l[i] → CnVal W u2 m[i] → Calls Tryz.prog g (#[u, u2] ++ lb) W fun e w' => e = .returned (.bool (ok l[i] m[i])) ∧ Below W.heap.size W w') :
    Calls Tryz.prog 40 #[v, v2, .func (.func g) #[] lb] w fun e w' => e = .returned (.bool (eqF ok l m)) ∧ Below w.heap.size w w' := by
  obtain ⟨p, cap, rfl, hm, hR⟩ := hR.form
  obtain ⟨p2, cap2, rfl, hm2, hR2⟩ := hR2.form
  unfold maxLen at hm hm2
  by_cases hl : m.length = l.length
  · have HL := Lib.hid hl
    rw [hl]
    rw [hl] at hm2
    clear hl
    go_enter Tryz.func40, Tryz.ntmps40
    go_wp2
    go_loopw [17] (fun i wr => ∃ k : Nat, i = .int .i64 k ∧ k ≤ l.length ∧ eqF ok (l.drop k) (m.drop k) = eqF ok l m ∧ Below w.heap.size w wr) (fun i _ => l.length - (intOf i).toNat)
    case atStart => exact ⟨0, rfl, Nat.zero_le _, rfl, Below.refl _ _⟩
    case round =>
      obtain ⟨k, rfl, hk, hno, hbel⟩ := hrel
      have HA := Lib.hid hno
      clear hno
      by_cases hlt : k < l.length
      · have hlt2 : k < m.length := by rw [HL.out]; exact hlt
        obtain ⟨b, o, rfl, hbw, hc⟩ := hR (by omega)
        obtain ⟨b2, o2, rfl, hbw2, hc2⟩ := hR2 (by omega)
        have ex := CnEl.st w wr b _ _ (Kept.of_below hbel) hbw (hc k hlt)
        have ex2 := CnEl.st w wr b2 _ _ (Kept.of_below hbel) hbw2 (hc2 k hlt2)
        have hpk := fun u u2 W (hW : Below wr.heap.size wr W) => hp k hlt hlt2 u u2 W (below_tr hbel hW)
        have HS := Lib.hid (eqF_step ok l m k hlt hlt2)
        clear hc hR hp hc2 hR2
        generalize l[k] = x at *
        generalize m[k] = y at *
        clear hlt2
        obtain ⟨⟨e0, i0⟩, e1, ⟨v2, e2, r2⟩⟩ := ex
        obtain ⟨⟨e0z, i0z⟩, e1z, ⟨v2z, e2z, r2z⟩⟩ := ex2
        unfold BoolEl at e1 e1z
        have hu : CnVal wr (.agg #[.string x.name, .bool x.has, v2]) x := ⟨v2, rfl, i0, r2⟩
        have hu2 : CnVal wr (.agg #[.string y.name, .bool y.has, v2z]) y := ⟨v2z, rfl, i0z, r2z⟩
        have hp1 := fun W (hW : Below wr.heap.size wr W) => Lib.hid (hpk _ _ W hW (hu.kept (Kept.of_below hW)) (hu2.kept (Kept.of_below hW)))
        clear hpk hu hu2
        obtain ⟨p2, c2, rfl, -, -⟩ := r2.form
        obtain ⟨p2z, c2z, rfl, -, -⟩ := r2z.form
        have hsz := hbel.size
        have hb2 : b2 < wr.heap.size := by omega
        have e0w := fun ob => ((Joins.below_alloc1 wr ob).cell (p := ⟨b2, _, none⟩) hb2).trans e0z
        have e1w := fun ob => ((Joins.below_alloc1 wr ob).cell (p := ⟨b2, _, none⟩) hb2).trans e1z
        have e2w := fun ob => ((Joins.below_alloc1 wr ob).cell (p := ⟨b2, _, none⟩) hb2).trans e2z
        clear e0z e1z e2z
        generalize hx : ok x y = t at *
        cases t
        · go_wp2_with (go_at_fn g; refine (hp1 _ (below_tr (Joins.below_alloc1 _ _) (Joins.below_alloc1 _ _))).out.mono ?_; rintro e w1 ⟨rfl, hb⟩)
          go_ret
          exact ⟨ret_bool (by rw [← HA.out, HS.out]; simp), below_tr hbel (below_tr (below_tr (Joins.below_alloc1 _ _) (Joins.below_alloc1 _ _)) hb)⟩
        · have HA2 := Lib.hid (show eqF ok (l.drop (k + 1)) (m.drop (k + 1)) = eqF ok l m from by rw [← HA.out, HS.out]; simp)
          go_wp2_with (go_at_fn g; refine (hp1 _ (below_tr (Joins.below_alloc1 _ _) (Joins.below_alloc1 _ _))).out.mono ?_; rintro e w1 ⟨rfl, hb⟩)
          go_roundw
          case rel => exact ⟨k + 1, by go_num, by omega, HA2.out, below_tr hbel (below_tr (below_tr (Joins.below_alloc1 _ _) (Joins.below_alloc1 _ _)) hb)⟩
          case measure => simp [intOf]; omega
      · obtain rfl : k = l.length := by omega
        have HF := Lib.hid (show eqF ok l m = true from by rw [← HA.out, List.drop_eq_nil_of_le (Nat.le_refl _), List.drop_eq_nil_of_le (by rw [HL.out]; exact Nat.le_refl _)]; rfl)
        go_wp2
        go_ret
        exact ⟨ret_bool HF.out.symm, hbel⟩
  · have HF := Lib.hid (eqF_len ok l m hl)
    have h1 : ¬ ((l.length : Int) = (m.length : Int)) := by omega
    have h2 : ¬ (l.length = m.length) := by omega
    clear hR hR2 hp hl
    go_enter Tryz.func40, Tryz.ntmps40
    go_wp2
    go_ret
    exact ⟨ret_bool HF.out.symm, Below.refl _ _⟩
set_option maxHeartbeats 4000000 in
theorem iEqFNd (g : Nat) (lb : Array Value) (eg : ∀ args w, (callFunc g args).run Tryz.prog w = .ok (.enter g args) w) (ok : Nd → Nd → Bool) (l m : List Nd) (v v2 : Value) (w : World) (hR : RowRd 6 NdEl w v l) (hR2 : RowRd 6 NdEl w v2 m)
    (hp : ∀ i (hi : i < l.length) (hj : i < m.length) (u u2 : Value) (W : World), Below w.heap.size w W → NdVal W u l[i] → NdVal W u2 m[i] → Calls Tryz.prog g (#[u, u2] ++ lb) W fun e w' => e = .returned (.bool (ok l[i] m[i])) ∧ Below W.heap.size W w') :
    Calls Tryz.prog 18 #[v, v2, .func (.func g) #[] lb] w fun e w' => e = .returned (.bool (eqF ok l m)) ∧ Below w.heap.size w w' := by
  obtain ⟨p, cap, rfl, hm, hR⟩ := hR.form
  obtain ⟨p2, cap2, rfl, hm2, hR2⟩ := hR2.form
  unfold maxLen at hm hm2
  by_cases hl : m.length = l.length
  · have HL := Lib.hid hl
    rw [hl]
    rw [hl] at hm2
    clear hl
    go_enter Tryz.func18, Tryz.ntmps18
    go_wp2
    go_loopw [17] (fun i wr => ∃ k : Nat, i = .int .i64 k ∧ k ≤ l.length ∧ eqF ok (l.drop k) (m.drop k) = eqF ok l m ∧ Below w.heap.size w wr) (fun i _ => l.length - (intOf i).toNat)
    case atStart => exact ⟨0, rfl, Nat.zero_le _, rfl, Below.refl _ _⟩
    case round =>
      obtain ⟨k, rfl, hk, hno, hbel⟩ := hrel
      have HA := Lib.hid hno
      clear hno
      by_cases hlt : k < l.length
      · have hlt2 : k < m.length := by rw [HL.out]; exact hlt
        obtain ⟨b, o, rfl, hbw, hc⟩ := hR (by omega)
        obtain ⟨b2, o2, rfl, hbw2, hc2⟩ := hR2 (by omega)
        have ex := NdEl.st w wr b _ _ (Kept.of_below hbel) hbw (hc k hlt)
        have ex2 := NdEl.st w wr b2 _ _ (Kept.of_below hbel) hbw2 (hc2 k hlt2)
        have hpk := fun u u2 W (hW : Below wr.heap.size wr W) => hp k hlt hlt2 u u2 W (below_tr hbel hW)
        have HS := Lib.hid (eqF_step ok l m k hlt hlt2)
        clear hc hR hp hc2 hR2
        generalize l[k] = x at *
        generalize m[k] = y at *
        clear hlt2
        obtain ⟨⟨e0, i0⟩, ⟨e1, i1⟩, ⟨e2, i2⟩, ⟨e3, i3⟩, ⟨v4, e4, r4⟩, ⟨v5, e5, r5⟩⟩ := ex
        obtain ⟨⟨e0z, i0z⟩, ⟨e1z, i1z⟩, ⟨e2z, i2z⟩, ⟨e3z, i3z⟩, ⟨v4z, e4z, r4z⟩, ⟨v5z, e5z, r5z⟩⟩ := ex2
        have hu : NdVal wr (.agg #[.int .i64 x.kind, .int .i64 x.at_, .int .i64 x.n, .string x.s, v4, v5]) x := ⟨v4, v5, rfl, i0, i1, i2, i3, r4, r5⟩
        have hu2 : NdVal wr (.agg #[.int .i64 y.kind, .int .i64 y.at_, .int .i64 y.n, .string y.s, v4z, v5z]) y := ⟨v4z, v5z, rfl, i0z, i1z, i2z, i3z, r4z, r5z⟩
        have hp1 := fun W (hW : Below wr.heap.size wr W) => Lib.hid (hpk _ _ W hW (hu.kept (Kept.of_below hW)) (hu2.kept (Kept.of_below hW)))
        clear hpk hu hu2
        obtain ⟨p4, c4, rfl, -, -⟩ := r4.form
        obtain ⟨p4z, c4z, rfl, -, -⟩ := r4z.form
        obtain ⟨p5, c5, rfl, -, -⟩ := r5.form
        obtain ⟨p5z, c5z, rfl, -, -⟩ := r5z.form
        have hsz := hbel.size
        have hb2 : b2 < wr.heap.size := by omega
        have e0w := fun ob => ((Joins.below_alloc1 wr ob).cell (p := ⟨b2, _, none⟩) hb2).trans e0z
        have e1w := fun ob => ((Joins.below_alloc1 wr ob).cell (p := ⟨b2, _, none⟩) hb2).trans e1z
        have e2w := fun ob => ((Joins.below_alloc1 wr ob).cell (p := ⟨b2, _, none⟩) hb2).trans e2z
        have e3w := fun ob => ((Joins.below_alloc1 wr ob).cell (p := ⟨b2, _, none⟩) hb2).trans e3z
        have e4w := fun ob => ((Joins.below_alloc1 wr ob).cell (p := ⟨b2, _, none⟩) hb2).trans e4z
        have e5w := fun ob => ((Joins.below_alloc1 wr ob).cell (p := ⟨b2, _, none⟩) hb2).trans e5z
        clear e0z e1z e2z e3z e4z e5z
        generalize hx : ok x y = t at *
        cases t
        · go_wp2_with (go_at_fn g; refine (hp1 _ (below_tr (Joins.below_alloc1 _ _) (Joins.below_alloc1 _ _))).out.mono ?_; rintro e w1 ⟨rfl, hb⟩)
          go_ret
          exact ⟨ret_bool (by rw [← HA.out, HS.out]; simp), below_tr hbel (below_tr (below_tr (Joins.below_alloc1 _ _) (Joins.below_alloc1 _ _)) hb)⟩
        · have HA2 := Lib.hid (show eqF ok (l.drop (k + 1)) (m.drop (k + 1)) = eqF ok l m from by rw [← HA.out, HS.out]; simp)
          go_wp2_with (go_at_fn g; refine (hp1 _ (below_tr (Joins.below_alloc1 _ _) (Joins.below_alloc1 _ _))).out.mono ?_; rintro e w1 ⟨rfl, hb⟩)
          go_roundw
          case rel => exact ⟨k + 1, by go_num, by omega, HA2.out, below_tr hbel (below_tr (below_tr (Joins.below_alloc1 _ _) (Joins.below_alloc1 _ _)) hb)⟩
          case measure => simp [intOf]; omega
      · obtain rfl : k = l.length := by omega
        have HF := Lib.hid (show eqF ok l m = true from by rw [← HA.out, List.drop_eq_nil_of_le (Nat.le_refl _), List.drop_eq_nil_of_le (by rw [HL.out]; exact Nat.le_refl _)]; rfl)
        go_wp2
        go_ret
        exact ⟨ret_bool HF.out.symm, hbel⟩
  · have HF := Lib.hid (eqF_len ok l m hl)
    have h1 : ¬ ((l.length : Int) = (m.length : Int)) := by omega
    have h2 : ¬ (l.length = m.length) := by omega
    clear hR hR2 hp hl
    go_enter Tryz.func18, Tryz.ntmps18
    go_wp2
    go_ret
    exact ⟨ret_bool HF.out.symm, Below.refl _ _⟩
set_option maxHeartbeats 4000000 in
theorem iEqFTp (g : Nat) (lb : Array Value) (eg : ∀ args w, (callFunc g args).run Tryz.prog w = .ok (.enter g args) w) (ok : Tp → Tp → Bool) (l m : List Tp) (v v2 : Value) (w : World) (hR : RowRd 3 TpEl w v l) (hR2 : RowRd 3 TpEl w v2 m)
    (hp : ∀ i (hi : i < l.length) (hj : i < m.length) (u u2 : Value) (W : World), Below w.heap.size w W → TpVal W u l[i] → TpVal W u2 m[i] → Calls Tryz.prog g (#[u, u2] ++ lb) W fun e w' => e = .returned (.bool (ok l[i] m[i])) ∧ Below W.heap.size W w') :
    Calls Tryz.prog 16 #[v, v2, .func (.func g) #[] lb] w fun e w' => e = .returned (.bool (eqF ok l m)) ∧ Below w.heap.size w w' := by
  obtain ⟨p, cap, rfl, hm, hR⟩ := hR.form
  obtain ⟨p2, cap2, rfl, hm2, hR2⟩ := hR2.form
  unfold maxLen at hm hm2
  by_cases hl : m.length = l.length
  · have HL := Lib.hid hl
    rw [hl]
    rw [hl] at hm2
    clear hl
    go_enter Tryz.func16, Tryz.ntmps16
    go_wp2
    go_loopw [17] (fun i wr => ∃ k : Nat, i = .int .i64 k ∧ k ≤ l.length ∧ eqF ok (l.drop k) (m.drop k) = eqF ok l m ∧ Below w.heap.size w wr) (fun i _ => l.length - (intOf i).toNat)
    case atStart => exact ⟨0, rfl, Nat.zero_le _, rfl, Below.refl _ _⟩
    case round =>
      obtain ⟨k, rfl, hk, hno, hbel⟩ := hrel
      have HA := Lib.hid hno
      clear hno
      by_cases hlt : k < l.length
      · have hlt2 : k < m.length := by rw [HL.out]; exact hlt
        obtain ⟨b, o, rfl, hbw, hc⟩ := hR (by omega)
        obtain ⟨b2, o2, rfl, hbw2, hc2⟩ := hR2 (by omega)
        have ex := TpEl.st w wr b _ _ (Kept.of_below hbel) hbw (hc k hlt)
        have ex2 := TpEl.st w wr b2 _ _ (Kept.of_below hbel) hbw2 (hc2 k hlt2)
        have hpk := fun u u2 W (hW : Below wr.heap.size wr W) => hp k hlt hlt2 u u2 W (below_tr hbel hW)
        have HS := Lib.hid (eqF_step ok l m k hlt hlt2)
        clear hc hR hp hc2 hR2
        generalize l[k] = x at *
        generalize m[k] = y at *
        clear hlt2
        obtain ⟨⟨e0, i0⟩, ⟨e1, i1⟩, ⟨v2, e2, r2⟩⟩ := ex
        obtain ⟨⟨e0z, i0z⟩, ⟨e1z, i1z⟩, ⟨v2z, e2z, r2z⟩⟩ := ex2
        have hu : TpVal wr (.agg #[.string x.name, .int .i64 x.params, v2]) x := ⟨v2, rfl, i0, i1, r2⟩
        have hu2 : TpVal wr (.agg #[.string y.name, .int .i64 y.params, v2z]) y := ⟨v2z, rfl, i0z, i1z, r2z⟩
        have hp1 := fun W (hW : Below wr.heap.size wr W) => Lib.hid (hpk _ _ W hW (hu.kept (Kept.of_below hW)) (hu2.kept (Kept.of_below hW)))
        clear hpk hu hu2
        obtain ⟨p2, c2, rfl, -, -⟩ := r2.form
        obtain ⟨p2z, c2z, rfl, -, -⟩ := r2z.form
        have hsz := hbel.size
        have hb2 : b2 < wr.heap.size := by omega
        have e0w := fun ob => ((Joins.below_alloc1 wr ob).cell (p := ⟨b2, _, none⟩) hb2).trans e0z
        have e1w := fun ob => ((Joins.below_alloc1 wr ob).cell (p := ⟨b2, _, none⟩) hb2).trans e1z
        have e2w := fun ob => ((Joins.below_alloc1 wr ob).cell (p := ⟨b2, _, none⟩) hb2).trans e2z
        clear e0z e1z e2z
        generalize hx : ok x y = t at *
        cases t
        · go_wp2_with (go_at_fn g; refine (hp1 _ (below_tr (Joins.below_alloc1 _ _) (Joins.below_alloc1 _ _))).out.mono ?_; rintro e w1 ⟨rfl, hb⟩)
          go_ret
          exact ⟨ret_bool (by rw [← HA.out, HS.out]; simp), below_tr hbel (below_tr (below_tr (Joins.below_alloc1 _ _) (Joins.below_alloc1 _ _)) hb)⟩
        · have HA2 := Lib.hid (show eqF ok (l.drop (k + 1)) (m.drop (k + 1)) = eqF ok l m from by rw [← HA.out, HS.out]; simp)
          go_wp2_with (go_at_fn g; refine (hp1 _ (below_tr (Joins.below_alloc1 _ _) (Joins.below_alloc1 _ _))).out.mono ?_; rintro e w1 ⟨rfl, hb⟩)
          go_roundw
          case rel => exact ⟨k + 1, by go_num, by omega, HA2.out, below_tr hbel (below_tr (below_tr (Joins.below_alloc1 _ _) (Joins.below_alloc1 _ _)) hb)⟩
          case measure => simp [intOf]; omega
      · obtain rfl : k = l.length := by omega
        have HF := Lib.hid (show eqF ok l m = true from by rw [← HA.out, List.drop_eq_nil_of_le (Nat.le_refl _), List.drop_eq_nil_of_le (by rw [HL.out]; exact Nat.le_refl _)]; rfl)
        go_wp2
        go_ret
        exact ⟨ret_bool HF.out.symm, hbel⟩
  · have HF := Lib.hid (eqF_len ok l m hl)
    have h1 : ¬ ((l.length : Int) = (m.length : Int)) := by omega
    have h2 : ¬ (l.length = m.length) := by omega
    clear hR hR2 hp hl
    go_enter Tryz.func16, Tryz.ntmps16
    go_wp2
    go_ret
    exact ⟨ret_bool HF.out.symm, Below.refl _ _⟩
end Go.Proofs.YtaibgnfjjbncpaaGreat
namespace Go.Proofs.YtaibgnfjjbncpaaGreat
set_option linter.unusedVariables false
set_option maxRecDepth 100000
open Go.ChangeShapes Go.WideShapes Go.ChangeAt Go.RowKit

set_option maxHeartbeats 4000000 in
theorem iEqInt (l m : List Int) (v v2 : Value) (w : World) (hR : RowRd 1 IntEl w v l) (hR2 : RowRd 1 IntEl w v2 m) :
    Calls Tryz.prog 42 #[v, v2] w fun e w' => e = .returned (.bool (eqF (fun a b => decide (a = b)) l m)) ∧ Below w.heap.size w w' := by
  obtain ⟨p, cap, rfl, hm, hR⟩ := hR.form
  obtain ⟨p2, cap2, rfl, hm2, hR2⟩ := hR2.form
  unfold maxLen at hm hm2
  by_cases hl : m.length = l.length
  · have HL := Lib.hid hl
    rw [hl]
    rw [hl] at hm2
    clear hl
    go_enter Tryz.func42, Tryz.ntmps42
    go_wp2
    go_loopw [13] (fun i wr => ∃ k : Nat, i = .int .i64 k ∧ k ≤ l.length ∧ eqF (fun a b => decide (a = b)) (l.drop k) (m.drop k) = eqF (fun a b => decide (a = b)) l m ∧ Below w.heap.size w wr) (fun i _ => l.length - (intOf i).toNat)
    case atStart => exact ⟨0, rfl, Nat.zero_le _, rfl, Below.refl _ _⟩
    case round =>
      obtain ⟨k, rfl, hk, hno, hbel⟩ := hrel
      have HA := Lib.hid hno
      clear hno
      by_cases hlt : k < l.length
      · have hlt2 : k < m.length := by rw [HL.out]; exact hlt
        obtain ⟨b, o, rfl, hbw, hc⟩ := hR (by omega)
        obtain ⟨b2, o2, rfl, hbw2, hc2⟩ := hR2 (by omega)
        have ex := IntEl.st w wr b _ _ (Kept.of_below hbel) hbw (hc k hlt)
        have ex2 := IntEl.st w wr b2 _ _ (Kept.of_below hbel) hbw2 (hc2 k hlt2)
        rw [Nat.mul_one] at ex ex2
        have HS := Lib.hid (eqF_step (fun a b => decide (a = b)) l m k hlt hlt2)
        clear hc hR hc2 hR2
        generalize l[k] = x at *
        generalize m[k] = y at *
        clear hlt2
        obtain ⟨e0, i0⟩ := ex
        obtain ⟨e1, i1⟩ := ex2
        by_cases hxy : x = y
        · subst hxy
          have HA2 := Lib.hid (show eqF (fun a b => decide (a = b)) (l.drop (k + 1)) (m.drop (k + 1)) = eqF (fun a b => decide (a = b)) l m from by rw [← HA.out, HS.out]; simp)
          go_wp2_with fail
          go_region
          go_wp2
          go_roundw
          case rel => exact ⟨k + 1, by go_num, by omega, HA2.out, hbel.drew⟩
          case measure => simp [intOf]; omega
        · have HF := Lib.hid (show eqF (fun a b => decide (a = b)) l m = false from by rw [← HA.out, HS.out]; simp [hxy])
          go_wp2_with fail
          go_region
          go_wp2
          go_ret
          exact ⟨ret_bool HF.out.symm, hbel.drew⟩
      · obtain rfl : k = l.length := by omega
        have HF := Lib.hid (show eqF (fun a b => decide (a = b)) l m = true from by rw [← HA.out, List.drop_eq_nil_of_le (Nat.le_refl _), List.drop_eq_nil_of_le (by rw [HL.out]; exact Nat.le_refl _)]; rfl)
        go_wp2
        go_ret
        exact ⟨ret_bool HF.out.symm, hbel⟩
  · have HF := Lib.hid (eqF_len (fun a b => decide (a = b)) l m hl)
    have h1 : ¬ ((l.length : Int) = (m.length : Int)) := by omega
    have h2 : ¬ (l.length = m.length) := by omega
    clear hR hR2 hl
    go_enter Tryz.func42, Tryz.ntmps42
    go_wp2
    go_ret
    exact ⟨ret_bool HF.out.symm, Below.refl _ _⟩
/-- Two items alike. -/
def tyiB (a b : TyI) : Bool := decide (a.var = b.var) && (decide (a.name = b.name) && decide (a.arity = b.arity))
set_option maxHeartbeats 4000000 in
theorem iEqTyI (l m : List TyI) (v v2 : Value) (w : World) (hR : RowRd 3 TyIEl w v l) (hR2 : RowRd 3 TyIEl w v2 m) :
    Calls Tryz.prog 83 #[v, v2] w fun e w' => e = .returned (.bool (eqF tyiB l m)) ∧ Below w.heap.size w w' := by
  obtain ⟨p, cap, rfl, hm, hR⟩ := hR.form
  obtain ⟨p2, cap2, rfl, hm2, hR2⟩ := hR2.form
  unfold maxLen at hm hm2
  by_cases hl : m.length = l.length
  · have HL := Lib.hid hl
    rw [hl]
    rw [hl] at hm2
    clear hl
    go_enter Tryz.func83, Tryz.ntmps83
    go_wp2
    go_loopw [13] (fun i wr => ∃ k : Nat, i = .int .i64 k ∧ k ≤ l.length ∧ eqF tyiB (l.drop k) (m.drop k) = eqF tyiB l m ∧ Below w.heap.size w wr) (fun i _ => l.length - (intOf i).toNat)
    case atStart => exact ⟨0, rfl, Nat.zero_le _, rfl, Below.refl _ _⟩
    case round =>
      obtain ⟨k, rfl, hk, hno, hbel⟩ := hrel
      have HA := Lib.hid hno
      clear hno
      by_cases hlt : k < l.length
      · have hlt2 : k < m.length := by rw [HL.out]; exact hlt
        obtain ⟨b, o, rfl, hbw, hc⟩ := hR (by omega)
        obtain ⟨b2, o2, rfl, hbw2, hc2⟩ := hR2 (by omega)
        have ex := TyIEl.st w wr b _ _ (Kept.of_below hbel) hbw (hc k hlt)
        have ex2 := TyIEl.st w wr b2 _ _ (Kept.of_below hbel) hbw2 (hc2 k hlt2)
        have HS := Lib.hid (eqF_step tyiB l m k hlt hlt2)
        clear hc hR hc2 hR2
        generalize l[k] = x at *
        generalize m[k] = y at *
        clear hlt2
        obtain ⟨⟨e0, i0⟩, ⟨e1, i1⟩, ⟨e2, i2⟩⟩ := ex
        obtain ⟨⟨e0z, i0z⟩, ⟨e1z, i1z⟩, ⟨e2z, i2z⟩⟩ := ex2
        obtain ⟨xv, xn, xa⟩ := x
        obtain ⟨yv, yn, ya⟩ := y
        simp only at e0 e1 e2 i0 i1 i2 e0z e1z e2z i0z i1z i2z HS
        by_cases h0 : xv = yv
        · subst h0
          by_cases h1 : xn = yn
          · subst h1
            by_cases h2 : xa = ya
            · subst h2
              have HA2 := Lib.hid (show eqF tyiB (l.drop (k + 1)) (m.drop (k + 1)) = eqF tyiB l m from by rw [← HA.out, HS.out]; simp [tyiB])
              clear HS
              go_wp2_with fail
              go_region
              go_wp2
              go_roundw
              case rel => exact ⟨k + 1, by go_num, by omega, HA2.out, hbel.drew⟩
              case measure => simp [intOf]; omega
            · have HF := Lib.hid (show eqF tyiB l m = false from by rw [← HA.out, HS.out]; simp [tyiB, h2])
              clear HS
              go_wp2_with fail
              go_region
              go_wp2
              go_ret
              exact ⟨ret_bool HF.out.symm, hbel.drew⟩
          · have h1' : ¬ (xn.toList = yn.toList) := fun h => h1 (toL_inj h)
            have HF := Lib.hid (show eqF tyiB l m = false from by rw [← HA.out, HS.out]; simp [tyiB, h1])
            clear HS
            go_wp2_with fail
            go_region
            go_wp2
            go_ret
            exact ⟨ret_bool HF.out.symm, hbel.drew⟩
        · have HF := Lib.hid (show eqF tyiB l m = false from by rw [← HA.out, HS.out]; simp [tyiB, h0])
          clear HS
          go_wp2_with fail
          go_region
          go_wp2
          go_ret
          exact ⟨ret_bool HF.out.symm, hbel.drew⟩
      · obtain rfl : k = l.length := by omega
        have HF := Lib.hid (show eqF tyiB l m = true from by rw [← HA.out, List.drop_eq_nil_of_le (Nat.le_refl _), List.drop_eq_nil_of_le (by rw [HL.out]; exact Nat.le_refl _)]; rfl)
        go_wp2
        go_ret
        exact ⟨ret_bool HF.out.symm, hbel⟩
  · have HF := Lib.hid (eqF_len tyiB l m hl)
    have h1 : ¬ ((l.length : Int) = (m.length : Int)) := by omega
    have h2 : ¬ (l.length = m.length) := by omega
    clear hR hR2 hl
    go_enter Tryz.func83, Tryz.ntmps83
    go_wp2
    go_ret
    exact ⟨ret_bool HF.out.symm, Below.refl _ _⟩
end Go.Proofs.YtaibgnfjjbncpaaGreat
namespace Go.Proofs.YtaibgnfjjbncpaaGreat
set_option linter.unusedVariables false
set_option maxRecDepth 100000
open Go.ChangeShapes Go.WideShapes Go.ChangeAt Go.RowKit

/-- Two of them alike. -/
def pnE (a b : PN) : Bool := decide (a.kind = b.kind) && (decide (a.n = b.n) && (decide (a.s = b.s) && (eqF (fun a b => decide (a = b)) a.kids b.kids)))
set_option maxHeartbeats 4000000 in
theorem iSamePNode (x y : PN) (u u2 : Value) (w : World) (hu : PNVal w u x) (hu2 : PNVal w u2 y) : Calls Tryz.prog 85 #[u, u2] w fun e w' => e = .returned (.bool (pnE x y)) ∧ Below w.heap.size w w' := by
  obtain ⟨x0, x1, x2, x3⟩ := x
  obtain ⟨y0, y1, y2, y3⟩ := y
  obtain ⟨v3, rfl, i0, i1, i2, r3⟩ := hu
  obtain ⟨v3z, rfl, i0z, i1z, i2z, r3z⟩ := hu2
  dsimp only at *
  have H3 := fun W (hW : Below w.heap.size w W) => Lib.hid (iEqInt x3 y3 v3 v3z W (r3.kept IntEl.st (Kept.of_below hW)) (r3z.kept IntEl.st (Kept.of_below hW)))
  generalize hq3 : eqF (fun a b => decide (a = b)) x3 y3 = t3 at *
  obtain ⟨p3, c3, rfl, -, -⟩ := r3.form
  obtain ⟨p3z, c3z, rfl, -, -⟩ := r3z.form
  by_cases h0 : x0 = y0
  · subst h0
    by_cases h1 : x1 = y1
    · subst h1
      by_cases h2 : x2 = y2
      · subst h2
        cases t3
        · have HF := Lib.hid (show pnE ⟨x0, x1, x2, x3⟩ ⟨x0, x1, x2, y3⟩ = false from by simp [pnE, hq3])
          clear hq3
          go_enter Tryz.func85, Tryz.ntmps85
          go_wp2_with (go_at_call 42; refine (H3 _ (below_tr (Joins.below_alloc1 _ _) (Joins.below_alloc1 _ _))).out.mono ?_; rintro e w3 ⟨rfl, hb3⟩)
          go_ret
          exact ⟨ret_bool HF.out.symm, (below_tr (below_tr (Joins.below_alloc1 _ _) (Joins.below_alloc1 _ _)) hb3)⟩
        · have HF := Lib.hid (show pnE ⟨x0, x1, x2, x3⟩ ⟨x0, x1, x2, y3⟩ = true from by simp [pnE, hq3])
          clear hq3
          go_enter Tryz.func85, Tryz.ntmps85
          go_wp2_with (go_at_call 42; refine (H3 _ (below_tr (Joins.below_alloc1 _ _) (Joins.below_alloc1 _ _))).out.mono ?_; rintro e w3 ⟨rfl, hb3⟩)
          go_ret
          exact ⟨ret_bool HF.out.symm, (below_tr (below_tr (Joins.below_alloc1 _ _) (Joins.below_alloc1 _ _)) hb3)⟩
      · have g2 : ¬ (x2.toList = y2.toList) := fun h => h2 (toL_inj h)
        have HF := Lib.hid (show pnE ⟨x0, x1, x2, x3⟩ ⟨x0, x1, y2, y3⟩ = false from by simp [pnE, h2])
        clear hq3
        go_enter Tryz.func85, Tryz.ntmps85
        go_wp2
        go_ret
        exact ⟨ret_bool HF.out.symm, (below_tr (Joins.below_alloc1 _ _) (Joins.below_alloc1 _ _))⟩
    · have HF := Lib.hid (show pnE ⟨x0, x1, x2, x3⟩ ⟨x0, y1, y2, y3⟩ = false from by simp [pnE, h1])
      clear hq3
      go_enter Tryz.func85, Tryz.ntmps85
      go_wp2
      go_ret
      exact ⟨ret_bool HF.out.symm, (below_tr (Joins.below_alloc1 _ _) (Joins.below_alloc1 _ _))⟩
  · have HF := Lib.hid (show pnE ⟨x0, x1, x2, x3⟩ ⟨y0, y1, y2, y3⟩ = false from by simp [pnE, h0])
    clear hq3
    go_enter Tryz.func85, Tryz.ntmps85
    go_wp2
    go_ret
    exact ⟨ret_bool HF.out.symm, (below_tr (Joins.below_alloc1 _ _) (Joins.below_alloc1 _ _))⟩
theorem e_samePNode : ∀ args w, (callFunc 85 args).run Tryz.prog w = .ok (.enter 85 args) w := enters_of Tryz.func85 (by kernel_rfl) rfl
/-- Two of them alike. -/
def patE (a b : List PN) : Bool := eqF (pnE) a b
set_option maxHeartbeats 4000000 in
theorem iSamePat (x y : List PN) (u u2 : Value) (w : World) (hu : PatVal w u x) (hu2 : PatVal w u2 y) : Calls Tryz.prog 44 #[u, u2] w fun e w' => e = .returned (.bool (patE x y)) ∧ Below w.heap.size w w' := by
  obtain ⟨v0, rfl, r0⟩ := hu
  obtain ⟨v0z, rfl, r0z⟩ := hu2
  have H0 := fun W (hW : Below w.heap.size w W) => Lib.hid (iEqFPN 85 #[] e_samePNode (pnE) x y v0 v0z W (r0.kept PNEl.st (Kept.of_below hW)) (r0z.kept PNEl.st (Kept.of_below hW)) (fun i hi hj u u2 W2 hW2 h1 h2 => by simpa using iSamePNode _ _ u u2 W2 h1 h2))
  generalize hq0 : eqF (pnE) x y = t0 at *
  obtain ⟨p0, c0, rfl, -, -⟩ := r0.form
  obtain ⟨p0z, c0z, rfl, -, -⟩ := r0z.form
  cases t0
  · have HF := Lib.hid (show patE x y = false from by simp [patE, hq0])
    clear hq0
    go_enter Tryz.func44, Tryz.ntmps44
    go_wp2_with (go_at_call 84; refine (H0 _ (below_tr (Joins.below_alloc1 _ _) (Joins.below_alloc1 _ _))).out.mono ?_; rintro e w0 ⟨rfl, hb0⟩)
    go_ret
    exact ⟨ret_bool HF.out.symm, (below_tr (below_tr (Joins.below_alloc1 _ _) (Joins.below_alloc1 _ _)) hb0)⟩
  · have HF := Lib.hid (show patE x y = true from by simp [patE, hq0])
    clear hq0
    go_enter Tryz.func44, Tryz.ntmps44
    go_wp2_with (go_at_call 84; refine (H0 _ (below_tr (Joins.below_alloc1 _ _) (Joins.below_alloc1 _ _))).out.mono ?_; rintro e w0 ⟨rfl, hb0⟩)
    go_ret
    exact ⟨ret_bool HF.out.symm, (below_tr (below_tr (Joins.below_alloc1 _ _) (Joins.below_alloc1 _ _)) hb0)⟩
theorem e_samePat : ∀ args w, (callFunc 44 args).run Tryz.prog w = .ok (.enter 44 args) w := enters_of Tryz.func44 (by kernel_rfl) rfl
/-- Two of them alike. -/
def ndE (a b : Nd) : Bool := decide (a.kind = b.kind) && (decide (a.n = b.n) && (decide (a.s = b.s) && (eqF (fun a b => decide (a = b)) a.kids b.kids && (eqF (patE) a.pats b.pats))))
set_option maxHeartbeats 4000000 in
theorem iSameNode (x y : Nd) (u u2 : Value) (w : World) (hu : NdVal w u x) (hu2 : NdVal w u2 y) : Calls Tryz.prog 19 #[u, u2] w fun e w' => e = .returned (.bool (ndE x y)) ∧ Below w.heap.size w w' := by
  obtain ⟨x0, x1, x2, x3, x4, x5⟩ := x
  obtain ⟨y0, y1, y2, y3, y4, y5⟩ := y
  obtain ⟨v4, v5, rfl, i0, i1, i2, i3, r4, r5⟩ := hu
  obtain ⟨v4z, v5z, rfl, i0z, i1z, i2z, i3z, r4z, r5z⟩ := hu2
  dsimp only at *
  have H4 := fun W (hW : Below w.heap.size w W) => Lib.hid (iEqInt x4 y4 v4 v4z W (r4.kept IntEl.st (Kept.of_below hW)) (r4z.kept IntEl.st (Kept.of_below hW)))
  generalize hq4 : eqF (fun a b => decide (a = b)) x4 y4 = t4 at *
  have H5 := fun W (hW : Below w.heap.size w W) => Lib.hid (iEqFPat 44 #[] e_samePat (patE) x5 y5 v5 v5z W (r5.kept PatEl.st (Kept.of_below hW)) (r5z.kept PatEl.st (Kept.of_below hW)) (fun i hi hj u u2 W2 hW2 h1 h2 => by simpa using iSamePat _ _ u u2 W2 h1 h2))
  generalize hq5 : eqF (patE) x5 y5 = t5 at *
  obtain ⟨p4, c4, rfl, -, -⟩ := r4.form
  obtain ⟨p4z, c4z, rfl, -, -⟩ := r4z.form
  obtain ⟨p5, c5, rfl, -, -⟩ := r5.form
  obtain ⟨p5z, c5z, rfl, -, -⟩ := r5z.form
  by_cases h0 : x0 = y0
  · subst h0
    by_cases h2 : x2 = y2
    · subst h2
      by_cases h3 : x3 = y3
      · subst h3
        cases t4
        · have HF := Lib.hid (show ndE ⟨x0, x1, x2, x3, x4, x5⟩ ⟨x0, y1, x2, x3, y4, y5⟩ = false from by simp [ndE, hq4])
          clear hq4
          clear hq5
          go_enter Tryz.func19, Tryz.ntmps19
          go_wp2_with (go_at_call 42; refine (H4 _ (below_tr (Joins.below_alloc1 _ _) (Joins.below_alloc1 _ _))).out.mono ?_; rintro e w4 ⟨rfl, hb4⟩; obtain ⟨hcl, hfr⟩ := bcell hb4)
          go_ret
          exact ⟨ret_bool HF.out.symm, (below_tr (below_tr (Joins.below_alloc1 _ _) (Joins.below_alloc1 _ _)) hb4)⟩
        · cases t5
          · have HF := Lib.hid (show ndE ⟨x0, x1, x2, x3, x4, x5⟩ ⟨x0, y1, x2, x3, y4, y5⟩ = false from by simp [ndE, hq4, hq5])
            clear hq4
            clear hq5
            go_enter Tryz.func19, Tryz.ntmps19
            go_wp2_with (go_at_call 42; refine (H4 _ (below_tr (Joins.below_alloc1 _ _) (Joins.below_alloc1 _ _))).out.mono ?_; rintro e w4 ⟨rfl, hb4⟩; obtain ⟨hcl, hfr⟩ := bcell hb4)
            go_wp2_with (go_at_call 43; refine (H5 _ (below_tr (below_tr (Joins.below_alloc1 _ _) (Joins.below_alloc1 _ _)) hb4)).out.mono ?_; rintro e w5 ⟨rfl, hb5⟩)
            go_ret
            exact ⟨ret_bool HF.out.symm, (below_tr (below_tr (below_tr (Joins.below_alloc1 _ _) (Joins.below_alloc1 _ _)) hb4) hb5)⟩
          · have HF := Lib.hid (show ndE ⟨x0, x1, x2, x3, x4, x5⟩ ⟨x0, y1, x2, x3, y4, y5⟩ = true from by simp [ndE, hq4, hq5])
            clear hq4
            clear hq5
            go_enter Tryz.func19, Tryz.ntmps19
            go_wp2_with (go_at_call 42; refine (H4 _ (below_tr (Joins.below_alloc1 _ _) (Joins.below_alloc1 _ _))).out.mono ?_; rintro e w4 ⟨rfl, hb4⟩; obtain ⟨hcl, hfr⟩ := bcell hb4)
            go_wp2_with (go_at_call 43; refine (H5 _ (below_tr (below_tr (Joins.below_alloc1 _ _) (Joins.below_alloc1 _ _)) hb4)).out.mono ?_; rintro e w5 ⟨rfl, hb5⟩)
            go_ret
            exact ⟨ret_bool HF.out.symm, (below_tr (below_tr (below_tr (Joins.below_alloc1 _ _) (Joins.below_alloc1 _ _)) hb4) hb5)⟩
      · have g3 : ¬ (x3.toList = y3.toList) := fun h => h3 (toL_inj h)
        have HF := Lib.hid (show ndE ⟨x0, x1, x2, x3, x4, x5⟩ ⟨x0, y1, x2, y3, y4, y5⟩ = false from by simp [ndE, h3])
        clear hq4
        clear hq5
        go_enter Tryz.func19, Tryz.ntmps19
        go_wp2
        go_ret
        exact ⟨ret_bool HF.out.symm, (below_tr (Joins.below_alloc1 _ _) (Joins.below_alloc1 _ _))⟩
    · have HF := Lib.hid (show ndE ⟨x0, x1, x2, x3, x4, x5⟩ ⟨x0, y1, y2, y3, y4, y5⟩ = false from by simp [ndE, h2])
      clear hq4
      clear hq5
      go_enter Tryz.func19, Tryz.ntmps19
      go_wp2
      go_ret
      exact ⟨ret_bool HF.out.symm, (below_tr (Joins.below_alloc1 _ _) (Joins.below_alloc1 _ _))⟩
  · have HF := Lib.hid (show ndE ⟨x0, x1, x2, x3, x4, x5⟩ ⟨y0, y1, y2, y3, y4, y5⟩ = false from by simp [ndE, h0])
    clear hq4
    clear hq5
    go_enter Tryz.func19, Tryz.ntmps19
    go_wp2
    go_ret
    exact ⟨ret_bool HF.out.symm, (below_tr (Joins.below_alloc1 _ _) (Joins.below_alloc1 _ _))⟩
theorem e_sameNode : ∀ args w, (callFunc 19 args).run Tryz.prog w = .ok (.enter 19 args) w := enters_of Tryz.func19 (by kernel_rfl) rfl
/-- Two of them alike. -/
def cnE (a b : Cn) : Bool := decide (a.name = b.name) && (decide (a.has = b.has) && (eqF (tyiB) a.arg b.arg))
set_option maxHeartbeats 4000000 in
theorem iSameCon (x y : Cn) (u u2 : Value) (w : World) (hu : CnVal w u x) (hu2 : CnVal w u2 y) : Calls Tryz.prog 41 #[u, u2] w fun e w' => e = .returned (.bool (cnE x y)) ∧ Below w.heap.size w w' := by
  obtain ⟨x0, x1, x2⟩ := x
  obtain ⟨y0, y1, y2⟩ := y
  obtain ⟨v2, rfl, i0, r2⟩ := hu
  obtain ⟨v2z, rfl, i0z, r2z⟩ := hu2
  dsimp only at *
  have H2 := fun W (hW : Below w.heap.size w W) => Lib.hid (iEqTyI x2 y2 v2 v2z W (r2.kept TyIEl.st (Kept.of_below hW)) (r2z.kept TyIEl.st (Kept.of_below hW)))
  generalize hq2 : eqF (tyiB) x2 y2 = t2 at *
  obtain ⟨p2, c2, rfl, -, -⟩ := r2.form
  obtain ⟨p2z, c2z, rfl, -, -⟩ := r2z.form
  by_cases h0 : x0 = y0
  · subst h0
    by_cases h1 : x1 = y1
    · subst h1
      cases t2
      · have HF := Lib.hid (show cnE ⟨x0, x1, x2⟩ ⟨x0, x1, y2⟩ = false from by simp [cnE, hq2])
        clear hq2
        go_enter Tryz.func41, Tryz.ntmps41
        go_wp2_with (go_at_call 83; refine (H2 _ (below_tr (Joins.below_alloc1 _ _) (Joins.below_alloc1 _ _))).out.mono ?_; rintro e w2 ⟨rfl, hb2⟩)
        go_ret
        exact ⟨ret_bool HF.out.symm, (below_tr (below_tr (Joins.below_alloc1 _ _) (Joins.below_alloc1 _ _)) hb2)⟩
      · have HF := Lib.hid (show cnE ⟨x0, x1, x2⟩ ⟨x0, x1, y2⟩ = true from by simp [cnE, hq2])
        clear hq2
        go_enter Tryz.func41, Tryz.ntmps41
        go_wp2_with (go_at_call 83; refine (H2 _ (below_tr (Joins.below_alloc1 _ _) (Joins.below_alloc1 _ _))).out.mono ?_; rintro e w2 ⟨rfl, hb2⟩)
        go_ret
        exact ⟨ret_bool HF.out.symm, (below_tr (below_tr (Joins.below_alloc1 _ _) (Joins.below_alloc1 _ _)) hb2)⟩
    · cases x1 <;> cases y1
      · exact absurd rfl h1
      · have HF := Lib.hid (show cnE ⟨x0, false, x2⟩ ⟨x0, true, y2⟩ = false from by simp [cnE])
        clear hq2
        go_enter Tryz.func41, Tryz.ntmps41
        go_wp2
        go_ret
        exact ⟨ret_bool HF.out.symm, (below_tr (Joins.below_alloc1 _ _) (Joins.below_alloc1 _ _))⟩
      · have HF := Lib.hid (show cnE ⟨x0, true, x2⟩ ⟨x0, false, y2⟩ = false from by simp [cnE])
        clear hq2
        go_enter Tryz.func41, Tryz.ntmps41
        go_wp2
        go_ret
        exact ⟨ret_bool HF.out.symm, (below_tr (Joins.below_alloc1 _ _) (Joins.below_alloc1 _ _))⟩
      · exact absurd rfl h1
  · have g0 : ¬ (x0.toList = y0.toList) := fun h => h0 (toL_inj h)
    have HF := Lib.hid (show cnE ⟨x0, x1, x2⟩ ⟨y0, y1, y2⟩ = false from by simp [cnE, h0])
    clear hq2
    go_enter Tryz.func41, Tryz.ntmps41
    go_wp2
    go_ret
    exact ⟨ret_bool HF.out.symm, (below_tr (Joins.below_alloc1 _ _) (Joins.below_alloc1 _ _))⟩
theorem e_sameCon : ∀ args w, (callFunc 41 args).run Tryz.prog w = .ok (.enter 41 args) w := enters_of Tryz.func41 (by kernel_rfl) rfl
/-- Two of them alike. -/
def tpE (a b : Tp) : Bool := decide (a.name = b.name) && (decide (a.params = b.params) && (eqF (cnE) a.cons b.cons))
set_option maxHeartbeats 4000000 in
theorem iSameType (x y : Tp) (u u2 : Value) (w : World) (hu : TpVal w u x) (hu2 : TpVal w u2 y) : Calls Tryz.prog 17 #[u, u2] w fun e w' => e = .returned (.bool (tpE x y)) ∧ Below w.heap.size w w' := by
  obtain ⟨x0, x1, x2⟩ := x
  obtain ⟨y0, y1, y2⟩ := y
  obtain ⟨v2, rfl, i0, i1, r2⟩ := hu
  obtain ⟨v2z, rfl, i0z, i1z, r2z⟩ := hu2
  dsimp only at *
  have H2 := fun W (hW : Below w.heap.size w W) => Lib.hid (iEqFCn 41 #[] e_sameCon (cnE) x2 y2 v2 v2z W (r2.kept CnEl.st (Kept.of_below hW)) (r2z.kept CnEl.st (Kept.of_below hW)) (fun i hi hj u u2 W2 hW2 h1 h2 => by simpa using iSameCon _ _ u u2 W2 h1 h2))
  generalize hq2 : eqF (cnE) x2 y2 = t2 at *
  obtain ⟨p2, c2, rfl, -, -⟩ := r2.form
  obtain ⟨p2z, c2z, rfl, -, -⟩ := r2z.form
  by_cases h0 : x0 = y0
  · subst h0
    by_cases h1 : x1 = y1
    · subst h1
      cases t2
      · have HF := Lib.hid (show tpE ⟨x0, x1, x2⟩ ⟨x0, x1, y2⟩ = false from by simp [tpE, hq2])
        clear hq2
        go_enter Tryz.func17, Tryz.ntmps17
        go_wp2_with (go_at_call 40; refine (H2 _ (below_tr (Joins.below_alloc1 _ _) (Joins.below_alloc1 _ _))).out.mono ?_; rintro e w2 ⟨rfl, hb2⟩)
        go_ret
        exact ⟨ret_bool HF.out.symm, (below_tr (below_tr (Joins.below_alloc1 _ _) (Joins.below_alloc1 _ _)) hb2)⟩
      · have HF := Lib.hid (show tpE ⟨x0, x1, x2⟩ ⟨x0, x1, y2⟩ = true from by simp [tpE, hq2])
        clear hq2
        go_enter Tryz.func17, Tryz.ntmps17
        go_wp2_with (go_at_call 40; refine (H2 _ (below_tr (Joins.below_alloc1 _ _) (Joins.below_alloc1 _ _))).out.mono ?_; rintro e w2 ⟨rfl, hb2⟩)
        go_ret
        exact ⟨ret_bool HF.out.symm, (below_tr (below_tr (Joins.below_alloc1 _ _) (Joins.below_alloc1 _ _)) hb2)⟩
    · have HF := Lib.hid (show tpE ⟨x0, x1, x2⟩ ⟨x0, y1, y2⟩ = false from by simp [tpE, h1])
      clear hq2
      go_enter Tryz.func17, Tryz.ntmps17
      go_wp2
      go_ret
      exact ⟨ret_bool HF.out.symm, (below_tr (Joins.below_alloc1 _ _) (Joins.below_alloc1 _ _))⟩
  · have g0 : ¬ (x0.toList = y0.toList) := fun h => h0 (toL_inj h)
    have HF := Lib.hid (show tpE ⟨x0, x1, x2⟩ ⟨y0, y1, y2⟩ = false from by simp [tpE, h0])
    clear hq2
    go_enter Tryz.func17, Tryz.ntmps17
    go_wp2
    go_ret
    exact ⟨ret_bool HF.out.symm, (below_tr (Joins.below_alloc1 _ _) (Joins.below_alloc1 _ _))⟩
theorem e_sameType : ∀ args w, (callFunc 17 args).run Tryz.prog w = .ok (.enter 17 args) w := enters_of Tryz.func17 (by kernel_rfl) rfl
end Go.Proofs.YtaibgnfjjbncpaaGreat
namespace Go.Proofs.YtaibgnfjjbncpaaGreat
set_option linter.unusedVariables false
set_option maxRecDepth 100000
open Go.ChangeShapes Go.WideShapes Go.ChangeAt Go.RowKit Go.Maps Go.WideMaps

theorem iConOkB (s : ByteArray) (w : World) (hs : s.size ≤ maxLen) :
    Calls Tryz.prog 105 #[.string s] w fun e w' => e = .returned (.bool (conB s)) ∧ Below w.heap.size w w' := (iConOk s w hs).mono fun e w' ⟨h, h'⟩ => ⟨h, by subst h'; exact Below.refl _ _⟩
theorem iConTakes (s : ByteArray) (n : Int) (w : World) (hs : s.size ≤ maxLen) :
    Calls Tryz.prog 100 #[.string s, .int .i64 n] w fun e w' => e = .returned (.bool (conOkB s n true)) ∧ Below w.heap.size w w' := by
  by_cases h1 : s.toList = [58, 58]
  · have HB := Lib.hid (show conOkB s n true = decide (n = 1) from by rw [conOkB, if_pos h1]; simp)
    go_enter Tryz.func100, Tryz.ntmps100
    go_wp2
    all_goals
      go_ret
      refine ⟨ret_bool ?_, Below.refl _ _⟩
      rw [HB.out]
      first | (simp; done) | (rw [Bool.eq_iff_iff]; simp; done)
  · have b1 : (s.toList == [58, 58]) = false := by simpa using h1
    by_cases h2 : s.toList = [116, 114, 117, 101] ∨ (s.toList = [102, 97, 108, 115, 101] ∨ s.toList = [91, 93])
    · have HB := Lib.hid (show conOkB s n true = decide (n = 0) from by rw [conOkB, if_neg h1, if_pos h2])
      clear h1
      rcases h2 with h | h | h
      all_goals
        clear b1
        go_enter Tryz.func100, Tryz.ntmps100
        go_wp2
        go_ret
        refine ⟨ret_bool ?_, Below.refl _ _⟩
        rw [HB.out, Bool.eq_iff_iff]; simp
    · obtain ⟨g1, g2⟩ := not_or.1 h2
      obtain ⟨g3, g4⟩ := not_or.1 g2
      have b2 : (s.toList == [116, 114, 117, 101]) = false := by simpa using g1
      have b3 : (s.toList == [102, 97, 108, 115, 101]) = false := by simpa using g3
      have b4 : (s.toList == [91, 93]) = false := by simpa using g4
      have HB := Lib.hid (show conOkB s n true = (conB s && decide (n ≤ 1)) from by rw [conOkB, if_neg h1, if_neg h2])
      clear h1 h2 g1 g2 g3 g4
      go_enter Tryz.func100, Tryz.ntmps100
      go_wp2_with fail
      refine (iConOkB _ _ hs).mono ?_
      rintro e w1 ⟨rfl, hb⟩
      generalize conB s = c at *
      cases c
      all_goals
        go_wp2
        all_goals
          go_ret
          refine ⟨ret_bool ?_, hb⟩
          rw [HB.out]
          first | (simp; done) | (rw [Bool.eq_iff_iff]; simp; done) | (simp; omega)
theorem iConsPat (k n : Int) (s : ByteArray) (u : Value) (w : World) (hs : s.size ≤ maxLen) :
    Calls Tryz.prog 145 #[.agg #[.int .i64 k, .int .i64 n, .string s, u]] w fun e w' => e = .returned (.bool (decide (k = 4) && decide (s.toList = [58, 58]))) ∧ Below w.heap.size w w' := by
  by_cases h4 : k = 4
  · subst h4
    go_enter Tryz.func145, Tryz.ntmps145
    go_wp2
    go_ret
    refine ⟨ret_bool ?_, Joins.below_alloc1 w _⟩
    rw [Bool.eq_iff_iff]; simp
  · have h4' : (k == 4) = false := by simpa using h4
    have HB := Lib.hid (show (decide (k = 4) && decide (s.toList = [58, 58])) = false from by simp [h4])
    clear h4
    go_enter Tryz.func145, Tryz.ntmps145
    go_wp2
    go_ret
    exact ⟨ret_bool HB.out.symm, Joins.below_alloc1 w _⟩
set_option maxHeartbeats 4000000 in
theorem iPNode (k n : Int) (s : ByteArray) (kids : List Int) (u : Value) (w : World) (hk : RowRd 1 IntEl w u kids) (hs : s.size ≤ maxLen) :
    Calls Tryz.prog 124 #[.agg #[.int .i64 k, .int .i64 n, .string s, u]] w fun e w' => e = .returned (.bool (pnodeB true k n s kids.length)) ∧ Below w.heap.size w w' := by
  obtain ⟨b, cap', rfl, hm', hkf⟩ := hk.form
  clear hk hkf
  unfold maxLen at hm'
  have hb0 := fun cs => Joins.below_alloc1 w (.cells cs 115)
  have hsz : ∀ cs, w.heap.size < (w.alloc (.cells cs 115)).heap.size := fun cs => by simp
  have hkc : k = 1 ∨ k = 6 ∨ k = 5 ∨ k = 2 ∨ k = 3 ∨ k = 4 ∨ (¬ k = 1 ∧ ¬ k = 6 ∧ ¬ k = 5 ∧ ¬ k = 2 ∧ ¬ k = 3 ∧ ¬ k = 4) := by omega
  by_cases hn : n = 0
  · subst hn
    by_cases he : s.toList = []
    · have he1 : s.toList.isEmpty = true := by simp [he]
      rcases hkc with rfl | rfl | rfl | rfl | rfl | rfl | ⟨g1, g2, g3, g4, g5, g6⟩
      iterate 3
        · go_enter Tryz.func124, Tryz.ntmps124
          go_wp2
          all_goals
            go_ret
            refine ⟨ret_bool ?_, Joins.below_alloc1 w _⟩
            first | (simp [pnodeB, he]; done) | (rw [Bool.eq_iff_iff]; simp [pnodeB, he]; done) | (simp [pnodeB, he]; omega)
      · go_enter Tryz.func124, Tryz.ntmps124
        go_wp2_with fail
        refine (iNameOkB _ _ hs).mono ?_
        rintro e w1 ⟨rfl, hb1⟩
        obtain ⟨hc, hf⟩ := bcell hb1
        cases hx : nameB s
        all_goals
          go_wp2
          all_goals
            go_ret
            refine ⟨ret_bool ?_, below_tr (Joins.below_alloc1 w _) hb1⟩
            first | (simp [pnodeB, hx]; done) | (rw [Bool.eq_iff_iff]; simp [pnodeB, hx]; done) | (rw [Bool.eq_iff_iff]; simp [pnodeB, hx]; omega)
      · go_enter Tryz.func124, Tryz.ntmps124
        go_wp2
        all_goals
          go_ret
          refine ⟨ret_bool ?_, Joins.below_alloc1 w _⟩
          first | (simp [pnodeB, he]; done) | (rw [Bool.eq_iff_iff]; simp [pnodeB, he]; done) | (rw [Bool.eq_iff_iff]; simp [pnodeB, he]; omega)
      · go_enter Tryz.func124, Tryz.ntmps124
        go_wp2_with fail
        refine (iConTakes _ _ _ hs).mono ?_
        rintro e w1 ⟨rfl, hb1⟩
        go_wp2
        all_goals
          go_ret
          refine ⟨ret_bool ?_, below_tr (Joins.below_alloc1 w _) hb1⟩
          simp [pnodeB]
      · have b1 : (k == 1) = false := by simpa using g1
        have b2 : (k == 2) = false := by simpa using g4
        have b3 : (k == 3) = false := by simpa using g5
        have b4 : (k == 4) = false := by simpa using g6
        have b5 : (k == 5) = false := by simpa using g3
        have b6 : (k == 6) = false := by simpa using g2
        have HF := Lib.hid (show pnodeB true k 0 s (kids.length : Int) = false from by simp [pnodeB, g1, g2, g3, g4, g5, g6])
        clear g1 g2 g3 g4 g5 g6
        go_enter Tryz.func124, Tryz.ntmps124
        go_wp2
        all_goals
          go_ret
          exact ⟨ret_bool HF.out.symm, Joins.below_alloc1 w _⟩
    · have he1 : s.toList.isEmpty = false := by simpa using he
      have HE := Lib.hid he
      clear he
      rcases hkc with rfl | rfl | rfl | rfl | rfl | rfl | ⟨g1, g2, g3, g4, g5, g6⟩
      iterate 3
        · go_enter Tryz.func124, Tryz.ntmps124
          go_wp2
          all_goals
            go_ret
            refine ⟨ret_bool ?_, Joins.below_alloc1 w _⟩
            simp [pnodeB, HE.out]
      · go_enter Tryz.func124, Tryz.ntmps124
        go_wp2_with fail
        refine (iNameOkB _ _ hs).mono ?_
        rintro e w1 ⟨rfl, hb1⟩
        obtain ⟨hc, hf⟩ := bcell hb1
        cases hx : nameB s
        all_goals
          go_wp2
          all_goals
            go_ret
            refine ⟨ret_bool ?_, below_tr (Joins.below_alloc1 w _) hb1⟩
            first | (simp [pnodeB, hx]; done) | (rw [Bool.eq_iff_iff]; simp [pnodeB, hx]; done) | (rw [Bool.eq_iff_iff]; simp [pnodeB, hx]; omega)
      · go_enter Tryz.func124, Tryz.ntmps124
        go_wp2
        all_goals
          go_ret
          refine ⟨ret_bool ?_, Joins.below_alloc1 w _⟩
          simp [pnodeB, HE.out]
      · go_enter Tryz.func124, Tryz.ntmps124
        go_wp2_with fail
        refine (iConTakes _ _ _ hs).mono ?_
        rintro e w1 ⟨rfl, hb1⟩
        go_wp2
        all_goals
          go_ret
          refine ⟨ret_bool ?_, below_tr (Joins.below_alloc1 w _) hb1⟩
          simp [pnodeB]
      · have b1 : (k == 1) = false := by simpa using g1
        have b2 : (k == 2) = false := by simpa using g4
        have b3 : (k == 3) = false := by simpa using g5
        have b4 : (k == 4) = false := by simpa using g6
        have b5 : (k == 5) = false := by simpa using g3
        have b6 : (k == 6) = false := by simpa using g2
        have d2 : (k != 2) = true := by simpa using g4
        have d4 : (k != 4) = true := by simpa using g6
        have HF := Lib.hid (show pnodeB true k 0 s (kids.length : Int) = false from by simp [pnodeB, g1, g2, g3, g4, g5, g6])
        clear g1 g2 g3 g4 g5 g6
        go_enter Tryz.func124, Tryz.ntmps124
        go_wp2
        all_goals
          go_ret
          exact ⟨ret_bool HF.out.symm, Joins.below_alloc1 w _⟩
  · have hn1 : (n == 0) = false := by simpa using hn
    have hn2 : (n != 0) = true := by simpa using hn
    have HN := Lib.hid hn
    clear hn
    by_cases h3 : k = 3
    · subst h3
      by_cases he : s.toList = []
      · have he1 : s.toList.isEmpty = true := by simp [he]
        by_cases hlo : -4611686018427387903 ≤ n
        · by_cases hhi : n ≤ 4611686018427387903
          · have HF := Lib.hid (show pnodeB true 3 n s (kids.length : Int) = decide ((kids.length : Int) = 0) from by simp [pnodeB, he, hlo, hhi])
            go_enter Tryz.func124, Tryz.ntmps124
            go_wp2
            all_goals
              go_ret
              refine ⟨ret_bool ?_, Joins.below_alloc1 w _⟩
              rw [HF.out]
              first | (simp; done) | (rw [Bool.eq_iff_iff]; simp; done) | (rw [Bool.eq_iff_iff]; simp; omega)
          · have HF := Lib.hid (show pnodeB true 3 n s (kids.length : Int) = false from by simp [pnodeB, he, hhi])
            go_enter Tryz.func124, Tryz.ntmps124
            go_wp2
            all_goals
              go_ret
              exact ⟨ret_bool HF.out.symm, Joins.below_alloc1 w _⟩
        · have HF := Lib.hid (show pnodeB true 3 n s (kids.length : Int) = false from by simp [pnodeB, he, hlo])
          go_enter Tryz.func124, Tryz.ntmps124
          go_wp2
          all_goals
            go_ret
            exact ⟨ret_bool HF.out.symm, Joins.below_alloc1 w _⟩
      · have he1 : s.toList.isEmpty = false := by simpa using he
        have HE := Lib.hid he
        clear he
        go_enter Tryz.func124, Tryz.ntmps124
        go_wp2
        all_goals
          go_ret
          refine ⟨ret_bool ?_, Joins.below_alloc1 w _⟩
          simp [pnodeB, HE.out]
    · have h3' : (k != 3) = true := by simpa using h3
      have HF := Lib.hid (show pnodeB true k n s (kids.length : Int) = false from by simp [pnodeB, HN.out, h3])
      clear h3 hkc
      go_enter Tryz.func124, Tryz.ntmps124
      go_wp2
      all_goals
        go_ret
        exact ⟨ret_bool HF.out.symm, Joins.below_alloc1 w _⟩
end Go.Proofs.YtaibgnfjjbncpaaGreat
