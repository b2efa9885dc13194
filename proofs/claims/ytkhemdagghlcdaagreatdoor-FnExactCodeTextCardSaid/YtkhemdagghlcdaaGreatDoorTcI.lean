/- The program's texts of the fields of an instruction. -/
import Derived.Test.YtkhemdagghlcdaaGreatDoorTcMath
import Derived.Test.YtkhemdagghlcdaaGreatDoorRows
import Derived.Lib.LaidTab
import Derived.Test.YtkhemdagghlcdaaGreatDoorStrs
import Derived.Test.YtkhemdagghlcdaaGreatDoorQuoteI
import Derived.Deep.RegionHeld3
namespace Go.Proofs.YtkhemdagghlcdaaGreatDoor
set_option linter.unusedVariables false
set_option maxRecDepth 100000
open Go.ChangeShapes Go.WideShapes Go.ChangeAt Go.RowKit

/-- A package-level array of texts, as a row lists it. -/
def strData (zs : List (List UInt8)) : DataW Unit := .agg (zs.map fun z => .lit (.string z))
/-- Cells that read as such an array hold its texts, one after another. -/
theorem strs_trod {enc : TypeId × Value → Unit} {P : Program} {w : World} {base : Nat} {sp : Nat → Bool} {held : Bool} {fuel : Nat} {t e : TypeId} {n : Nat} {cs : List Value} {zs : List (List UInt8)} {p : List MemPlace}
    (ht : P.underlying t = some (.array n e)) (he : P.underlying e = some .string) (hce : P.cellsOf e = 1) (hct : P.cellsOf t = n)
    (h : DataW.trod enc P w base sp held fuel t cs = some (strData zs, p)) : ∀ (i : Nat) z, zs[i]? = some z → cs[i]? = some (.string ⟨z.toArray⟩) := by
  intro i z hz
  cases fuel with
  | zero => cases h
  | succ f =>
    simp only [DataW.trod, ht, hce, hct, Nat.mul_one] at h
    by_cases hl : cs.length = n
    · rw [if_pos hl] at h
      obtain ⟨xs, hm, hx⟩ := Option.map_eq_some_iff.1 h
      have e1 : xs.map Prod.fst = zs.map fun z => (DataW.lit (.string z) : DataW Unit) := by
        have := congrArg Prod.fst hx
        simpa [strData] using this
      have hxl : xs.length = n := by have := Lib.mapM_length hm; simpa using this
      have hzl : zs.length = n := by have := congrArg List.length e1; simp at this; omega
      have hi : i < n := by have := (List.getElem?_eq_some_iff.1 hz).1; omega
      obtain ⟨y, hy, hf⟩ := Lib.mapM_at hm i i (by simp [hi])
      obtain ⟨s, hc, rfl, _⟩ := DataW.trod_string he hf
      have h1 : (xs.map Prod.fst)[i]? = some (.lit (.string s.data.toList)) := by rw [List.getElem?_map, hy]; rfl
      rw [e1, List.getElem?_map, hz] at h1
      simp only [Option.map_some, Option.some.injEq, DataW.lit.injEq, Lit.string.injEq] at h1
      have h2 := congrArg (fun l : List Value => l[0]?) hc
      simp only [List.getElem?_take, List.getElem?_drop, List.getElem?_cons_zero] at h2
      rw [h1]
      simpa using h2
    · rw [if_neg hl] at h; cases h
/-- The table's cells, in a world. -/
def OpsE (w : World) : Prop := ∀ (i : Nat) z, opL[i]? = some z → w.cell? ⟨0, i, none⟩ = some (.string ⟨z.toArray⟩)
theorem OpsE.at_ {w : World} (h : OpsE w) (k : Nat) (hk : k < 26) : w.cell? ⟨0, k, none⟩ = some (.string ⟨(opT k).toArray⟩) := by
  have hl : k < opL.length := hk
  have := h k opL[k] (List.getElem?_eq_getElem hl)
  rw [this, opT, List.getElem?_eq_getElem hl]; rfl
theorem ops_of {rest : List (String × DataW Unit)} {w : World} (h : laidMet Tryz.prog (("loop.example/g00395/impl.opNames", strData opL) :: rest) w) : OpsE w := by
  intro i z hz
  obtain ⟨ps, ⟨g', t', cs, fuel, p, q, hg', ht', hvar, hd, _, _⟩, _⟩ := h
  have hg : Tryz.prog.globalNamed "loop.example/g00395/impl.opNames" = some 0 := by kernel_rfl
  have hty : (Tryz.prog.globals[0]?).map (·.type) = some 45 := by kernel_rfl
  obtain rfl := Option.some.inj (hg.symm.trans hg')
  obtain rfl := Option.some.inj (hty.symm.trans ht')
  have h2 := strs_trod Tryz.underlying45 Tryz.underlying9 (by kernel_rfl) (by kernel_rfl) hd i z hz
  have h3 := World.var?_cell hg hvar i
  rw [h3]
  simpa using h2
/-- Texts in a row of their own; where there is none, nil. -/
def FtPost (P : List (List UInt8)) (w : World) : Ending → World → Prop := fun e w' =>
  ∃ oa m, e = .returned (.slice oa m m) ∧ m = P.length ∧ (m = 0 → oa = none) ∧ RowRd 1 StrEl w' (.slice oa m m) (strs P) ∧ Below w.heap.size w w'
theorem ft_one {P : List (List UInt8)} {w W : World} {C : Array Value} {T : TypeId} {t : List UInt8} (hP : P = [t]) (hC : C.toList = [.string ⟨t.toArray⟩]) (ht : t.length ≤ 5000000) (hb : Below w.heap.size w W) :
    FtPost P w (.returned (.slice (some ⟨W.heap.size, 0, none⟩) 1 1)) (W.alloc (.cells C T)) := by
  subst hP
  have e : (⟨t.toArray⟩ : ByteArray).size = t.length := by show t.toArray.size = _; simp
  exact ⟨_, 1, rfl, rfl, fun h => absurd h (by decide), lit_strs rfl hC rfl (all1 (by rw [e]; unfold maxLen; omega)) (by rw [strs_length]; simp [maxLen]), below_tr hb (Joins.below_alloc1 W _)⟩
theorem ft_two {P : List (List UInt8)} {w W : World} {C : Array Value} {T : TypeId} {t u : List UInt8} (hP : P = [t, u]) (hC : C.toList = [.string ⟨t.toArray⟩, .string ⟨u.toArray⟩]) (ht : t.length ≤ 5000000) (hu : u.length ≤ 5000000) (hb : Below w.heap.size w W) :
    FtPost P w (.returned (.slice (some ⟨W.heap.size, 0, none⟩) 2 2)) (W.alloc (.cells C T)) := by
  subst hP
  have e : (⟨t.toArray⟩ : ByteArray).size = t.length := by show t.toArray.size = _; simp
  have e' : (⟨u.toArray⟩ : ByteArray).size = u.length := by show u.toArray.size = _; simp
  exact ⟨_, 2, rfl, rfl, fun h => absurd h (by decide), lit_strs rfl hC rfl (all2 (by rw [e]; unfold maxLen; omega) (by rw [e']; unfold maxLen; omega)) (by rw [strs_length]; simp [maxLen]), below_tr hb (Joins.below_alloc1 W _)⟩
set_option maxHeartbeats 4000000 in
theorem iFieldTexts (x : Ins_) (w : World) (hs : x.s.size ≤ 1048576) (ja : I64 x.a) (jb : I64 x.b) (r1 : 1 ≤ x.op) (r2 : x.op ≤ 25) (htab : Lib.TabIs Tryz.prog w "internal/strconv.uint64pow10" .u64 Lib.pow10Tab) :
    Calls Tryz.prog 19 #[.agg #[.int .i64 x.op, .int .i64 x.a, .int .i64 x.b, .string x.s]] w (FtPost (fT x) w) := by
  obtain ⟨op, a, b, s⟩ := x
  simp only at hs ja jb r1 r2
  obtain ⟨S, rfl⟩ : ∃ S : List UInt8, s = ⟨S.toArray⟩ := ⟨s.data.toList, rfl⟩
  have eS : (⟨S.toArray⟩ : ByteArray).toList = S := by rw [pr_toList]
  have eL : (⟨S.toArray⟩ : ByteArray).size = S.length := by show S.toArray.size = _; simp
  rw [eL] at hs
  have lA := numL_le a
  have lB := numL_le b
  have lQ : (quoteL S).length ≤ 4 * S.length + 2 := by have := quote_le ⟨S.toArray⟩; rw [eS, eL] at this; exact this
  obtain ⟨O, hO⟩ : ∃ O, O = Obj.cells #[.int .i64 op, .int .i64 a, .int .i64 b, .string ⟨S.toArray⟩] 39 := ⟨_, rfl⟩
  have bO : Below w.heap.size w (w.alloc O) := Joins.below_alloc1 w O
  have z : w.heap.size < (w.alloc O).heap.size := by simp
  have y1 : (w.alloc O).cell? ⟨w.heap.size, 1, none⟩ = some (.int .i64 a) := by rw [hO]; simp
  have y2 : (w.alloc O).cell? ⟨w.heap.size, 2, none⟩ = some (.int .i64 b) := by rw [hO]; simp
  have y3 : (w.alloc O).cell? ⟨w.heap.size, 3, none⟩ = some (.string ⟨S.toArray⟩) := by rw [hO]; simp
  have HT := fun W (hW : Below w.heap.size w W) => Lib.hid (tab_below htab hW)
  have HA := fun W (hW : Below w.heap.size w W) => Lib.hid (iNumText a W ja (HT W hW).out)
  have HBt := fun W (hW : Below w.heap.size w W) => Lib.hid (iNumText b W jb (HT W hW).out)
  have HQ := fun W => Lib.hid (show Calls Tryz.prog 42 #[.string ⟨S.toArray⟩] W fun e w' => e = .returned (.string ⟨(quoteL S).toArray⟩) ∧ Below W.heap.size W w' from iQuote ⟨S.toArray⟩ W (by rw [eL]; exact hs))
  clear htab HT ja jb
  rcases insGroups op r1 r2 with hg | hg | hg | hg | hg | hg
  · have HF := Lib.hid (show fT ⟨op, a, b, ⟨S.toArray⟩⟩ = [numL a] from by rcases hg with rfl | rfl | rfl | rfl | rfl | rfl | rfl | rfl <;> rfl)
    clear r1 r2 HQ HBt y1 y2 y3 z
    generalize fT _ = P at *
    rcases hg with rfl | rfl | rfl | rfl | rfl | rfl | rfl | rfl
    all_goals
      go_enter Tryz.func19, Tryz.ntmps19
      go_wp2_with fail
      rw [← hO]
      clear hO
      generalize w.alloc O = W0 at *
      refine (HA _ bO).out.mono ?_
      rintro e w1 ⟨rfl, hb1⟩
      go_wp2
      go_ret
      exact ft_one HF.out rfl (by omega) (below_tr bO hb1)
  · have HF := Lib.hid (show fT ⟨op, a, b, ⟨S.toArray⟩⟩ = [numL a, numL b] from by subst hg; rfl)
    clear r1 r2 HQ
    generalize fT _ = P at *
    subst hg
    go_enter Tryz.func19, Tryz.ntmps19
    go_wp2_with fail
    rw [← hO]
    clear hO
    generalize w.alloc O = W0 at *
    have KS : ∀ W, Below W0.heap.size W0 W → W.cell? ⟨w.heap.size, 1, none⟩ = some (.int .i64 a) ∧ W.cell? ⟨w.heap.size, 2, none⟩ = some (.int .i64 b) ∧ Below W0.heap.size W0 W := fun W h =>
      ⟨(h.cell (p := ⟨w.heap.size, 1, none⟩) z).trans y1, (h.cell (p := ⟨w.heap.size, 2, none⟩) z).trans y2, h⟩
    go_region_held3 (fun W => W.cell? ⟨w.heap.size, 1, none⟩ = some (.int .i64 a) ∧ W.cell? ⟨w.heap.size, 2, none⟩ = some (.int .i64 b) ∧ Below W0.heap.size W0 W)
      (first | exact KS _ (Below.refl _ _) | exact KS _ (Below.refl _ _).drew | exact KS _ ((Below.refl _ _).drew.trans hbA) | exact KS _ (below_tr ((Below.refl _ _).drew.trans hbA) hbB) | exact KS _ (below_tr (below_tr ((Below.refl _ _).drew.trans hbA) hbB) (Joins.below_alloc1 _ _)))
      (first | (have hA' := hbA; go_at_call 18; refine (HBt _ (below_tr bO ((Below.refl _ _).drew.trans hA'))).out.mono ?_; rintro e wB ⟨rfl, hbB⟩) | (go_at_call 18; refine (HA _ (below_tr bO (Below.refl _ _).drew)).out.mono ?_; rintro e wA ⟨rfl, hbA⟩))
    go_wp2
    go_ret
    exact ft_two HF.out rfl (by omega) (by omega) (below_tr bO (below_tr ((Below.refl _ _).drew.trans hbA) hbB))
  · have HF := Lib.hid (show fT ⟨op, a, b, ⟨S.toArray⟩⟩ = [numL a, S] from by subst hg; simp [fT, eS])
    clear r1 r2 HQ HBt
    generalize fT _ = P at *
    subst hg
    go_enter Tryz.func19, Tryz.ntmps19
    go_wp2_with fail
    rw [← hO]
    clear hO
    generalize w.alloc O = W0 at *
    have KS : ∀ W, Below W0.heap.size W0 W → W.cell? ⟨w.heap.size, 1, none⟩ = some (.int .i64 a) ∧ W.cell? ⟨w.heap.size, 3, none⟩ = some (.string ⟨S.toArray⟩) ∧ Below W0.heap.size W0 W := fun W h =>
      ⟨(h.cell (p := ⟨w.heap.size, 1, none⟩) z).trans y1, (h.cell (p := ⟨w.heap.size, 3, none⟩) z).trans y3, h⟩
    go_region_held3 (fun W => W.cell? ⟨w.heap.size, 1, none⟩ = some (.int .i64 a) ∧ W.cell? ⟨w.heap.size, 3, none⟩ = some (.string ⟨S.toArray⟩) ∧ Below W0.heap.size W0 W)
      (first | exact KS _ (Below.refl _ _) | exact KS _ (Below.refl _ _).drew | exact KS _ ((Below.refl _ _).drew.trans hbA) | exact KS _ (below_tr ((Below.refl _ _).drew.trans hbA) (Joins.below_alloc1 _ _)))
      ((go_at_call 18; refine (HA _ (below_tr bO (Below.refl _ _).drew)).out.mono ?_; rintro e wA ⟨rfl, hbA⟩))
    go_wp2
    go_ret
    exact ft_two HF.out rfl (by omega) (by omega) (below_tr bO ((Below.refl _ _).drew.trans hbA))
  · have HF := Lib.hid (show fT ⟨op, a, b, ⟨S.toArray⟩⟩ = [S] from by rcases hg with rfl | rfl <;> simp [fT, eS])
    clear r1 r2 HQ HBt HA y1 y2 y3 z
    generalize fT _ = P at *
    rcases hg with rfl | rfl
    all_goals
      go_enter Tryz.func19, Tryz.ntmps19
      go_wp2
      go_ret
      have := ft_one (T := 9) (C := #[.string ⟨S.toArray⟩]) HF.out rfl (by omega) bO
      rw [hO] at this
      simpa using this
  · have HF := Lib.hid (show fT ⟨op, a, b, ⟨S.toArray⟩⟩ = [quoteL S] from by subst hg; simp [fT, eS])
    clear r1 r2 HBt HA y1 y2 y3 z
    generalize fT _ = P at *
    subst hg
    go_enter Tryz.func19, Tryz.ntmps19
    go_wp2_with fail
    rw [← hO]
    clear hO
    generalize w.alloc O = W0 at *
    refine (HQ _).out.mono ?_
    rintro e w1 ⟨rfl, hb1⟩
    go_wp2
    go_ret
    exact ft_one HF.out rfl (by omega) (below_tr bO hb1)
  · have HF := Lib.hid (show fT ⟨op, a, b, ⟨S.toArray⟩⟩ = [] from by rcases hg with rfl | rfl | rfl | rfl | rfl | rfl | rfl | rfl | rfl | rfl | rfl | rfl <;> rfl)
    clear r1 r2 HBt HA HQ y1 y2 y3 z
    generalize fT _ = P at *
    rcases hg with rfl | rfl | rfl | rfl | rfl | rfl | rfl | rfl | rfl | rfl | rfl | rfl
    all_goals
      go_enter Tryz.func19, Tryz.ntmps19
      go_wp2
      go_ret
      exact ⟨none, 0, rfl, by rw [HF.out]; rfl, fun _ => rfl, by rw [HF.out]; exact .inl ⟨rfl, _, _, rfl⟩, Joins.below_alloc1 w _⟩
end Go.Proofs.YtkhemdagghlcdaaGreatDoor
