/- The program's TyCanon: the numbers of the variables as a map, filled by a closure. -/
import Derived.Test.YtciohamonmmciaaTreeQ
import Derived.Test.YtciohamonmmciaaSbI
import Derived.Maps.Views
namespace Go.Proofs.Ytciohamonmmciaa
set_option linter.unusedVariables false
set_option maxRecDepth 100000
open Go.ChangeShapes Go.WideShapes Go.ChangeAt Go.RowKit Go.Maps Go.WideMaps

/-- The place of a number among those that were seen. -/
def placeOf (seen : List Int) (n : Int) : Nat := seen.findIdx (fun x => decide (x = n))
def seeN (seen : List Int) (n : Int) : List Int := if n ∈ seen then seen else seen ++ [n]
def canV (seen : List Int) (n : Int) : List TyI × List Int := ([⟨(placeOf seen n : Int), noName, 0⟩], seeN seen n)
theorem place_lt {seen : List Int} {n : Int} (h : n ∈ seen) : placeOf seen n < seen.length := List.findIdx_lt_length_of_exists ⟨n, h, by simp⟩
theorem place_not {seen : List Int} {n : Int} (h : n ∉ seen) : placeOf seen n = seen.length := List.findIdx_eq_length_of_false fun x hx => by simp; exact fun e => h (e ▸ hx)
theorem place_le (seen : List Int) (n : Int) : placeOf seen n ≤ seen.length := List.findIdx_le_length
theorem place_app {seen : List Int} {n m : Int} (h : m ∈ seen) : placeOf (seen ++ [n]) m = placeOf seen m := by
  unfold placeOf
  rw [List.findIdx_append, if_pos (List.findIdx_lt_length_of_exists ⟨m, h, by simp⟩)]
theorem place_new {seen : List Int} {n : Int} (h : n ∉ seen) : placeOf (seen ++ [n]) n = seen.length := by
  have h1 := place_not h
  unfold placeOf at h1 ⊢
  rw [List.findIdx_append, h1]
  simp
theorem nodup_len : ∀ (N : Nat) (l : List Int), l.Nodup → (∀ x ∈ l, 0 ≤ x ∧ x < N) → l.length ≤ N := by
  intro N
  induction N with
  | zero => intro l _ h; cases l with
    | nil => simp
    | cons x l => have := h x (by simp); omega
  | succ N ih =>
    intro l hn h
    by_cases hm : (N : Int) ∈ l
    · have h1 := ih (l.erase N) (hn.erase _) fun x hx => by
        have h2 := (hn.mem_erase_iff).1 hx
        have := h x h2.2
        have := h2.1
        omega
      rw [List.length_erase_of_mem hm] at h1
      omega
    · have := ih l hn fun x hx => by
        have := h x hx
        have : x ≠ N := fun e => hm (e ▸ hx)
        omega
      omega
/-- The map's datum holds the places of what was seen. -/
structure SeenD (seen : List Int) (D : DataW Unit) : Prop where
  nd : seen.Nodup
  bd : ∀ x ∈ seen, 0 ≤ x ∧ x < (10000 : Nat)
  size : Maps.size D = seen.length
  at_ : ∀ n ∈ seen, D.atKey (.int .i64 n) (.lit (.int .i64 0)) = .lit (.int .i64 (placeOf seen n : Int))
  has_ : ∀ n, has D (.int .i64 n) = decide (n ∈ seen)
theorem SeenD.zero : SeenD [] (.map []) := ⟨List.nodup_nil, fun x h => by simp at h, rfl, fun n h => by simp at h, fun n => rfl⟩
theorem SeenD.len {seen : List Int} {D : DataW Unit} (h : SeenD seen D) : seen.length ≤ 10000 := nodup_len 10000 seen h.nd h.bd
theorem SeenD.put {seen : List Int} {D : DataW Unit} (h : SeenD seen D) (hT : Tidy D) (hD : IsMap D) {n : Int} (hn : n ∉ seen) (hb : 0 ≤ n ∧ n < (10000 : Nat)) : SeenD (seen ++ [n]) (D.put (.int .i64 n) (.lit (.int .i64 (seen.length : Int)))) := by
  have hk : WideAt.IsKeyLit (Lit.int .i64 n) := by simp [WideAt.IsKeyLit]
  have hne : ∀ m : Int, m ≠ n → Lit.int .i64 m ≠ Lit.int .i64 n := fun m h e => h (by simpa using e)
  refine ⟨?_, fun x hx => ?_, ?_, fun m hm => ?_, fun m => ?_⟩
  · refine List.nodup_append.2 ⟨h.nd, by simp, fun a ha b hb e => ?_⟩
    simp at hb
    exact hn (by rw [← hb, ← e]; exact ha)
  · rcases List.mem_append.1 hx with hx | hx
    · exact h.bd x hx
    · simp at hx; rw [hx]; exact hb
  · rw [size_put hT, h.has_ n, if_neg (by simpa using hn), h.size]; simp
  · by_cases e : m = n
    · subst e
      rw [atKey_put_same hD hk, place_new hn]
    · have hms : m ∈ seen := by
        rcases List.mem_append.1 hm with h | h
        · exact h
        · simp at h; exact absurd h e
      rw [atKey_put_other (hne m e), h.at_ m hms, place_app hms]
  · by_cases e : m = n
    · subst e; rw [has_put_same hD hk]; simp
    · rw [has_put_other (hne m e), h.has_ m]; simp [e]
theorem zero_var (w : World) : (zeroValue 77).run Try.prog w = .ok (.int .i64 0) w := by kernel_rfl
theorem key_var {n : Int} (hn : I64 n) : keyOf Try.prog 77 (.int .i64 n) = some (.int .i64 n) := keyOf_int_mk Try.underlying77 (wf_i64 hn)
def CanJ (bm gm : Nat) (seen : List Int) (w : World) : Prop :=
  ∃ D : DataW Unit, w.ownsMap Try.prog 77 (plainElem Try.prog 77) gm seen.length D ∧ SeenD seen D ∧ w.cell? ⟨bm, 0, none⟩ = some (.map (some gm))
set_option maxHeartbeats 1000000 in
theorem iNumber (bm gm : Nat) (seen : List Int) (n : Int) (w : World) (hn : 0 ≤ n ∧ n ≤ 9999) (hne : bm ≠ gm) (hb : bm < w.heap.size) (hJ : CanJ bm gm seen w) :
    Calls Try.prog 44 #[.int .i64 n, .pointer (some ⟨bm, 0, none⟩)] w fun e w' => e = .returned (.iface 77 (.int .i64 (placeOf seen n : Int))) ∧ CanJ bm gm (seeN seen n) w' ∧ ButF [gm] w w' := by
  obtain ⟨D, hown, hS, hc⟩ := hJ
  have hI : I64 n := ⟨by omega, by omega⟩
  have K := int_keyed (P := Try.prog) Try.underlying77
  obtain ⟨v, ps, hrun, hv⟩ := hown.look_ok K Try.underlying76 (zero_var w) (plainElem_int Try.underlying77 (by decide)) (key_var hI)
  obtain ⟨c, rfl, -, -⟩ := plainElem_int_inv Try.underlying77 hv
  rw [hS.has_ n] at hrun
  have hlen := hS.len
  by_cases hm : n ∈ seen
  · have hd : decide (n ∈ seen) = true := by simpa using hm
    rw [hd] at hrun
    obtain ⟨c2, hrun2, hat, -⟩ := hown.lookup_int K Try.underlying76 Try.underlying77 (zero_var w) (key_var hI)
    have hc2 : c2 = (placeOf seen n : Int) := by rw [hS.at_ n hm] at hat; simpa using hat.symm
    have HC := Lib.hid hc2
    have HS := Lib.hid (show seeN seen n = seen from if_pos hm)
    have HJ : Hid (CanJ bm gm seen w) := Lib.hid ⟨D, hown, hS, hc⟩
    clear hat hc2 hd hm hown hS hv
    go_enter Try.func44, Try.ntmps44
    go_wp2
    go_ret
    exact ⟨by rw [← HC.out]; rfl, by rw [HS.out]; exact HJ.out, ButF.refl _ _⟩
  · have hd : decide (n ∈ seen) = false := by simpa using hm
    rw [hd] at hrun
    have hsz := hown.len Try.underlying76 3
    rw [hS.size] at hsz
    have HP := Lib.hid (hS.put (hown.tidy K) hown.isMap hm ⟨hn.1, by omega⟩)
    have HS := Lib.hid (show seeN seen n = seen ++ [n] from if_neg hm)
    have HN := Lib.hid (place_new hm)
    have HN2 := Lib.hid (place_not hm)
    clear hd hm hS hv
    go_enter Try.func44, Try.ntmps44
    go_wp2_with (at_mapUpdate; refine wpList_mapUpdate_own _ rfl _ _ _ 76 rfl 77 77 K Try.underlying76 (plainElem (H := Unit) Try.prog 77) gm seen.length _ rfl hown (by unfold maxLen; omega) _ _ _ rfl rfl (key_var hI) _ [] (plainElem_int Try.underlying77 (wf_i64 (i64_nat seen.length (by omega)))) ?_; intro w1 hown1 hgrow1; have q1 : w1.cell? ⟨bm, 0, none⟩ = some (.map (some gm)) := (World.cell?_of_block (a := ⟨bm, 0, none⟩) (hgrow1.block bm hb (by simp <;> omega))).trans hc; obtain ⟨c2, hrun2, hat, -⟩ := hown1.lookup_int K Try.underlying76 Try.underlying77 (zero_var w1) (key_var hI))
    have hc2 : c2 = (placeOf seen n : Int) := by
      rw [HP.out.at_ n (by simp), HN.out] at hat
      rw [HN2.out]
      simpa using hat.symm
    go_ret
    exact ⟨by rw [← hc2]; rfl, ⟨_, by rw [HS.out, List.length_append]; exact hown1, by rw [HS.out]; exact HP.out, q1⟩, ⟨hgrow1.os, hgrow1.tape, hgrow1.output, hgrow1.size, fun k hk hn => hgrow1.block k hk (by simp at hn ⊢; exact hn)⟩⟩
theorem e_iNumber : ∀ args w, (callFunc 44 args).run Try.prog w = .ok (.enter 44 args) w := enters_of Try.func44 (by kernel_rfl) rfl
theorem canBy (bm gm B0 : Nat) (h1 : bm < B0) (h2 : gm < B0) (hne : bm ≠ gm) : PutBy (fun n => 0 ≤ n ∧ n ≤ 9999) canV (CanJ bm gm) B0 [gm] 44 #[.pointer (some ⟨bm, 0, none⟩)] where
  eg := e_iNumber
  low := fun k hk => by simp at hk; omega
  keep := fun s W W' ⟨D, hown, hS, hc⟩ hb => by
    obtain ⟨es, clock, hg, h3⟩ := hown
    exact ⟨D, ⟨es, clock, (hb.block gm h2).trans hg, h3⟩, hS, (hb.cell (p := ⟨bm, 0, none⟩) h1).trans hc⟩
  by_ := fun s W n hn hI hJ hB => (iNumber bm gm s n W hn hne (by omega) hJ).mono fun e w' ⟨he, hj, hbut⟩ => by
    obtain ⟨D, hown, hS, hc⟩ := hJ
    have := hS.len
    have := place_le s n
    exact ⟨_, he, .var _ (i64_nat _ (by omega)), hj, hbut⟩
end Go.Proofs.Ytciohamonmmciaa
