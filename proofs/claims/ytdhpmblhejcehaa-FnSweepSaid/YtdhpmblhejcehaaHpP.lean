/- What the law of Sweep is made of: a heap drawn, hasInt, and a heap's cells in two parts. -/
import Derived.Test.YtdhpmblhejcehaaHpG
import Derived.Test.YtdhpmblhejcehaaNew
import Derived.Test.YtdhpmblhejcehaaHqT
import Derived.Test.YtdhpmblhejcehaaHpW
namespace Go.Proofs.Ytdhpmblhejcehaa
set_option linter.unusedVariables false
set_option maxRecDepth 100000
open Go.ChangeShapes Go.WideShapes Go.ChangeAt Go.RowKit

theorem vl5_ok {x : Vl} (h : Vl5 x) : VlOk x := ⟨h.1, h.2.1, Nat.le_trans h.2.2 (by unfold maxLen; omega)⟩
theorem ce5_ok {x : Ce} (h : Ce5 x) : CeOk x := ⟨h.1, h.2.1, Nat.le_trans h.2.2.1 (by unfold maxLen; omega), vl5_ok h.2.2.2.1, vl5_ok h.2.2.2.2⟩
theorem bulkL_le {α : Type} (f : α → Nat) (c : Nat) : ∀ l : List α, (∀ x ∈ l, f x ≤ c) → bulkL f l ≤ l.length * (c + 1)
  | [], _ => by simp [bulkL]
  | x :: l, h => by
    have h1 := h x (by simp)
    have h2 := bulkL_le f c l (fun y hy => h y (by simp [hy]))
    simp only [bulkL, List.length_cons, Nat.add_mul, Nat.one_mul] at h2 ⊢
    omega
theorem vl5_bulk {l : List Vl} (h : ∀ x ∈ l, Vl5 x) (hl : l.length ≤ 5) : bulkL bVl l ≤ 1048576 := by
  have := bulkL_le bVl 5 l (fun x hx => (h x hx).2.2)
  have : l.length * (5 + 1) ≤ 5 * (5 + 1) := Nat.mul_le_mul_right _ hl
  omega
theorem ce5_bulk {l : List Ce} (h : ∀ x ∈ l, Ce5 x) (hl : l.length ≤ 11) : bulkL bCe l ≤ 1048576 := by
  have := bulkL_le bCe 15 l (fun x hx => by
    have h1 := (h x hx).2.2.1
    have h2 := (h x hx).2.2.2.1.2.2
    have h3 := (h x hx).2.2.2.2.2.2
    unfold bCe bVl; omega)
  have : l.length * (15 + 1) ≤ 11 * (15 + 1) := Nat.mul_le_mul_right _ hl
  omega
def DrawnHR (w : World) (e : Ending) (w' : World) : Prop :=
  ∃ (u v : Value) (h : List Ce) (r : List Vl), e = .returned (.tuple #[u, v]) ∧ RowRd 9 CeEl w' u h ∧ RowRd 3 VlEl w' v r ∧ bulkL bCe h ≤ 1048576 ∧ bulkL bVl r ≤ 1048576 ∧ Below w.heap.size w w'
set_option maxHeartbeats 1000000 in
theorem sDrawSweep (a : Option Addr) (len cap : Nat) (zs : List Int) (w : World) (hB : Bytes w.heap.size w a len cap zs) :
    Calls Try.prog 8 #[.slice a len cap] w (DrawnHR w) := by
  go_enter Try.func8, Try.ntmps8
  go_wp2_with fail
  refine (l01New _ _ _ _ _ hB).mono ?_
  rintro e w1 ⟨P, rfl, hM⟩
  go_wp2_with fail
  refine (sAny _ _ _ _ _ _ _ hM.1).mono ?_
  rintro e w2 ⟨u, v, h, r, rfl, hu, hv, hl, hr, h5, r5, hM2⟩
  have HM := Lib.hid (below_all (hM.trans hM2))
  obtain ⟨ua, uc, rfl⟩ := own_slN hu
  obtain ⟨va, vcc, rfl⟩ := own_slN hv
  obtain ⟨F1, ho1, -⟩ := own_cells hu (fun x hx => ce5_ok (h5 x hx))
  obtain ⟨F2, ho2, -⟩ := own_vals hv (fun x hx => vl5_ok (r5 x hx))
  have R1 := Lib.hid (ho1.reads CeOwn.reads)
  have R2 := Lib.hid (ho2.reads VlOwn.reads)
  have Z1 := Lib.hid (ce5_bulk h5 hl)
  have Z2 := Lib.hid (vl5_bulk r5 hr)
  clear hu hv hM hM2 ho1 ho2 h5 r5
  go_wp2
  refine bodyPost_ret (v := .tuple #[.slice ua h.length uc, .slice va r.length vcc]) (by simp [results, Try.results8, go_sem]) rfl ?_
  exact ⟨_, _, h, r, rfl, R1.out, R2.out, Z1.out, Z2.out, HM.out⟩
theorem lHasInt (l : List Int) (n : Int) (v : Value) (w : World) (hR : RowRd 1 IntEl w v l) :
    Calls Try.prog 13 #[v, .int .i64 n] w fun e w' => e = .returned (.bool (decide (n ∈ l))) ∧ w = w' := by
  obtain ⟨p, cap, rfl, hm, hR⟩ := hR.form
  unfold maxLen at hm
  go_enter Try.func13, Try.ntmps13
  go_wp2
  go_loop [9] (fun i => ∃ k : Nat, i = .int .i64 k ∧ k ≤ l.length ∧ decide (n ∈ l.drop k) = decide (n ∈ l)) (fun i => l.length - (intOf i).toNat)
  case atStart => exact ⟨0, rfl, Nat.zero_le _, rfl⟩
  case round =>
    obtain ⟨k, rfl, hk, hno⟩ := hrel
    have HA := Lib.hid hno
    clear hno
    by_cases hlt : k < l.length
    · obtain ⟨b, o, rfl, hbw, hc⟩ := hR (by omega)
      have ex := hc k hlt
      rw [Nat.mul_one] at ex
      have HS := Lib.hid (List.drop_eq_getElem_cons hlt)
      clear hc hR
      generalize l[k] = x at *
      obtain ⟨e0, i0⟩ := ex
      by_cases hxy : x = n
      · subst hxy
        have HT := Lib.hid (show decide (x ∈ l) = true from by rw [← HA.out, HS.out]; simp)
        go_wp2
        go_ret
        rw [HT.out]
        exact ⟨rfl, rfl⟩
      · have HT := Lib.hid (show decide (n ∈ l.drop (k + 1)) = decide (n ∈ l) from by rw [← HA.out, HS.out]; simp [Ne.symm hxy])
        go_wp2
        go_round
        case rel => exact ⟨k + 1, by go_num, by omega, HT.out⟩
        case measure => simp [intOf]; omega
    · have HT := Lib.hid (show decide (n ∈ l) = false from by rw [← HA.out, List.drop_eq_nil_of_le (by omega)]; simp)
      go_wp2
      go_ret
      rw [HT.out]
      exact ⟨rfl, rfl⟩
theorem placesL_mem (f : Nat → Bool) (i : Nat) : ∀ k, (i : Int) ∈ placesL f k ↔ i < k ∧ f i = true
  | 0 => by simp [placesL]
  | k + 1 => by
    unfold placesL
    rw [List.mem_append, placesL_mem f i k]
    by_cases hf : f k = true
    · rw [if_pos hf, List.mem_singleton]
      constructor
      · rintro (⟨h1, h2⟩ | h)
        · exact ⟨by omega, h2⟩
        · obtain rfl : i = k := by omega
          exact ⟨by omega, hf⟩
      · rintro ⟨h1, h2⟩
        by_cases h : i = k
        · exact .inr (by omega)
        · exact .inl ⟨by omega, h2⟩
    · rw [if_neg hf]
      constructor
      · rintro (⟨h1, h2⟩ | h)
        · exact ⟨by omega, h2⟩
        · simp at h
      · rintro ⟨h1, h2⟩
        by_cases h : i = k
        · subst h; exact absurd h2 hf
        · exact .inl ⟨by omega, h2⟩
theorem placesL_two (f : Nat → Bool) : ∀ k, (placesL f k).length + (placesL (fun i => !f i) k).length = k
  | 0 => rfl
  | k + 1 => by
    have := placesL_two f k
    unfold placesL
    cases f k <;> simp <;> omega
theorem placesL_has (f : Nat → Bool) {i k : Nat} (h : i < k) : decide ((i : Int) ∈ placesL f k) = f i := by
  have := placesL_mem f i k
  cases hf : f i <;> simp [this, h, hf]
end Go.Proofs.Ytdhpmblhejcehaa
