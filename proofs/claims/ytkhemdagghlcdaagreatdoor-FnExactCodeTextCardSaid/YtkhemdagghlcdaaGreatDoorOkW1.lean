/- The program's walk with a visitor, by what the visitor keeps. -/
import Derived.Test.YtkhemdagghlcdaaGreatDoorOkIMath
import Derived.Test.YtkhemdagghlcdaaGreatDoorText
import Derived.WalkKit
import Derived.WalkSmall
import Derived.ProofKit
import Derived.OpenShut
import Derived.Lib.Hide
import Derived.Lib.SmallJoins
import Derived.StillTailTactics
import Derived.Shelf.Abstract
import Derived.Laws.EntriesVeiled
namespace Go.Proofs.YtkhemdagghlcdaaGreatDoor
set_option linter.unusedVariables false
set_option maxRecDepth 100000
open Go.ChangeShapes Go.WideShapes Go.ChangeAt Go.RowKit

theorem iWalk {σ : Type} (V : σ → Nat → Nat → Int → Bool × σ) (J : σ → World → Prop) (g : Nat) (lb : Array Value) (eg : ∀ args w, (callFunc g args).run Tryz.prog w = .ok (.enter g args) w) (cs : List Int) (v : Value) (hl : cs.length ≤ 1048576)
    (hJ : ∀ s W, J s W → RowRd 1 IntEl W v cs)
    (hV : ∀ s W (a d : Nat) (n : Int) (h : a < cs.length), J s W → d ≤ cs[a].toNat → 0 ≤ n → n ≤ cs.length → Calls Tryz.prog g (#[.int .i64 a, .int .i64 d, .int .i64 n] ++ lb) W fun e w' => e = .returned (.bool (V s a d n).1) ∧ J (V s a d n).2 w') :
    ∀ (f : Nat) (s : σ) (a : Nat) (w : World) (hs : J s w) (ha : a ≤ cs.length) (hf : cs.length < a + f),
      Calls Tryz.prog 90 #[v, .int .i64 a, .func (.func g) #[] lb] w fun e w' => e = .returned (.int .i64 (walkS V cs f s a).1) ∧ J (walkS V cs f s a).2 w' := by
  intro f
  induction f with
  | zero => intro s a w hs ha hf; omega
  | succ f ih =>
    intro s a w hs ha hf
    obtain ⟨p, cap, rfl, hm, hR⟩ := (hJ s w hs).form
    by_cases hlt : a < cs.length
    · obtain ⟨bp, op, rfl, _, hcs⟩ := hR (by omega)
      have hci := (hcs a hlt).2
      have HB := Lib.hid (walkS_in V cs f s a hlt)
      have hge : ¬ (cs.length : Int) ≤ (a : Int) := by omega
      have hv0 := hV s w a 0 ((a : Int) + 1) hlt hs (Nat.zero_le _) (by omega) (by omega)
      obtain ⟨b, s1, hb⟩ : ∃ b s1, V s a 0 ((a : Int) + 1) = (b, s1) := ⟨_, _, rfl⟩
      rw [hb] at hv0
      have HW := Lib.hid hb
      clear hb hR hcs
      cases b
      · go_enter Tryz.func90, Tryz.ntmps90
        go_wp2_with (go_at_fn g; refine hv0.mono ?_; rintro e w1 ⟨rfl, hj1⟩)
        go_ret
        rw [HB.out, HW.out]
        exact ⟨rfl, hj1⟩
      · have HF := Lib.hid (show walkS V cs (f + 1) s a = iterS (walkS V cs f) (fun s d n => V s a d n) cs[a].toNat 0 ((a : Int) + 1) s1 from by rw [HB.out, HW.out]; rfl)
        have hrd : ∀ W, J s1 W → W.cell? ⟨bp, op + a, none⟩ = some (.int .i64 cs[a]) := by
          intro W hj
          obtain ⟨p', cap', e1, _, h2⟩ := (hJ s1 W hj).form
          cases e1
          obtain ⟨b, o, e2, _, h3⟩ := h2 (by omega)
          cases e2
          have := (h3 a hlt).1
          rw [Nat.mul_one] at this
          exact this
        have HV := Lib.hid fun s W d n hj hd h0 h1 => hV s W a d n hlt hj hd h0 h1
        clear HB HW
        generalize cs[a] = c at *
        obtain ⟨hc1, hc2⟩ := hci
        go_enter Tryz.func90, Tryz.ntmps90
        go_wp2_with (go_at_fn g; refine hv0.mono ?_; rintro e w1 ⟨rfl, hj1⟩; have hcell := hrd w1 hj1)
        go_loopw [7, 26] (fun nx i wr => ∃ (k m : Nat) (s' : σ), i = .int .i64 k ∧ nx = .int .i64 m ∧ k ≤ c.toNat ∧ a < m ∧ m ≤ cs.length ∧ J s' wr ∧ iterS (walkS V cs f) (fun s d n => V s a d n) (c.toNat - k) k m s' = iterS (walkS V cs f) (fun s d n => V s a d n) c.toNat 0 ((a : Int) + 1) s1) (fun _ i _ => c.toNat - (intOf i).toNat)
        case atStart => exact ⟨0, a + 1, s1, rfl, by go_num, Nat.zero_le _, by omega, by omega, hj1, by simp⟩
        case round =>
          obtain ⟨k, m, s', rfl, rfl, hk, ham, hml, hj, hit⟩ := hrel
          have HI := Lib.hid hit
          clear hit hcell hrd hv0
          by_cases hlt2 : (k : Int) < c
          · have hg := walkS_gt V cs f s' (m : Int) (by omega)
            have ihc := ih s' m wr hj hml (by omega)
            obtain ⟨r, s2, hr⟩ : ∃ r s2, walkS V cs f s' (m : Int) = (r, s2) := ⟨_, _, rfl⟩
            rw [hr] at ihc hg
            simp only at ihc hg
            obtain ⟨t, ht⟩ : ∃ t, c.toNat - k = t + 1 := ⟨c.toNat - k - 1, by omega⟩
            rw [ht] at HI
            have hkc : k + 1 ≤ c.toNat := by omega
            by_cases hneg : r < 0
            · have HN := Lib.hid (iterS_neg (V := fun s d n => V s a d n) (t := t) (d := k) hr hneg)
              have HR := Lib.hid hr
              clear hr
              go_wp2_with (go_at_call 90; refine ihc.mono ?_; rintro e w2 ⟨rfl, hj2⟩)
              go_ret
              rw [HF.out, ← HI.out, HN.out]
              exact ⟨rfl, hj2⟩
            · obtain ⟨n, rfl⟩ : ∃ n : Nat, r = n := ⟨r.toNat, by omega⟩
              have hv1 := fun W hj' => Lib.hid (HV.out s2 W (k + 1) (n : Int) hj' hkc (by omega) (by omega))
              obtain ⟨b, s3, hb⟩ : ∃ b s3, V s2 a (k + 1) (n : Int) = (b, s3) := ⟨_, _, rfl⟩
              rw [hb] at hv1
              have hnd : decide ((n : Int) < 0) = false := by simp
              cases b
              · have HN := Lib.hid (iterS_no (V := fun s d n => V s a d n) (t := t) (d := k) hr hneg hb)
                have HR := Lib.hid hr
                clear hr hb
                go_wp2_with (first
                  | (go_at_call 90; refine ihc.mono ?_; rintro e w2 ⟨rfl, hj2⟩; have hv2 := (hv1 w2 hj2).out)
                  | (go_at_fn g; refine hv2.mono ?_; rintro e w3 ⟨rfl, hj3⟩))
                go_ret
                rw [HF.out, ← HI.out, HN.out]
                exact ⟨rfl, hj3⟩
              · have HN := Lib.hid (iterS_yes (V := fun s d n => V s a d n) (t := t) (d := k) hr hneg hb)
                have HR := Lib.hid hr
                clear hr hb
                go_wp2_with (first
                  | (go_at_call 90; refine ihc.mono ?_; rintro e w2 ⟨rfl, hj2⟩; have hv2 := (hv1 w2 hj2).out)
                  | (go_at_fn g; refine hv2.mono ?_; rintro e w3 ⟨rfl, hj3⟩))
                go_roundw
                case rel => exact ⟨k + 1, n, s3, by go_num, rfl, by omega, by omega, by omega, hj3, by rw [← HI.out, HN.out, show c.toNat - (k + 1) = t from by omega]⟩
                case measure => simp [intOf]; omega
          · go_wp2
            go_ret
            rw [HF.out, ← HI.out, show c.toNat - k = 0 from by omega]
            exact ⟨rfl, hj⟩
    · have HB := Lib.hid (walkS_out V cs (f + 1) s a (by omega))
      have hge : (cs.length : Int) ≤ (a : Int) := by omega
      clear hR
      go_enter Tryz.func90, Tryz.ntmps90
      go_wp2
      go_ret
      rw [HB.out]
      exact ⟨rfl, hs⟩
end Go.Proofs.YtkhemdagghlcdaaGreatDoor
