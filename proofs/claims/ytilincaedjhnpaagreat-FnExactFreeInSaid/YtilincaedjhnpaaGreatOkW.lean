/- The model's check of a node: matches. -/
import Derived.Test.YtilincaedjhnpaaGreatOkV
namespace Go.Proofs.YtilincaedjhnpaaGreat
set_option linter.unusedVariables false
set_option maxRecDepth 100000
open Go.ChangeShapes Go.WideShapes Go.ChangeAt Go.RowKit

set_option maxHeartbeats 8000000 in
theorem sNode_k13 (vt vn : Value) (at_ : Int) (s : ByteArray) (kids : List Int) (pats : List (List PN)) (nodes : List Nd) (uk up : Value) (w : World)
    (ht : ∃ pt nt ct, vt = .slice pt nt ct) (hn : RowRd 6 NdEl w vn nodes) (hk : RowRd 1 IntEl w uk kids) (hp : RowRd 1 PatEl w up pats) (hs : s.size ≤ maxLen) (hh : NdHead ⟨13, at_, 0, s, kids, pats⟩) :
    Calls Tryz.prog 27 #[.agg #[vt, vn], .agg #[.int .i64 13, .int .i64 at_, .int .i64 0, .string s, uk, up]] w fun e w' => e = .returned (.bool (propB (NdOkP nodes ⟨13, at_, 0, s, kids, pats⟩))) ∧ Below w.heap.size w w' := by
  have hn0 := hn
  have hp0 := hp
  obtain ⟨pt, nt, ct, rfl⟩ := ht
  obtain ⟨pn, cn, rfl, hmn, hnf⟩ := hn.form
  obtain ⟨bk, ck, rfl, hmk, hkf⟩ := hk.form
  obtain ⟨bp, cp, rfl, hmp, hpf⟩ := hp.form
  clear hn hk hp
  unfold maxLen at hmn hmk hmp
  have HH := Lib.hid hh
  simp only [NdHead] at hh
  have d1 : decide (at_ < 0) = false := by simp; omega
  have f1 : ¬ at_ < 0 := by omega
  clear hh
  go_enter Tryz.func27, Tryz.ntmps27
  go_wp2
  go_loop [46] (fun i => ∃ m : Nat, i = .int .i64 m ∧ m ≤ kids.length ∧ ∀ j (hj : j < m) (h : j < kids.length), 0 ≤ kids[j] ∧ kids[j] < nodes.length) (fun i => kids.length - (intOf i).toNat)
  case atStart => exact ⟨0, rfl, Nat.zero_le _, fun j hj => absurd hj (by omega)⟩
  case round =>
    obtain ⟨m, rfl, hm, hall⟩ := hrel
    have HA := Lib.hid hall
    clear hall
    by_cases hlt : m < kids.length
    · obtain ⟨b2, o2, rfl, hb2, hc2⟩ := hkf (by omega)
      obtain ⟨g0, j0, j1⟩ := hc2 m hlt
      rw [Nat.mul_one] at g0
      clear hc2 hkf
      obtain ⟨y, hy⟩ : ∃ y, y = kids[m] := ⟨_, rfl⟩
      rw [← hy] at g0 j0 j1
      have hmem : y ∈ kids := by rw [hy]; exact List.getElem_mem _
      have HY := Lib.hid hy
      clear hy
      by_cases h0 : y < 0
      · have HB := Lib.hid (propB_f (fun h : NdOkP nodes ⟨13, at_, 0, s, kids, pats⟩ => by have := (h.2.1 y hmem).1; omega))
        clear hmem
        go_wp2
        go_ret
        exact ⟨ret_bool HB.out.symm, Joins.below_alloc2 w _ _⟩
      · by_cases h1 : (nodes.length : Int) ≤ y
        · have HB := Lib.hid (propB_f (fun h : NdOkP nodes ⟨13, at_, 0, s, kids, pats⟩ => by have := (h.2.1 y hmem).2; omega))
          clear hmem
          go_wp2
          go_ret
          exact ⟨ret_bool HB.out.symm, Joins.below_alloc2 w _ _⟩
        · clear hmem
          go_wp2
          go_round
          case rel => exact ⟨m + 1, by go_num, by omega, fun j hj h => by
              by_cases he : j = m
              · subst he; rw [← HY.out]; exact ⟨by omega, by omega⟩
              · exact HA.out j (by omega) h⟩
          case measure => simp [intOf]; omega
    · obtain rfl : m = kids.length := by omega
      have hall : ∀ k ∈ kids, 0 ≤ k ∧ k < nodes.length := fun k hk => by
        obtain ⟨i, hi, rfl⟩ := List.getElem_of_mem hk
        exact HA.out i hi hi
      have HAll := Lib.hid hall
      clear hall HA
      have HP := Lib.hid (nd_match HH.out HAll.out)
      by_cases he : s.toList = []
      · have he1 : s.toList.isEmpty = true := by simp [he]
        go_wp2
        go_loopw [160] (fun i wr => ∃ k : Nat, i = .int .i64 k ∧ k ≤ pats.length ∧ (∀ j (hj : j < k) (h : j < pats.length), PatOkP pats[j]) ∧ Below ((w.alloc (.cells #[.slice pt nt ct, .slice pn nodes.length cn] 31)).alloc (.cells #[.int .i64 13, .int .i64 at_, .int .i64 0, .string s, .slice bk kids.length ck, .slice bp pats.length cp] 67)).heap.size ((w.alloc (.cells #[.slice pt nt ct, .slice pn nodes.length cn] 31)).alloc (.cells #[.int .i64 13, .int .i64 at_, .int .i64 0, .string s, .slice bk kids.length ck, .slice bp pats.length cp] 67)) wr) (fun i _ => pats.length - (intOf i).toNat)
        case atStart => exact ⟨0, rfl, Nat.zero_le _, fun j hj => absurd hj (by omega), Below.refl _ _⟩
        case round =>
          obtain ⟨k, rfl, hk, hok, hbel⟩ := hrel
          have HO := Lib.hid hok
          clear hok
          have hsz := hbel.size
          simp at hsz
          obtain ⟨hcl, hfr⟩ := bcell hbel
          have c4 : wr.cell? ⟨w.heap.size + 1, 4, none⟩ = some (.slice bk kids.length ck) := by rw [hcl _ _ (by simp)]; simp
          have c5 : wr.cell? ⟨w.heap.size + 1, 5, none⟩ = some (.slice bp pats.length cp) := by rw [hcl _ _ (by simp)]; simp
          have hK : Kept w wr := (Kept.al2 _ _ _).trans (Kept.of_below hbel)
          clear hcl hfr
          have BB : Below w.heap.size w wr := (Joins.below_alloc2 w _ _).trans (hbel.mono (by simp; omega))
          by_cases hlt : k < pats.length
          · obtain ⟨b, o, rfl, hbw, hc⟩ := hpf (by omega)
            obtain ⟨v, e0, r0⟩ := PatEl.st w wr b _ _ hK hbw (hc k hlt)
            rw [Nat.mul_one] at e0
            clear hc hpf
            obtain ⟨q, hq⟩ : ∃ q, q = pats[k] := ⟨_, rfl⟩
            rw [← hq] at r0
            have HQ := Lib.hid hq
            clear hq
            have r0' := r0
            obtain ⟨qa, qc, rfl, -, -⟩ := r0.form
            clear r0
            have hne0 : w.heap.size + 1 ≠ wr.heap.size := by omega
            have hlt1 : w.heap.size + 1 < wr.heap.size := by omega
            go_wp2_with fail
            refine (sPatOk q _ _ (r0'.kept PNEl.st (Kept.alloc _ _))).mono ?_
            rintro e w1 ⟨rfl, hb1⟩
            have hb1w : Below wr.heap.size wr w1 := below_tr (Joins.below_alloc1 wr _) hb1
            by_cases hy : PatOkP q
            · have hyb : patOkB q = true := propB_t hy
              have HY := Lib.hid hy
              clear hy
              go_wp2
              go_roundw
              case rel => exact ⟨k + 1, by go_num, by omega, fun j hj h => by
                  by_cases he : j = k
                  · subst he; rw [← HQ.out]; exact HY.out
                  · exact HO.out j (by omega) h, hbel.trans (hb1w.mono (by simp; omega))⟩
              case measure => simp [intOf]; omega
            · have hyb : patOkB q = false := propB_f hy
              have HB := Lib.hid (propB_f (fun h => hy (by rw [HQ.out]; exact (HP.out.1 h).2.1 _ (List.getElem_mem _))))
              clear hy
              go_wp2
              go_ret
              exact ⟨ret_bool HB.out.symm, BB.trans (hb1w.mono (by omega))⟩
          · obtain rfl : k = pats.length := by omega
            have hall : ∀ q ∈ pats, PatOkP q := fun q hq => by
              obtain ⟨i, hi, rfl⟩ := List.getElem_of_mem hq
              exact HO.out i hi hi
            have HALL := Lib.hid hall
            clear hall
            by_cases h2 : 2 ≤ kids.length
            · have h2a : (2 : Int) ≤ kids.length := by omega
              have HB := Lib.hid (show NdOkP nodes ⟨13, at_, 0, s, kids, pats⟩ ↔ (pats.length : Int) = (kids.length : Int) - 1 from HP.out.trans ⟨fun h => by have := h.2.2.2; omega, fun h => ⟨he, HALL.out, h2, by omega⟩⟩)
              go_wp2
              go_ret
              exact ⟨ret_bool (beq_prop HB.out), BB⟩
            · have h2a : ¬ (2 : Int) ≤ kids.length := by omega
              have HB := Lib.hid (propB_f (fun h => h2 (HP.out.1 h).2.2.1))
              clear h2
              go_wp2
              go_ret
              exact ⟨ret_bool HB.out.symm, BB⟩
      · have he1 : s.toList.isEmpty = false := by simpa using he
        have HQ := Lib.hid (propB_f (fun h => he (HP.out.1 h).1))
        clear he
        go_wp2
        go_ret
        exact ⟨ret_bool HQ.out.symm, Joins.below_alloc2 w _ _⟩
theorem sNode (vt vn : Value) (x : Nd) (nodes : List Nd) (uk up : Value) (w : World)
    (ht : ∃ pt nt ct, vt = .slice pt nt ct) (hn : RowRd 6 NdEl w vn nodes) (hk : RowRd 1 IntEl w uk x.kids) (hp : RowRd 1 PatEl w up x.pats) (hs : x.s.size ≤ maxLen) :
    Calls Tryz.prog 27 #[.agg #[vt, vn], .agg #[.int .i64 x.kind, .int .i64 x.at_, .int .i64 x.n, .string x.s, uk, up]] w fun e w' => e = .returned (.bool (propB (NdOkP nodes x))) ∧ Below w.heap.size w w' := by
  obtain ⟨kd, at_, n, s, kids, pats⟩ := x
  by_cases hh : NdHead ⟨kd, at_, n, s, kids, pats⟩
  · by_cases h1 : kd = 1
    · subst h1; exact sNode_int vt vn at_ n s kids pats nodes uk up w ht hn hk hp hs hh
    · obtain rfl : n = 0 := by have := hh.2.2.2.1; simp at this; omega
      by_cases h2 : kd = 2
      · subst h2; exact sNode_str vt vn at_ s kids pats nodes uk up w ht hn hk hp hs hh
      by_cases h3 : kd = 3
      · subst h3; exact sNode_k3 vt vn at_ s kids pats nodes uk up w ht hn hk hp hs hh
      by_cases h4 : kd = 4
      · subst h4; exact sNode_k4 vt vn at_ s kids pats nodes uk up w ht hn hk hp hs hh
      by_cases h5 : kd = 5
      · subst h5; exact sNode_k5 vt vn at_ s kids pats nodes uk up w ht hn hk hp hs hh
      by_cases h7 : kd = 7
      · subst h7; exact sNode_k7 vt vn at_ s kids pats nodes uk up w ht hn hk hp hs hh
      by_cases h8 : kd = 8
      · subst h8; exact sNode_k8 vt vn at_ s kids pats nodes uk up w ht hn hk hp hs hh
      by_cases h10 : kd = 10
      · subst h10; exact sNode_k10 vt vn at_ s kids pats nodes uk up w ht hn hk hp hs hh
      by_cases h13 : kd = 13
      · subst h13; exact sNode_k13 vt vn at_ s kids pats nodes uk up w ht hn hk hp hs hh
      by_cases h15 : kd = 15
      · subst h15; exact sNode_k15 vt vn at_ s kids pats nodes uk up w ht hn hk hp hs hh
      exact sNode_plain vt vn kd at_ s kids pats nodes uk up w ht hn hk hp hs hh h1 ⟨by unfold namedK; omega, h10, h2, h4, h13⟩
  · refine (sNode_head vt vn kd at_ n s kids pats nodes uk up w ht ?_ ?_ ?_ hh).mono fun e w' h => ⟨by rw [h.1, propB_f (fun h => hh h.1)], h.2⟩
    · obtain ⟨a, c, h, _⟩ := hn.form; exact ⟨a, _, c, h⟩
    · obtain ⟨a, c, h, _⟩ := hk.form; exact ⟨a, _, c, h⟩
    · obtain ⟨a, c, h, _⟩ := hp.form; exact ⟨a, _, c, h⟩
end Go.Proofs.YtilincaedjhnpaaGreat
