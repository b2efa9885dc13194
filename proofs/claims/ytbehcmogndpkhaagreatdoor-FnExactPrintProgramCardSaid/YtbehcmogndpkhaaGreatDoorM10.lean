/- Texts of this proof, merged: OkO, OkR, OkT, OkU. -/
import Derived.Test.YtbehcmogndpkhaaGreatDoorM9
namespace Go.Proofs.YtbehcmogndpkhaaGreatDoor
set_option linter.unusedVariables false
set_option maxRecDepth 100000
open Go.ChangeShapes Go.WideShapes Go.ChangeAt Go.RowKit

/-- A node by value, its rows as slices. -/
def ndV (kd at_ n : Int) (s : ByteArray) (uk up : Value) : Value := .agg #[.int .i64 kd, .int .i64 at_, .int .i64 n, .string s, uk, up]
set_option maxHeartbeats 4000000 in
theorem sNode_head (vt vn : Value) (kd at_ n : Int) (s : ByteArray) (kids : List Int) (pats : List (List PN)) (nodes : List Nd) (uk up : Value) (w : World)
    (ht : ∃ pt nt ct, vt = .slice pt nt ct) (hn : ∃ pt nt ct, vn = .slice pt nt ct) (hk : ∃ pt nt ct, uk = .slice pt nt ct) (hp : ∃ pt nt ct, up = .slice pt nt ct) (h : ¬ NdHead ⟨kd, at_, n, s, kids, pats⟩) :
    Calls Tryz.prog 51 #[.agg #[vt, vn], .agg #[.int .i64 kd, .int .i64 at_, .int .i64 n, .string s, uk, up]] w fun e w' => e = .returned (.bool false) ∧ Below w.heap.size w w' := by
  obtain ⟨p1, n1, c1, rfl⟩ := ht
  obtain ⟨p2, n2, c2, rfl⟩ := hn
  obtain ⟨p3, n3, c3, rfl⟩ := hk
  obtain ⟨p4, n4, c4, rfl⟩ := hp
  simp only [NdHead] at h
  have hc : kd < 1 ∨ (1 ≤ kd ∧ 19 < kd) ∨ (1 ≤ kd ∧ kd ≤ 19 ∧ at_ < 0) ∨ (1 ≤ kd ∧ kd ≤ 19 ∧ 0 ≤ at_ ∧ kd ≠ 1 ∧ n ≠ 0) ∨ (kd = 1 ∧ 0 ≤ at_ ∧ n < 0) ∨ (kd = 1 ∧ 0 ≤ at_ ∧ 0 ≤ n ∧ 4611686018427387903 < n) := by omega
  clear h
  rcases hc with h1 | ⟨h1, h2⟩ | ⟨h1, h2, h3⟩ | ⟨h1, h2, h3, h4, h5⟩ | ⟨rfl, h3, h4⟩ | ⟨rfl, h3, h4, h5⟩
  · go_enter Tryz.func51, Tryz.ntmps51
    go_wp2
    go_ret
    exact ⟨rfl, Joins.below_alloc2 w _ _⟩
  · go_enter Tryz.func51, Tryz.ntmps51
    go_wp2
    go_ret
    exact ⟨rfl, Joins.below_alloc2 w _ _⟩
  · go_enter Tryz.func51, Tryz.ntmps51
    go_wp2
    go_ret
    exact ⟨rfl, Joins.below_alloc2 w _ _⟩
  · have b1 : (kd != 1) = true := by simpa using h4
    have b2 : (n != 0) = true := by simpa using h5
    clear h4 h5
    go_enter Tryz.func51, Tryz.ntmps51
    go_wp2
    go_ret
    exact ⟨rfl, Joins.below_alloc2 w _ _⟩
  · go_enter Tryz.func51, Tryz.ntmps51
    go_wp2
    go_ret
    exact ⟨rfl, Joins.below_alloc2 w _ _⟩
  · go_enter Tryz.func51, Tryz.ntmps51
    go_wp2
    go_ret
    exact ⟨rfl, Joins.below_alloc2 w _ _⟩
end Go.Proofs.YtbehcmogndpkhaaGreatDoor
namespace Go.Proofs.YtbehcmogndpkhaaGreatDoor
set_option linter.unusedVariables false
set_option maxRecDepth 100000
open Go.ChangeShapes Go.WideShapes Go.ChangeAt Go.RowKit

theorem still_more {P : Program} {f : FuncId} {args : Array Value} {w : World} {a n : Nat} {v : Value} (h : Calls P f args (w.drewN (a + n)) fun e w' => e = .returned v ∧ w.drewN (a + n) = w') :
    Calls P f args (w.drewN (a + n)) fun e w'' => e = .returned v ∧ ∃ m, w'' = w.drewN (a + m) := h.mono fun e w' hh => ⟨hh.1, n, hh.2.symm⟩
theorem still_one {P : Program} {f : FuncId} {args : Array Value} {w : World} {n : Nat} {v : Value} (h : Calls P f args (w.drewN n) fun e w' => e = .returned v ∧ w.drewN n = w') :
    Calls P f args (w.drewN n) fun e w'' => e = .returned v ∧ ∃ m, w'' = w.drewN m := h.mono fun e w' hh => ⟨hh.1, n, hh.2.symm⟩
theorem beq_prop {a b : Int} {P : Prop} (h : P ↔ a = b) : (a == b) = propB P := by
  by_cases e : a = b
  · rw [propB_t (h.2 e)]; simpa using e
  · rw [propB_f (fun p => e (h.1 p))]; simpa using e
theorem kidsN_of (k m : Int) (h : kidsN k = m) : kidsN k = m := h
theorem nd_plain {nodes : List Nd} {kd at_ n : Int} {s : ByteArray} {kids : List Int} {pats : List (List PN)} (h : NdHead ⟨kd, at_, n, s, kids, pats⟩) (hall : ∀ k ∈ kids, 0 ≤ k ∧ k < nodes.length)
    (h1 : ¬ namedK kd) (h2 : kd ≠ 10) (h3 : kd ≠ 2) (h4 : kd ≠ 4) (h5 : kd ≠ 13) : NdOkP nodes ⟨kd, at_, n, s, kids, pats⟩ ↔ (s.toList = [] ∧ pats = [] ∧ (kids.length : Int) = kidsN kd) := by
  have h8 : kd ≠ 8 := fun e => h1 (by unfold namedK; omega)
  constructor
  · intro ⟨_, _, hT, hR⟩
    exact ⟨hT.2.2 h1 h2 h3 h4, hR.2.2.2 h4 h5⟩
  · intro ⟨e1, e2, e3⟩
    exact ⟨h, hall, ⟨fun e => absurd e h1, fun e => absurd e h2, fun _ _ _ _ => e1⟩, fun e => absurd e h4, fun e => absurd e h5, fun e => absurd e h8, fun _ _ => ⟨e2, e3⟩⟩
theorem nd_str {nodes : List Nd} {at_ n : Int} {s : ByteArray} {kids : List Int} {pats : List (List PN)} (h : NdHead ⟨2, at_, n, s, kids, pats⟩) (hall : ∀ k ∈ kids, 0 ≤ k ∧ k < nodes.length) :
    NdOkP nodes ⟨2, at_, n, s, kids, pats⟩ ↔ (pats = [] ∧ (kids.length : Int) = kidsN 2) := by
  constructor
  · intro ⟨_, _, hT, hR⟩
    exact hR.2.2.2 (by simp) (by simp)
  · intro e
    exact ⟨h, hall, ⟨fun e => absurd e (by simp [namedK]), fun e => absurd e (by simp), fun _ _ e _ => absurd rfl e⟩, fun e => absurd e (by simp), fun e => absurd e (by simp), fun e => absurd e (by simp), fun _ _ => e⟩
theorem nd_prim {nodes : List Nd} {at_ n : Int} {s : ByteArray} {kids : List Int} {pats : List (List PN)} (h : NdHead ⟨10, at_, n, s, kids, pats⟩) (hall : ∀ k ∈ kids, 0 ≤ k ∧ k < nodes.length) :
    NdOkP nodes ⟨10, at_, n, s, kids, pats⟩ ↔ (primB s = true ∧ pats = [] ∧ (kids.length : Int) = kidsN 10) := by
  constructor
  · intro ⟨_, _, hT, hR⟩
    exact ⟨hT.2.1 rfl, hR.2.2.2 (by simp) (by simp)⟩
  · intro ⟨e0, e⟩
    exact ⟨h, hall, ⟨fun e => absurd e (by simp [namedK]), fun _ => e0, fun _ e _ _ => absurd rfl e⟩, fun e => absurd e (by simp), fun e => absurd e (by simp), fun e => absurd e (by simp), fun _ _ => e⟩
theorem nd_named {nodes : List Nd} {kd at_ n : Int} {s : ByteArray} {kids : List Int} {pats : List (List PN)} (h : NdHead ⟨kd, at_, n, s, kids, pats⟩) (hall : ∀ k ∈ kids, 0 ≤ k ∧ k < nodes.length) (hn : namedK kd) (h8 : kd ≠ 8) :
    NdOkP nodes ⟨kd, at_, n, s, kids, pats⟩ ↔ (nameB s = true ∧ pats = [] ∧ (kids.length : Int) = kidsN kd) := by
  have h4 : kd ≠ 4 := by unfold namedK at hn; omega
  have h5 : kd ≠ 13 := by unfold namedK at hn; omega
  have h10 : kd ≠ 10 := by unfold namedK at hn; omega
  constructor
  · intro ⟨_, _, hT, hR⟩
    exact ⟨hT.1 hn, hR.2.2.2 h4 h5⟩
  · intro ⟨e0, e⟩
    exact ⟨h, hall, ⟨fun _ => e0, fun e => absurd e h10, fun e _ _ _ => absurd hn e⟩, fun e => absurd e h4, fun e => absurd e h5, fun e => absurd e h8, fun _ _ => e⟩
theorem nd_rec {nodes : List Nd} {at_ n : Int} {s : ByteArray} {kids : List Int} {pats : List (List PN)} (h : NdHead ⟨8, at_, n, s, kids, pats⟩) (hall : ∀ k ∈ kids, 0 ≤ k ∧ k < nodes.length) :
    NdOkP nodes ⟨8, at_, n, s, kids, pats⟩ ↔ (nameB s = true ∧ kids.length = 2 ∧ firstKind nodes kids = some 5 ∧ pats = []) := by
  constructor
  · intro ⟨_, _, hT, hR⟩
    exact ⟨hT.1 (by simp [namedK]), (hR.2.2.1 rfl).1, (hR.2.2.1 rfl).2, (hR.2.2.2 (by simp) (by simp)).1⟩
  · intro ⟨e0, e1, e2, e3⟩
    exact ⟨h, hall, ⟨fun _ => e0, fun e => absurd e (by simp), fun e _ _ _ => absurd (by simp [namedK]) e⟩, fun e => absurd e (by simp), fun e => absurd e (by simp), fun _ => ⟨e1, e2⟩, fun _ _ => ⟨e3, by show (kids.length : Int) = kidsN 8; rw [e1]; decide⟩⟩
theorem nd_con {nodes : List Nd} {at_ n : Int} {s : ByteArray} {kids : List Int} {pats : List (List PN)} (h : NdHead ⟨4, at_, n, s, kids, pats⟩) (hall : ∀ k ∈ kids, 0 ≤ k ∧ k < nodes.length) :
    NdOkP nodes ⟨4, at_, n, s, kids, pats⟩ ↔ (pats = [] ∧ conOkB s kids.length (decide (kids.length = 1) && decide (firstKind nodes kids = some 11)) = true) := by
  constructor
  · intro ⟨_, _, hT, hR⟩
    exact hR.1 rfl
  · intro e
    exact ⟨h, hall, ⟨fun e => absurd e (by simp [namedK]), fun e => absurd e (by simp), fun _ _ _ e => absurd rfl e⟩, fun _ => e, fun e => absurd e (by simp), fun e => absurd e (by simp), fun e => absurd rfl e⟩
theorem nd_match {nodes : List Nd} {at_ n : Int} {s : ByteArray} {kids : List Int} {pats : List (List PN)} (h : NdHead ⟨13, at_, n, s, kids, pats⟩) (hall : ∀ k ∈ kids, 0 ≤ k ∧ k < nodes.length) :
    NdOkP nodes ⟨13, at_, n, s, kids, pats⟩ ↔ (s.toList = [] ∧ (∀ q ∈ pats, PatOkP q) ∧ 2 ≤ kids.length ∧ pats.length + 1 = kids.length) := by
  constructor
  · intro ⟨_, _, hT, hR⟩
    exact ⟨hT.2.2 (by simp [namedK]) (by simp) (by simp) (by simp), hR.2.1 rfl⟩
  · intro ⟨e0, e⟩
    exact ⟨h, hall, ⟨fun e => absurd e (by simp [namedK]), fun e => absurd e (by simp), fun _ _ _ _ => e0⟩, fun e => absurd e (by simp), fun _ => e, fun e => absurd e (by simp), fun _ e => absurd rfl e⟩
theorem nil_of_len {α : Type} {l : List α} (h : l.length = 0) : l = [] := List.eq_nil_of_length_eq_zero h
theorem ne_nil_of_len {α : Type} {l : List α} (h : ¬ l.length = 0) : l ≠ [] := fun e => h (by rw [e]; rfl)
theorem first_at {nodes : List Nd} {kids : List Int} {m : Nat} (h : 0 < kids.length) (hm : m < nodes.length) (hy : (m : Int) = kids[0]) : firstKind nodes kids = some nodes[m].kind := by
  cases kids with
  | nil => simp at h
  | cons y ks =>
    simp only [List.getElem_cons_zero] at hy
    subst hy
    simp [firstKind, List.getElem?_eq_getElem hm]
end Go.Proofs.YtbehcmogndpkhaaGreatDoor
namespace Go.Proofs.YtbehcmogndpkhaaGreatDoor
set_option linter.unusedVariables false
set_option maxRecDepth 100000
open Go.ChangeShapes Go.WideShapes Go.ChangeAt Go.RowKit

set_option maxHeartbeats 8000000 in
theorem sNode_int (vt vn : Value) (at_ n : Int) (s : ByteArray) (kids : List Int) (pats : List (List PN)) (nodes : List Nd) (uk up : Value) (w : World)
    (ht : ∃ pt nt ct, vt = .slice pt nt ct) (hn : RowRd 6 NdEl w vn nodes) (hk : RowRd 1 IntEl w uk kids) (hp : RowRd 1 PatEl w up pats) (hs : s.size ≤ maxLen) (hh : NdHead ⟨1, at_, n, s, kids, pats⟩) :
    Calls Tryz.prog 51 #[.agg #[vt, vn], .agg #[.int .i64 1, .int .i64 at_, .int .i64 n, .string s, uk, up]] w fun e w' => e = .returned (.bool (propB (NdOkP nodes ⟨1, at_, n, s, kids, pats⟩))) ∧ Below w.heap.size w w' := by
  have hn0 := hn
  have hp0 := hp
  obtain ⟨pt, nt, ct, rfl⟩ := ht
  obtain ⟨pn, cn, rfl, hmn, hnf⟩ := hn.form
  obtain ⟨bk, ck, rfl, hmk, hkf⟩ := hk.form
  obtain ⟨bp, cp, rfl, hmp, hpf⟩ := hp.form
  clear hn hk hp
  unfold maxLen at hmn hmk hmp
  have HH := Lib.hid hh
  simp only [NdHead] at hh
  have d1 : decide (at_ < 0) = false := by simp; omega
  have d2 : decide (n < 0) = false := by simp; omega
  have d3 : decide (4611686018427387903 < n) = false := by simp; omega
  have f1 : ¬ at_ < 0 := by omega
  have f2 : ¬ n < 0 := by omega
  have f3 : ¬ 4611686018427387903 < n := by omega
  clear hh
  go_enter Tryz.func51, Tryz.ntmps51
  go_wp2
  go_loop [46] (fun i => ∃ m : Nat, i = .int .i64 m ∧ m ≤ kids.length ∧ ∀ j (hj : j < m) (h : j < kids.length), 0 ≤ kids[j] ∧ kids[j] < nodes.length) (fun i => kids.length - (intOf i).toNat)
  case atStart => exact ⟨0, rfl, Nat.zero_le _, fun j hj => absurd hj (by omega)⟩
  case round =>
    obtain ⟨m, rfl, hm, hall⟩ := hrel
    have HA := Lib.hid hall
    clear hall
    by_cases hlt : m < kids.length
    · obtain ⟨b2, o2, rfl, hb2, hc2⟩ := hkf (by omega)
      obtain ⟨g0, j0, j1⟩ := hc2 m hlt
      rw [Nat.mul_one] at g0
      clear hc2 hkf
      obtain ⟨y, hy⟩ : ∃ y, y = kids[m] := ⟨_, rfl⟩
      rw [← hy] at g0 j0 j1
      have hmem : y ∈ kids := by rw [hy]; exact List.getElem_mem _
      have HY := Lib.hid hy
      clear hy
      by_cases h0 : y < 0
      · have HB := Lib.hid (propB_f (fun h : NdOkP nodes ⟨1, at_, n, s, kids, pats⟩ => by have := (h.2.1 y hmem).1; omega))
        clear hmem
        go_wp2
        go_ret
        exact ⟨ret_bool HB.out.symm, Joins.below_alloc2 w _ _⟩
      · by_cases h1 : (nodes.length : Int) ≤ y
        · have HB := Lib.hid (propB_f (fun h : NdOkP nodes ⟨1, at_, n, s, kids, pats⟩ => by have := (h.2.1 y hmem).2; omega))
          clear hmem
          go_wp2
          go_ret
          exact ⟨ret_bool HB.out.symm, Joins.below_alloc2 w _ _⟩
        · clear hmem
          go_wp2
          go_round
          case rel => exact ⟨m + 1, by go_num, by omega, fun j hj h => by
              by_cases he : j = m
              · subst he; rw [← HY.out]; exact ⟨by omega, by omega⟩
              · exact HA.out j (by omega) h⟩
          case measure => simp [intOf]; omega
    · obtain rfl : m = kids.length := by omega
      have hall : ∀ k ∈ kids, 0 ≤ k ∧ k < nodes.length := fun k hk => by
        obtain ⟨i, hi, rfl⟩ := List.getElem_of_mem hk
        exact HA.out i hi hi
      have HAll := Lib.hid hall
      clear hall HA
      have HP := Lib.hid (nd_plain HH.out HAll.out (by simp [namedK]) (by decide) (by decide) (by decide) (by decide))
      by_cases he : s.toList = []
      · have he1 : s.toList.isEmpty = true := by simp [he]
        by_cases hz : pats.length = 0
        · have hz1 : ((pats.length : Int) == 0) = true := by simpa using hz
          have HQ := Lib.hid (show NdOkP nodes ⟨1, at_, n, s, kids, pats⟩ ↔ (kids.length : Int) = kidsN 1 from HP.out.trans ⟨fun h => h.2.2, fun h => ⟨he, nil_of_len hz, h⟩⟩)
          clear hz
          go_wp2_with fail
          go_quiet (fail)
          go_wp2_with fail
          go_quiet ((go_at_call 121; first | exact still_more (sKids _ _) | exact still_one (sKids _ _)))
          go_wp2
          go_ret
          exact ⟨ret_bool (beq_prop HQ.out), below_drewN (below_drewN (Joins.below_alloc2 w _ _) _) _⟩
        · have hz1 : ((pats.length : Int) == 0) = false := by simpa using hz
          have HQ := Lib.hid (propB_f (fun h => ne_nil_of_len hz (HP.out.1 h).2.1))
          clear hz
          go_wp2_with fail
          go_quiet (fail)
          go_wp2_with fail
          go_quiet (fail)
          go_wp2
          go_ret
          exact ⟨ret_bool HQ.out.symm, below_drewN (below_drewN (Joins.below_alloc2 w _ _) _) _⟩
      · have he1 : s.toList.isEmpty = false := by simpa using he
        have HQ := Lib.hid (propB_f (fun h => he (HP.out.1 h).1))
        clear he
        go_wp2
        go_ret
        exact ⟨ret_bool HQ.out.symm, Joins.below_alloc2 w _ _⟩
set_option maxHeartbeats 8000000 in
theorem sNode_plain (vt vn : Value) (kd at_ : Int) (s : ByteArray) (kids : List Int) (pats : List (List PN)) (nodes : List Nd) (uk up : Value) (w : World)
    (ht : ∃ pt nt ct, vt = .slice pt nt ct) (hn : RowRd 6 NdEl w vn nodes) (hk : RowRd 1 IntEl w uk kids) (hp : RowRd 1 PatEl w up pats) (hs : s.size ≤ maxLen) (hh : NdHead ⟨kd, at_, 0, s, kids, pats⟩) (hk1 : kd ≠ 1) (hgn : ¬ namedK kd ∧ kd ≠ 10 ∧ kd ≠ 2 ∧ kd ≠ 4 ∧ kd ≠ 13) :
    Calls Tryz.prog 51 #[.agg #[vt, vn], .agg #[.int .i64 kd, .int .i64 at_, .int .i64 0, .string s, uk, up]] w fun e w' => e = .returned (.bool (propB (NdOkP nodes ⟨kd, at_, 0, s, kids, pats⟩))) ∧ Below w.heap.size w w' := by
  have hn0 := hn
  have hp0 := hp
  obtain ⟨pt, nt, ct, rfl⟩ := ht
  obtain ⟨pn, cn, rfl, hmn, hnf⟩ := hn.form
  obtain ⟨bk, ck, rfl, hmk, hkf⟩ := hk.form
  obtain ⟨bp, cp, rfl, hmp, hpf⟩ := hp.form
  clear hn hk hp
  unfold maxLen at hmn hmk hmp
  have HH := Lib.hid hh
  simp only [NdHead] at hh
  have d1 : decide (at_ < 0) = false := by simp; omega
  have f1 : ¬ at_ < 0 := by omega
  have d4 : decide (kd < 1) = false := by simp; omega
  have d5 : decide (19 < kd) = false := by simp; omega
  have f4 : ¬ kd < 1 := by omega
  have f5 : ¬ 19 < kd := by omega
  have b1 : (kd == 1) = false := by simp; omega
  have b1n : (kd != 1) = true := by simp; omega
  clear hh
  go_enter Tryz.func51, Tryz.ntmps51
  go_wp2
  go_loop [46] (fun i => ∃ m : Nat, i = .int .i64 m ∧ m ≤ kids.length ∧ ∀ j (hj : j < m) (h : j < kids.length), 0 ≤ kids[j] ∧ kids[j] < nodes.length) (fun i => kids.length - (intOf i).toNat)
  case atStart => exact ⟨0, rfl, Nat.zero_le _, fun j hj => absurd hj (by omega)⟩
  case round =>
    obtain ⟨m, rfl, hm, hall⟩ := hrel
    have HA := Lib.hid hall
    clear hall
    by_cases hlt : m < kids.length
    · obtain ⟨b2, o2, rfl, hb2, hc2⟩ := hkf (by omega)
      obtain ⟨g0, j0, j1⟩ := hc2 m hlt
      rw [Nat.mul_one] at g0
      clear hc2 hkf
      obtain ⟨y, hy⟩ : ∃ y, y = kids[m] := ⟨_, rfl⟩
      rw [← hy] at g0 j0 j1
      have hmem : y ∈ kids := by rw [hy]; exact List.getElem_mem _
      have HY := Lib.hid hy
      clear hy
      by_cases h0 : y < 0
      · have HB := Lib.hid (propB_f (fun h : NdOkP nodes ⟨kd, at_, 0, s, kids, pats⟩ => by have := (h.2.1 y hmem).1; omega))
        clear hmem
        go_wp2
        go_ret
        exact ⟨ret_bool HB.out.symm, Joins.below_alloc2 w _ _⟩
      · by_cases h1 : (nodes.length : Int) ≤ y
        · have HB := Lib.hid (propB_f (fun h : NdOkP nodes ⟨kd, at_, 0, s, kids, pats⟩ => by have := (h.2.1 y hmem).2; omega))
          clear hmem
          go_wp2
          go_ret
          exact ⟨ret_bool HB.out.symm, Joins.below_alloc2 w _ _⟩
        · clear hmem
          go_wp2
          go_round
          case rel => exact ⟨m + 1, by go_num, by omega, fun j hj h => by
              by_cases he : j = m
              · subst he; rw [← HY.out]; exact ⟨by omega, by omega⟩
              · exact HA.out j (by omega) h⟩
          case measure => simp [intOf]; omega
    · obtain rfl : m = kids.length := by omega
      have hall : ∀ k ∈ kids, 0 ≤ k ∧ k < nodes.length := fun k hk => by
        obtain ⟨i, hi, rfl⟩ := List.getElem_of_mem hk
        exact HA.out i hi hi
      have HAll := Lib.hid hall
      clear hall HA
      have HP := Lib.hid (nd_plain HH.out HAll.out hgn.1 hgn.2.1 hgn.2.2.1 hgn.2.2.2.1 hgn.2.2.2.2)
      obtain ⟨g1, g2, g3, g4, g5⟩ := hgn
      have gs : kd ≠ 3 ∧ kd ≠ 5 ∧ kd ≠ 7 ∧ kd ≠ 8 ∧ kd ≠ 15 := by unfold namedK at g1; omega
      obtain ⟨s3, s5, s7, s8, s15⟩ := gs
      have k3 : (kd == 3) = false := by simpa using s3
      have m3 : (kd != 3) = true := by simpa using s3
      have k5 : (kd == 5) = false := by simpa using s5
      have m5 : (kd != 5) = true := by simpa using s5
      have k7 : (kd == 7) = false := by simpa using s7
      have m7 : (kd != 7) = true := by simpa using s7
      have k8 : (kd == 8) = false := by simpa using s8
      have m8 : (kd != 8) = true := by simpa using s8
      have k15 : (kd == 15) = false := by simpa using s15
      have m15 : (kd != 15) = true := by simpa using s15
      have k10 : (kd == 10) = false := by simpa using g2
      have m10 : (kd != 10) = true := by simpa using g2
      have k2 : (kd == 2) = false := by simpa using g3
      have m2 : (kd != 2) = true := by simpa using g3
      have k4 : (kd == 4) = false := by simpa using g4
      have m4 : (kd != 4) = true := by simpa using g4
      have k13 : (kd == 13) = false := by simpa using g5
      have m13 : (kd != 13) = true := by simpa using g5
      clear g1 g2 g3 g4 g5 s3 s5 s7 s8 s15
      by_cases he : s.toList = []
      · have he1 : s.toList.isEmpty = true := by simp [he]
        by_cases hz : pats.length = 0
        · have hz1 : ((pats.length : Int) == 0) = true := by simpa using hz
          have HQ := Lib.hid (show NdOkP nodes ⟨kd, at_, 0, s, kids, pats⟩ ↔ (kids.length : Int) = kidsN kd from HP.out.trans ⟨fun h => h.2.2, fun h => ⟨he, nil_of_len hz, h⟩⟩)
          clear hz
          go_wp2_with fail
          go_quiet (fail)
          go_wp2_with fail
          go_quiet ((go_at_call 121; first | exact still_more (sKids _ _) | exact still_one (sKids _ _)))
          go_wp2
          go_ret
          exact ⟨ret_bool (beq_prop HQ.out), below_drewN (below_drewN (Joins.below_alloc2 w _ _) _) _⟩
        · have hz1 : ((pats.length : Int) == 0) = false := by simpa using hz
          have HQ := Lib.hid (propB_f (fun h => ne_nil_of_len hz (HP.out.1 h).2.1))
          clear hz
          go_wp2_with fail
          go_quiet (fail)
          go_wp2_with fail
          go_quiet (fail)
          go_wp2
          go_ret
          exact ⟨ret_bool HQ.out.symm, below_drewN (below_drewN (Joins.below_alloc2 w _ _) _) _⟩
      · have he1 : s.toList.isEmpty = false := by simpa using he
        have HQ := Lib.hid (propB_f (fun h => he (HP.out.1 h).1))
        clear he
        go_wp2
        go_ret
        exact ⟨ret_bool HQ.out.symm, Joins.below_alloc2 w _ _⟩
set_option maxHeartbeats 8000000 in
theorem sNode_str (vt vn : Value) (at_ : Int) (s : ByteArray) (kids : List Int) (pats : List (List PN)) (nodes : List Nd) (uk up : Value) (w : World)
    (ht : ∃ pt nt ct, vt = .slice pt nt ct) (hn : RowRd 6 NdEl w vn nodes) (hk : RowRd 1 IntEl w uk kids) (hp : RowRd 1 PatEl w up pats) (hs : s.size ≤ maxLen) (hh : NdHead ⟨2, at_, 0, s, kids, pats⟩) :
    Calls Tryz.prog 51 #[.agg #[vt, vn], .agg #[.int .i64 2, .int .i64 at_, .int .i64 0, .string s, uk, up]] w fun e w' => e = .returned (.bool (propB (NdOkP nodes ⟨2, at_, 0, s, kids, pats⟩))) ∧ Below w.heap.size w w' := by
  have hn0 := hn
  have hp0 := hp
  obtain ⟨pt, nt, ct, rfl⟩ := ht
  obtain ⟨pn, cn, rfl, hmn, hnf⟩ := hn.form
  obtain ⟨bk, ck, rfl, hmk, hkf⟩ := hk.form
  obtain ⟨bp, cp, rfl, hmp, hpf⟩ := hp.form
  clear hn hk hp
  unfold maxLen at hmn hmk hmp
  have HH := Lib.hid hh
  simp only [NdHead] at hh
  have d1 : decide (at_ < 0) = false := by simp; omega
  have f1 : ¬ at_ < 0 := by omega
  clear hh
  go_enter Tryz.func51, Tryz.ntmps51
  go_wp2
  go_loop [46] (fun i => ∃ m : Nat, i = .int .i64 m ∧ m ≤ kids.length ∧ ∀ j (hj : j < m) (h : j < kids.length), 0 ≤ kids[j] ∧ kids[j] < nodes.length) (fun i => kids.length - (intOf i).toNat)
  case atStart => exact ⟨0, rfl, Nat.zero_le _, fun j hj => absurd hj (by omega)⟩
  case round =>
    obtain ⟨m, rfl, hm, hall⟩ := hrel
    have HA := Lib.hid hall
    clear hall
    by_cases hlt : m < kids.length
    · obtain ⟨b2, o2, rfl, hb2, hc2⟩ := hkf (by omega)
      obtain ⟨g0, j0, j1⟩ := hc2 m hlt
      rw [Nat.mul_one] at g0
      clear hc2 hkf
      obtain ⟨y, hy⟩ : ∃ y, y = kids[m] := ⟨_, rfl⟩
      rw [← hy] at g0 j0 j1
      have hmem : y ∈ kids := by rw [hy]; exact List.getElem_mem _
      have HY := Lib.hid hy
      clear hy
      by_cases h0 : y < 0
      · have HB := Lib.hid (propB_f (fun h : NdOkP nodes ⟨2, at_, 0, s, kids, pats⟩ => by have := (h.2.1 y hmem).1; omega))
        clear hmem
        go_wp2
        go_ret
        exact ⟨ret_bool HB.out.symm, Joins.below_alloc2 w _ _⟩
      · by_cases h1 : (nodes.length : Int) ≤ y
        · have HB := Lib.hid (propB_f (fun h : NdOkP nodes ⟨2, at_, 0, s, kids, pats⟩ => by have := (h.2.1 y hmem).2; omega))
          clear hmem
          go_wp2
          go_ret
          exact ⟨ret_bool HB.out.symm, Joins.below_alloc2 w _ _⟩
        · clear hmem
          go_wp2
          go_round
          case rel => exact ⟨m + 1, by go_num, by omega, fun j hj h => by
              by_cases he : j = m
              · subst he; rw [← HY.out]; exact ⟨by omega, by omega⟩
              · exact HA.out j (by omega) h⟩
          case measure => simp [intOf]; omega
    · obtain rfl : m = kids.length := by omega
      have hall : ∀ k ∈ kids, 0 ≤ k ∧ k < nodes.length := fun k hk => by
        obtain ⟨i, hi, rfl⟩ := List.getElem_of_mem hk
        exact HA.out i hi hi
      have HAll := Lib.hid hall
      clear hall HA
      have HP := Lib.hid (nd_str HH.out HAll.out)
      by_cases hz : pats.length = 0
      · have hz1 : ((pats.length : Int) == 0) = true := by simpa using hz
        have HQ := Lib.hid (show NdOkP nodes ⟨2, at_, 0, s, kids, pats⟩ ↔ (kids.length : Int) = kidsN 2 from HP.out.trans ⟨fun h => h.2, fun h => ⟨nil_of_len hz, h⟩⟩)
        clear hz
        go_wp2_with fail
        go_quiet (fail)
        go_wp2_with fail
        go_quiet ((go_at_call 121; first | exact still_more (sKids _ _) | exact still_one (sKids _ _)))
        go_wp2
        go_ret
        exact ⟨ret_bool (beq_prop HQ.out), below_drewN (below_drewN (Joins.below_alloc2 w _ _) _) _⟩
      · have hz1 : ((pats.length : Int) == 0) = false := by simpa using hz
        have HQ := Lib.hid (propB_f (fun h => ne_nil_of_len hz (HP.out.1 h).1))
        clear hz
        go_wp2_with fail
        go_quiet (fail)
        go_wp2_with fail
        go_quiet (fail)
        go_wp2
        go_ret
        exact ⟨ret_bool HQ.out.symm, below_drewN (below_drewN (Joins.below_alloc2 w _ _) _) _⟩
end Go.Proofs.YtbehcmogndpkhaaGreatDoor
namespace Go.Proofs.YtbehcmogndpkhaaGreatDoor
set_option linter.unusedVariables false
set_option maxRecDepth 100000
open Go.ChangeShapes Go.WideShapes Go.ChangeAt Go.RowKit

set_option maxHeartbeats 8000000 in
theorem sNode_k3 (vt vn : Value) (at_ : Int) (s : ByteArray) (kids : List Int) (pats : List (List PN)) (nodes : List Nd) (uk up : Value) (w : World)
    (ht : ∃ pt nt ct, vt = .slice pt nt ct) (hn : RowRd 6 NdEl w vn nodes) (hk : RowRd 1 IntEl w uk kids) (hp : RowRd 1 PatEl w up pats) (hs : s.size ≤ maxLen) (hh : NdHead ⟨3, at_, 0, s, kids, pats⟩) :
    Calls Tryz.prog 51 #[.agg #[vt, vn], .agg #[.int .i64 3, .int .i64 at_, .int .i64 0, .string s, uk, up]] w fun e w' => e = .returned (.bool (propB (NdOkP nodes ⟨3, at_, 0, s, kids, pats⟩))) ∧ Below w.heap.size w w' := by
  have hn0 := hn
  have hp0 := hp
  obtain ⟨pt, nt, ct, rfl⟩ := ht
  obtain ⟨pn, cn, rfl, hmn, hnf⟩ := hn.form
  obtain ⟨bk, ck, rfl, hmk, hkf⟩ := hk.form
  obtain ⟨bp, cp, rfl, hmp, hpf⟩ := hp.form
  clear hn hk hp
  unfold maxLen at hmn hmk hmp
  have HH := Lib.hid hh
  simp only [NdHead] at hh
  have d1 : decide (at_ < 0) = false := by simp; omega
  have f1 : ¬ at_ < 0 := by omega
  clear hh
  go_enter Tryz.func51, Tryz.ntmps51
  go_wp2
  go_loop [46] (fun i => ∃ m : Nat, i = .int .i64 m ∧ m ≤ kids.length ∧ ∀ j (hj : j < m) (h : j < kids.length), 0 ≤ kids[j] ∧ kids[j] < nodes.length) (fun i => kids.length - (intOf i).toNat)
  case atStart => exact ⟨0, rfl, Nat.zero_le _, fun j hj => absurd hj (by omega)⟩
  case round =>
    obtain ⟨m, rfl, hm, hall⟩ := hrel
    have HA := Lib.hid hall
    clear hall
    by_cases hlt : m < kids.length
    · obtain ⟨b2, o2, rfl, hb2, hc2⟩ := hkf (by omega)
      obtain ⟨g0, j0, j1⟩ := hc2 m hlt
      rw [Nat.mul_one] at g0
      clear hc2 hkf
      obtain ⟨y, hy⟩ : ∃ y, y = kids[m] := ⟨_, rfl⟩
      rw [← hy] at g0 j0 j1
      have hmem : y ∈ kids := by rw [hy]; exact List.getElem_mem _
      have HY := Lib.hid hy
      clear hy
      by_cases h0 : y < 0
      · have HB := Lib.hid (propB_f (fun h : NdOkP nodes ⟨3, at_, 0, s, kids, pats⟩ => by have := (h.2.1 y hmem).1; omega))
        clear hmem
        go_wp2
        go_ret
        exact ⟨ret_bool HB.out.symm, Joins.below_alloc2 w _ _⟩
      · by_cases h1 : (nodes.length : Int) ≤ y
        · have HB := Lib.hid (propB_f (fun h : NdOkP nodes ⟨3, at_, 0, s, kids, pats⟩ => by have := (h.2.1 y hmem).2; omega))
          clear hmem
          go_wp2
          go_ret
          exact ⟨ret_bool HB.out.symm, Joins.below_alloc2 w _ _⟩
        · clear hmem
          go_wp2
          go_round
          case rel => exact ⟨m + 1, by go_num, by omega, fun j hj h => by
              by_cases he : j = m
              · subst he; rw [← HY.out]; exact ⟨by omega, by omega⟩
              · exact HA.out j (by omega) h⟩
          case measure => simp [intOf]; omega
    · obtain rfl : m = kids.length := by omega
      have hall : ∀ k ∈ kids, 0 ≤ k ∧ k < nodes.length := fun k hk => by
        obtain ⟨i, hi, rfl⟩ := List.getElem_of_mem hk
        exact HA.out i hi hi
      have HAll := Lib.hid hall
      clear hall HA
      have HP := Lib.hid (nd_named HH.out HAll.out (by simp [namedK]) (by decide))
      go_wp2_with fail
      refine (sNameOk _ _ hs).mono ?_
      rintro e w1 ⟨rfl, hb1⟩
      obtain ⟨hc1, hf1⟩ := bcell hb1
      have hs1 := hb1.size
      simp at hs1
      have B1 : Below w.heap.size w w1 := below_tr (Joins.below_alloc2 w _ _) hb1
      cases hx : nameB s
      · have HQ := Lib.hid (propB_f (fun h => by have := (HP.out.1 h).1; rw [hx] at this; cases this))
        clear hx
        go_wp2
        go_ret
        exact ⟨ret_bool HQ.out.symm, B1⟩
      · have c0 : w1.cell? ⟨w.heap.size + 1, 0, none⟩ = some (.int .i64 3) := by rw [hc1 _ _ (by simp)]; simp
        have c4 : w1.cell? ⟨w.heap.size + 1, 4, none⟩ = some (.slice bk kids.length ck) := by rw [hc1 _ _ (by simp)]; simp
        have c5 : w1.cell? ⟨w.heap.size + 1, 5, none⟩ = some (.slice bp pats.length cp) := by rw [hc1 _ _ (by simp)]; simp
        have p1 : w1.cell? ⟨w.heap.size, 1, none⟩ = some (.slice pn nodes.length cn) := by rw [hc1 _ _ (by simp; omega)]; simp
        have HX := Lib.hid hx
        clear hc1 hf1 hx
        by_cases hz : pats.length = 0
        · have hz1 : ((pats.length : Int) == 0) = true := by simpa using hz
          have HQ := Lib.hid (show NdOkP nodes ⟨3, at_, 0, s, kids, pats⟩ ↔ (kids.length : Int) = kidsN 3 from HP.out.trans ⟨fun h => h.2.2, fun h => ⟨HX.out, nil_of_len hz, h⟩⟩)
          clear hz
          go_wp2_with fail
          go_quiet (fail)
          go_wp2_with fail
          go_quiet ((go_at_call 121; first | exact still_more (sKids _ _) | exact still_one (sKids _ _)))
          go_wp2
          go_ret
          exact ⟨ret_bool (beq_prop HQ.out), below_drewN (below_drewN (B1) _) _⟩
        · have hz1 : ((pats.length : Int) == 0) = false := by simpa using hz
          have HQ := Lib.hid (propB_f (fun h => ne_nil_of_len hz (HP.out.1 h).2.1))
          clear hz
          go_wp2_with fail
          go_quiet (fail)
          go_wp2_with fail
          go_quiet (fail)
          go_wp2
          go_ret
          exact ⟨ret_bool HQ.out.symm, below_drewN (below_drewN (B1) _) _⟩
set_option maxHeartbeats 8000000 in
theorem sNode_k5 (vt vn : Value) (at_ : Int) (s : ByteArray) (kids : List Int) (pats : List (List PN)) (nodes : List Nd) (uk up : Value) (w : World)
    (ht : ∃ pt nt ct, vt = .slice pt nt ct) (hn : RowRd 6 NdEl w vn nodes) (hk : RowRd 1 IntEl w uk kids) (hp : RowRd 1 PatEl w up pats) (hs : s.size ≤ maxLen) (hh : NdHead ⟨5, at_, 0, s, kids, pats⟩) :
    Calls Tryz.prog 51 #[.agg #[vt, vn], .agg #[.int .i64 5, .int .i64 at_, .int .i64 0, .string s, uk, up]] w fun e w' => e = .returned (.bool (propB (NdOkP nodes ⟨5, at_, 0, s, kids, pats⟩))) ∧ Below w.heap.size w w' := by
  have hn0 := hn
  have hp0 := hp
  obtain ⟨pt, nt, ct, rfl⟩ := ht
  obtain ⟨pn, cn, rfl, hmn, hnf⟩ := hn.form
  obtain ⟨bk, ck, rfl, hmk, hkf⟩ := hk.form
  obtain ⟨bp, cp, rfl, hmp, hpf⟩ := hp.form
  clear hn hk hp
  unfold maxLen at hmn hmk hmp
  have HH := Lib.hid hh
  simp only [NdHead] at hh
  have d1 : decide (at_ < 0) = false := by simp; omega
  have f1 : ¬ at_ < 0 := by omega
  clear hh
  go_enter Tryz.func51, Tryz.ntmps51
  go_wp2
  go_loop [46] (fun i => ∃ m : Nat, i = .int .i64 m ∧ m ≤ kids.length ∧ ∀ j (hj : j < m) (h : j < kids.length), 0 ≤ kids[j] ∧ kids[j] < nodes.length) (fun i => kids.length - (intOf i).toNat)
  case atStart => exact ⟨0, rfl, Nat.zero_le _, fun j hj => absurd hj (by omega)⟩
  case round =>
    obtain ⟨m, rfl, hm, hall⟩ := hrel
    have HA := Lib.hid hall
    clear hall
    by_cases hlt : m < kids.length
    · obtain ⟨b2, o2, rfl, hb2, hc2⟩ := hkf (by omega)
      obtain ⟨g0, j0, j1⟩ := hc2 m hlt
      rw [Nat.mul_one] at g0
      clear hc2 hkf
      obtain ⟨y, hy⟩ : ∃ y, y = kids[m] := ⟨_, rfl⟩
      rw [← hy] at g0 j0 j1
      have hmem : y ∈ kids := by rw [hy]; exact List.getElem_mem _
      have HY := Lib.hid hy
      clear hy
      by_cases h0 : y < 0
      · have HB := Lib.hid (propB_f (fun h : NdOkP nodes ⟨5, at_, 0, s, kids, pats⟩ => by have := (h.2.1 y hmem).1; omega))
        clear hmem
        go_wp2
        go_ret
        exact ⟨ret_bool HB.out.symm, Joins.below_alloc2 w _ _⟩
      · by_cases h1 : (nodes.length : Int) ≤ y
        · have HB := Lib.hid (propB_f (fun h : NdOkP nodes ⟨5, at_, 0, s, kids, pats⟩ => by have := (h.2.1 y hmem).2; omega))
          clear hmem
          go_wp2
          go_ret
          exact ⟨ret_bool HB.out.symm, Joins.below_alloc2 w _ _⟩
        · clear hmem
          go_wp2
          go_round
          case rel => exact ⟨m + 1, by go_num, by omega, fun j hj h => by
              by_cases he : j = m
              · subst he; rw [← HY.out]; exact ⟨by omega, by omega⟩
              · exact HA.out j (by omega) h⟩
          case measure => simp [intOf]; omega
    · obtain rfl : m = kids.length := by omega
      have hall : ∀ k ∈ kids, 0 ≤ k ∧ k < nodes.length := fun k hk => by
        obtain ⟨i, hi, rfl⟩ := List.getElem_of_mem hk
        exact HA.out i hi hi
      have HAll := Lib.hid hall
      clear hall HA
      have HP := Lib.hid (nd_named HH.out HAll.out (by simp [namedK]) (by decide))
      go_wp2_with fail
      refine (sNameOk _ _ hs).mono ?_
      rintro e w1 ⟨rfl, hb1⟩
      obtain ⟨hc1, hf1⟩ := bcell hb1
      have hs1 := hb1.size
      simp at hs1
      have B1 : Below w.heap.size w w1 := below_tr (Joins.below_alloc2 w _ _) hb1
      cases hx : nameB s
      · have HQ := Lib.hid (propB_f (fun h => by have := (HP.out.1 h).1; rw [hx] at this; cases this))
        clear hx
        go_wp2
        go_ret
        exact ⟨ret_bool HQ.out.symm, B1⟩
      · have c0 : w1.cell? ⟨w.heap.size + 1, 0, none⟩ = some (.int .i64 5) := by rw [hc1 _ _ (by simp)]; simp
        have c4 : w1.cell? ⟨w.heap.size + 1, 4, none⟩ = some (.slice bk kids.length ck) := by rw [hc1 _ _ (by simp)]; simp
        have c5 : w1.cell? ⟨w.heap.size + 1, 5, none⟩ = some (.slice bp pats.length cp) := by rw [hc1 _ _ (by simp)]; simp
        have p1 : w1.cell? ⟨w.heap.size, 1, none⟩ = some (.slice pn nodes.length cn) := by rw [hc1 _ _ (by simp; omega)]; simp
        have HX := Lib.hid hx
        clear hc1 hf1 hx
        by_cases hz : pats.length = 0
        · have hz1 : ((pats.length : Int) == 0) = true := by simpa using hz
          have HQ := Lib.hid (show NdOkP nodes ⟨5, at_, 0, s, kids, pats⟩ ↔ (kids.length : Int) = kidsN 5 from HP.out.trans ⟨fun h => h.2.2, fun h => ⟨HX.out, nil_of_len hz, h⟩⟩)
          clear hz
          go_wp2_with fail
          go_quiet (fail)
          go_wp2_with fail
          go_quiet ((go_at_call 121; first | exact still_more (sKids _ _) | exact still_one (sKids _ _)))
          go_wp2
          go_ret
          exact ⟨ret_bool (beq_prop HQ.out), below_drewN (below_drewN (B1) _) _⟩
        · have hz1 : ((pats.length : Int) == 0) = false := by simpa using hz
          have HQ := Lib.hid (propB_f (fun h => ne_nil_of_len hz (HP.out.1 h).2.1))
          clear hz
          go_wp2_with fail
          go_quiet (fail)
          go_wp2_with fail
          go_quiet (fail)
          go_wp2
          go_ret
          exact ⟨ret_bool HQ.out.symm, below_drewN (below_drewN (B1) _) _⟩
set_option maxHeartbeats 8000000 in
theorem sNode_k7 (vt vn : Value) (at_ : Int) (s : ByteArray) (kids : List Int) (pats : List (List PN)) (nodes : List Nd) (uk up : Value) (w : World)
    (ht : ∃ pt nt ct, vt = .slice pt nt ct) (hn : RowRd 6 NdEl w vn nodes) (hk : RowRd 1 IntEl w uk kids) (hp : RowRd 1 PatEl w up pats) (hs : s.size ≤ maxLen) (hh : NdHead ⟨7, at_, 0, s, kids, pats⟩) :
    Calls Tryz.prog 51 #[.agg #[vt, vn], .agg #[.int .i64 7, .int .i64 at_, .int .i64 0, .string s, uk, up]] w fun e w' => e = .returned (.bool (propB (NdOkP nodes ⟨7, at_, 0, s, kids, pats⟩))) ∧ Below w.heap.size w w' := by
  have hn0 := hn
  have hp0 := hp
  obtain ⟨pt, nt, ct, rfl⟩ := ht
  obtain ⟨pn, cn, rfl, hmn, hnf⟩ := hn.form
  obtain ⟨bk, ck, rfl, hmk, hkf⟩ := hk.form
  obtain ⟨bp, cp, rfl, hmp, hpf⟩ := hp.form
  clear hn hk hp
  unfold maxLen at hmn hmk hmp
  have HH := Lib.hid hh
  simp only [NdHead] at hh
  have d1 : decide (at_ < 0) = false := by simp; omega
  have f1 : ¬ at_ < 0 := by omega
  clear hh
  go_enter Tryz.func51, Tryz.ntmps51
  go_wp2
  go_loop [46] (fun i => ∃ m : Nat, i = .int .i64 m ∧ m ≤ kids.length ∧ ∀ j (hj : j < m) (h : j < kids.length), 0 ≤ kids[j] ∧ kids[j] < nodes.length) (fun i => kids.length - (intOf i).toNat)
  case atStart => exact ⟨0, rfl, Nat.zero_le _, fun j hj => absurd hj (by omega)⟩
  case round =>
    obtain ⟨m, rfl, hm, hall⟩ := hrel
    have HA := Lib.hid hall
    clear hall
    by_cases hlt : m < kids.length
    · obtain ⟨b2, o2, rfl, hb2, hc2⟩ := hkf (by omega)
      obtain ⟨g0, j0, j1⟩ := hc2 m hlt
      rw [Nat.mul_one] at g0
      clear hc2 hkf
      obtain ⟨y, hy⟩ : ∃ y, y = kids[m] := ⟨_, rfl⟩
      rw [← hy] at g0 j0 j1
      have hmem : y ∈ kids := by rw [hy]; exact List.getElem_mem _
      have HY := Lib.hid hy
      clear hy
      by_cases h0 : y < 0
      · have HB := Lib.hid (propB_f (fun h : NdOkP nodes ⟨7, at_, 0, s, kids, pats⟩ => by have := (h.2.1 y hmem).1; omega))
        clear hmem
        go_wp2
        go_ret
        exact ⟨ret_bool HB.out.symm, Joins.below_alloc2 w _ _⟩
      · by_cases h1 : (nodes.length : Int) ≤ y
        · have HB := Lib.hid (propB_f (fun h : NdOkP nodes ⟨7, at_, 0, s, kids, pats⟩ => by have := (h.2.1 y hmem).2; omega))
          clear hmem
          go_wp2
          go_ret
          exact ⟨ret_bool HB.out.symm, Joins.below_alloc2 w _ _⟩
        · clear hmem
          go_wp2
          go_round
          case rel => exact ⟨m + 1, by go_num, by omega, fun j hj h => by
              by_cases he : j = m
              · subst he; rw [← HY.out]; exact ⟨by omega, by omega⟩
              · exact HA.out j (by omega) h⟩
          case measure => simp [intOf]; omega
    · obtain rfl : m = kids.length := by omega
      have hall : ∀ k ∈ kids, 0 ≤ k ∧ k < nodes.length := fun k hk => by
        obtain ⟨i, hi, rfl⟩ := List.getElem_of_mem hk
        exact HA.out i hi hi
      have HAll := Lib.hid hall
      clear hall HA
      have HP := Lib.hid (nd_named HH.out HAll.out (by simp [namedK]) (by decide))
      go_wp2_with fail
      refine (sNameOk _ _ hs).mono ?_
      rintro e w1 ⟨rfl, hb1⟩
      obtain ⟨hc1, hf1⟩ := bcell hb1
      have hs1 := hb1.size
      simp at hs1
      have B1 : Below w.heap.size w w1 := below_tr (Joins.below_alloc2 w _ _) hb1
      cases hx : nameB s
      · have HQ := Lib.hid (propB_f (fun h => by have := (HP.out.1 h).1; rw [hx] at this; cases this))
        clear hx
        go_wp2
        go_ret
        exact ⟨ret_bool HQ.out.symm, B1⟩
      · have c0 : w1.cell? ⟨w.heap.size + 1, 0, none⟩ = some (.int .i64 7) := by rw [hc1 _ _ (by simp)]; simp
        have c4 : w1.cell? ⟨w.heap.size + 1, 4, none⟩ = some (.slice bk kids.length ck) := by rw [hc1 _ _ (by simp)]; simp
        have c5 : w1.cell? ⟨w.heap.size + 1, 5, none⟩ = some (.slice bp pats.length cp) := by rw [hc1 _ _ (by simp)]; simp
        have p1 : w1.cell? ⟨w.heap.size, 1, none⟩ = some (.slice pn nodes.length cn) := by rw [hc1 _ _ (by simp; omega)]; simp
        have HX := Lib.hid hx
        clear hc1 hf1 hx
        by_cases hz : pats.length = 0
        · have hz1 : ((pats.length : Int) == 0) = true := by simpa using hz
          have HQ := Lib.hid (show NdOkP nodes ⟨7, at_, 0, s, kids, pats⟩ ↔ (kids.length : Int) = kidsN 7 from HP.out.trans ⟨fun h => h.2.2, fun h => ⟨HX.out, nil_of_len hz, h⟩⟩)
          clear hz
          go_wp2_with fail
          go_quiet (fail)
          go_wp2_with fail
          go_quiet ((go_at_call 121; first | exact still_more (sKids _ _) | exact still_one (sKids _ _)))
          go_wp2
          go_ret
          exact ⟨ret_bool (beq_prop HQ.out), below_drewN (below_drewN (B1) _) _⟩
        · have hz1 : ((pats.length : Int) == 0) = false := by simpa using hz
          have HQ := Lib.hid (propB_f (fun h => ne_nil_of_len hz (HP.out.1 h).2.1))
          clear hz
          go_wp2_with fail
          go_quiet (fail)
          go_wp2_with fail
          go_quiet (fail)
          go_wp2
          go_ret
          exact ⟨ret_bool HQ.out.symm, below_drewN (below_drewN (B1) _) _⟩
set_option maxHeartbeats 8000000 in
theorem sNode_k15 (vt vn : Value) (at_ : Int) (s : ByteArray) (kids : List Int) (pats : List (List PN)) (nodes : List Nd) (uk up : Value) (w : World)
    (ht : ∃ pt nt ct, vt = .slice pt nt ct) (hn : RowRd 6 NdEl w vn nodes) (hk : RowRd 1 IntEl w uk kids) (hp : RowRd 1 PatEl w up pats) (hs : s.size ≤ maxLen) (hh : NdHead ⟨15, at_, 0, s, kids, pats⟩) :
    Calls Tryz.prog 51 #[.agg #[vt, vn], .agg #[.int .i64 15, .int .i64 at_, .int .i64 0, .string s, uk, up]] w fun e w' => e = .returned (.bool (propB (NdOkP nodes ⟨15, at_, 0, s, kids, pats⟩))) ∧ Below w.heap.size w w' := by
  have hn0 := hn
  have hp0 := hp
  obtain ⟨pt, nt, ct, rfl⟩ := ht
  obtain ⟨pn, cn, rfl, hmn, hnf⟩ := hn.form
  obtain ⟨bk, ck, rfl, hmk, hkf⟩ := hk.form
  obtain ⟨bp, cp, rfl, hmp, hpf⟩ := hp.form
  clear hn hk hp
  unfold maxLen at hmn hmk hmp
  have HH := Lib.hid hh
  simp only [NdHead] at hh
  have d1 : decide (at_ < 0) = false := by simp; omega
  have f1 : ¬ at_ < 0 := by omega
  clear hh
  go_enter Tryz.func51, Tryz.ntmps51
  go_wp2
  go_loop [46] (fun i => ∃ m : Nat, i = .int .i64 m ∧ m ≤ kids.length ∧ ∀ j (hj : j < m) (h : j < kids.length), 0 ≤ kids[j] ∧ kids[j] < nodes.length) (fun i => kids.length - (intOf i).toNat)
  case atStart => exact ⟨0, rfl, Nat.zero_le _, fun j hj => absurd hj (by omega)⟩
  case round =>
    obtain ⟨m, rfl, hm, hall⟩ := hrel
    have HA := Lib.hid hall
    clear hall
    by_cases hlt : m < kids.length
    · obtain ⟨b2, o2, rfl, hb2, hc2⟩ := hkf (by omega)
      obtain ⟨g0, j0, j1⟩ := hc2 m hlt
      rw [Nat.mul_one] at g0
      clear hc2 hkf
      obtain ⟨y, hy⟩ : ∃ y, y = kids[m] := ⟨_, rfl⟩
      rw [← hy] at g0 j0 j1
      have hmem : y ∈ kids := by rw [hy]; exact List.getElem_mem _
      have HY := Lib.hid hy
      clear hy
      by_cases h0 : y < 0
      · have HB := Lib.hid (propB_f (fun h : NdOkP nodes ⟨15, at_, 0, s, kids, pats⟩ => by have := (h.2.1 y hmem).1; omega))
        clear hmem
        go_wp2
        go_ret
        exact ⟨ret_bool HB.out.symm, Joins.below_alloc2 w _ _⟩
      · by_cases h1 : (nodes.length : Int) ≤ y
        · have HB := Lib.hid (propB_f (fun h : NdOkP nodes ⟨15, at_, 0, s, kids, pats⟩ => by have := (h.2.1 y hmem).2; omega))
          clear hmem
          go_wp2
          go_ret
          exact ⟨ret_bool HB.out.symm, Joins.below_alloc2 w _ _⟩
        · clear hmem
          go_wp2
          go_round
          case rel => exact ⟨m + 1, by go_num, by omega, fun j hj h => by
              by_cases he : j = m
              · subst he; rw [← HY.out]; exact ⟨by omega, by omega⟩
              · exact HA.out j (by omega) h⟩
          case measure => simp [intOf]; omega
    · obtain rfl : m = kids.length := by omega
      have hall : ∀ k ∈ kids, 0 ≤ k ∧ k < nodes.length := fun k hk => by
        obtain ⟨i, hi, rfl⟩ := List.getElem_of_mem hk
        exact HA.out i hi hi
      have HAll := Lib.hid hall
      clear hall HA
      have HP := Lib.hid (nd_named HH.out HAll.out (by simp [namedK]) (by decide))
      go_wp2_with fail
      refine (sNameOk _ _ hs).mono ?_
      rintro e w1 ⟨rfl, hb1⟩
      obtain ⟨hc1, hf1⟩ := bcell hb1
      have hs1 := hb1.size
      simp at hs1
      have B1 : Below w.heap.size w w1 := below_tr (Joins.below_alloc2 w _ _) hb1
      cases hx : nameB s
      · have HQ := Lib.hid (propB_f (fun h => by have := (HP.out.1 h).1; rw [hx] at this; cases this))
        clear hx
        go_wp2
        go_ret
        exact ⟨ret_bool HQ.out.symm, B1⟩
      · have c0 : w1.cell? ⟨w.heap.size + 1, 0, none⟩ = some (.int .i64 15) := by rw [hc1 _ _ (by simp)]; simp
        have c4 : w1.cell? ⟨w.heap.size + 1, 4, none⟩ = some (.slice bk kids.length ck) := by rw [hc1 _ _ (by simp)]; simp
        have c5 : w1.cell? ⟨w.heap.size + 1, 5, none⟩ = some (.slice bp pats.length cp) := by rw [hc1 _ _ (by simp)]; simp
        have p1 : w1.cell? ⟨w.heap.size, 1, none⟩ = some (.slice pn nodes.length cn) := by rw [hc1 _ _ (by simp; omega)]; simp
        have HX := Lib.hid hx
        clear hc1 hf1 hx
        by_cases hz : pats.length = 0
        · have hz1 : ((pats.length : Int) == 0) = true := by simpa using hz
          have HQ := Lib.hid (show NdOkP nodes ⟨15, at_, 0, s, kids, pats⟩ ↔ (kids.length : Int) = kidsN 15 from HP.out.trans ⟨fun h => h.2.2, fun h => ⟨HX.out, nil_of_len hz, h⟩⟩)
          clear hz
          go_wp2_with fail
          go_quiet (fail)
          go_wp2_with fail
          go_quiet ((go_at_call 121; first | exact still_more (sKids _ _) | exact still_one (sKids _ _)))
          go_wp2
          go_ret
          exact ⟨ret_bool (beq_prop HQ.out), below_drewN (below_drewN (B1) _) _⟩
        · have hz1 : ((pats.length : Int) == 0) = false := by simpa using hz
          have HQ := Lib.hid (propB_f (fun h => ne_nil_of_len hz (HP.out.1 h).2.1))
          clear hz
          go_wp2_with fail
          go_quiet (fail)
          go_wp2_with fail
          go_quiet (fail)
          go_wp2
          go_ret
          exact ⟨ret_bool HQ.out.symm, below_drewN (below_drewN (B1) _) _⟩
set_option maxHeartbeats 8000000 in
theorem sNode_k10 (vt vn : Value) (at_ : Int) (s : ByteArray) (kids : List Int) (pats : List (List PN)) (nodes : List Nd) (uk up : Value) (w : World)
    (ht : ∃ pt nt ct, vt = .slice pt nt ct) (hn : RowRd 6 NdEl w vn nodes) (hk : RowRd 1 IntEl w uk kids) (hp : RowRd 1 PatEl w up pats) (hs : s.size ≤ maxLen) (hh : NdHead ⟨10, at_, 0, s, kids, pats⟩) :
    Calls Tryz.prog 51 #[.agg #[vt, vn], .agg #[.int .i64 10, .int .i64 at_, .int .i64 0, .string s, uk, up]] w fun e w' => e = .returned (.bool (propB (NdOkP nodes ⟨10, at_, 0, s, kids, pats⟩))) ∧ Below w.heap.size w w' := by
  have hn0 := hn
  have hp0 := hp
  obtain ⟨pt, nt, ct, rfl⟩ := ht
  obtain ⟨pn, cn, rfl, hmn, hnf⟩ := hn.form
  obtain ⟨bk, ck, rfl, hmk, hkf⟩ := hk.form
  obtain ⟨bp, cp, rfl, hmp, hpf⟩ := hp.form
  clear hn hk hp
  unfold maxLen at hmn hmk hmp
  have HH := Lib.hid hh
  simp only [NdHead] at hh
  have d1 : decide (at_ < 0) = false := by simp; omega
  have f1 : ¬ at_ < 0 := by omega
  clear hh
  go_enter Tryz.func51, Tryz.ntmps51
  go_wp2
  go_loop [46] (fun i => ∃ m : Nat, i = .int .i64 m ∧ m ≤ kids.length ∧ ∀ j (hj : j < m) (h : j < kids.length), 0 ≤ kids[j] ∧ kids[j] < nodes.length) (fun i => kids.length - (intOf i).toNat)
  case atStart => exact ⟨0, rfl, Nat.zero_le _, fun j hj => absurd hj (by omega)⟩
  case round =>
    obtain ⟨m, rfl, hm, hall⟩ := hrel
    have HA := Lib.hid hall
    clear hall
    by_cases hlt : m < kids.length
    · obtain ⟨b2, o2, rfl, hb2, hc2⟩ := hkf (by omega)
      obtain ⟨g0, j0, j1⟩ := hc2 m hlt
      rw [Nat.mul_one] at g0
      clear hc2 hkf
      obtain ⟨y, hy⟩ : ∃ y, y = kids[m] := ⟨_, rfl⟩
      rw [← hy] at g0 j0 j1
      have hmem : y ∈ kids := by rw [hy]; exact List.getElem_mem _
      have HY := Lib.hid hy
      clear hy
      by_cases h0 : y < 0
      · have HB := Lib.hid (propB_f (fun h : NdOkP nodes ⟨10, at_, 0, s, kids, pats⟩ => by have := (h.2.1 y hmem).1; omega))
        clear hmem
        go_wp2
        go_ret
        exact ⟨ret_bool HB.out.symm, Joins.below_alloc2 w _ _⟩
      · by_cases h1 : (nodes.length : Int) ≤ y
        · have HB := Lib.hid (propB_f (fun h : NdOkP nodes ⟨10, at_, 0, s, kids, pats⟩ => by have := (h.2.1 y hmem).2; omega))
          clear hmem
          go_wp2
          go_ret
          exact ⟨ret_bool HB.out.symm, Joins.below_alloc2 w _ _⟩
        · clear hmem
          go_wp2
          go_round
          case rel => exact ⟨m + 1, by go_num, by omega, fun j hj h => by
              by_cases he : j = m
              · subst he; rw [← HY.out]; exact ⟨by omega, by omega⟩
              · exact HA.out j (by omega) h⟩
          case measure => simp [intOf]; omega
    · obtain rfl : m = kids.length := by omega
      have hall : ∀ k ∈ kids, 0 ≤ k ∧ k < nodes.length := fun k hk => by
        obtain ⟨i, hi, rfl⟩ := List.getElem_of_mem hk
        exact HA.out i hi hi
      have HAll := Lib.hid hall
      clear hall HA
      have HP := Lib.hid (nd_prim HH.out HAll.out)
      go_wp2_with fail
      refine (sPrim _ _).mono ?_
      rintro e w1 ⟨rfl, hb1⟩
      obtain ⟨hc1, hf1⟩ := bcell hb1
      have hs1 := hb1.size
      simp at hs1
      have B1 : Below w.heap.size w w1 := below_tr (Joins.below_alloc2 w _ _) hb1
      cases hx : primB s
      · have HQ := Lib.hid (propB_f (fun h => by have := (HP.out.1 h).1; rw [hx] at this; cases this))
        clear hx
        go_wp2
        go_ret
        exact ⟨ret_bool HQ.out.symm, B1⟩
      · have c0 : w1.cell? ⟨w.heap.size + 1, 0, none⟩ = some (.int .i64 10) := by rw [hc1 _ _ (by simp)]; simp
        have c4 : w1.cell? ⟨w.heap.size + 1, 4, none⟩ = some (.slice bk kids.length ck) := by rw [hc1 _ _ (by simp)]; simp
        have c5 : w1.cell? ⟨w.heap.size + 1, 5, none⟩ = some (.slice bp pats.length cp) := by rw [hc1 _ _ (by simp)]; simp
        have p1 : w1.cell? ⟨w.heap.size, 1, none⟩ = some (.slice pn nodes.length cn) := by rw [hc1 _ _ (by simp; omega)]; simp
        have HX := Lib.hid hx
        clear hc1 hf1 hx
        by_cases hz : pats.length = 0
        · have hz1 : ((pats.length : Int) == 0) = true := by simpa using hz
          have HQ := Lib.hid (show NdOkP nodes ⟨10, at_, 0, s, kids, pats⟩ ↔ (kids.length : Int) = kidsN 10 from HP.out.trans ⟨fun h => h.2.2, fun h => ⟨HX.out, nil_of_len hz, h⟩⟩)
          clear hz
          go_wp2_with fail
          go_quiet (fail)
          go_wp2_with fail
          go_quiet ((go_at_call 121; first | exact still_more (sKids _ _) | exact still_one (sKids _ _)))
          go_wp2
          go_ret
          exact ⟨ret_bool (beq_prop HQ.out), below_drewN (below_drewN (B1) _) _⟩
        · have hz1 : ((pats.length : Int) == 0) = false := by simpa using hz
          have HQ := Lib.hid (propB_f (fun h => ne_nil_of_len hz (HP.out.1 h).2.1))
          clear hz
          go_wp2_with fail
          go_quiet (fail)
          go_wp2_with fail
          go_quiet (fail)
          go_wp2
          go_ret
          exact ⟨ret_bool HQ.out.symm, below_drewN (below_drewN (B1) _) _⟩
end Go.Proofs.YtbehcmogndpkhaaGreatDoor
