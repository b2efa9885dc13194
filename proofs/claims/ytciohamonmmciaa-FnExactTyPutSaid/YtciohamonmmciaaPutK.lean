/- The program's TyPut as a whole. -/
import Derived.Test.YtciohamonmmciaaPutJ
import Derived.Deep.DeepCutAuto
import Derived.Tactics
import Derived.Tactics2
namespace Go.Proofs.Ytciohamonmmciaa
set_option linter.unusedVariables false
set_option maxRecDepth 100000
open Go.ChangeShapes Go.WideShapes Go.ChangeAt Go.RowKit

theorem iTyOfTree3 {A : Nat → Prop} {w0 : World} {u : Value} {t : List TyI} (h : TreeRd A w0 u t) (hl : t.length ≤ 1073741824) (W : World) (hB : Below w0.heap.size w0 W) : Calls Try.prog 23 #[u] W fun e w' =>
    ∃ (a0 : Option Addr) (c0 : Nat) (F0 : List Nat), e = .returned (.agg #[.slice a0 t.length c0]) ∧ RowOwn 3 TyIOwn w' (.slice a0 t.length c0) t F0 ∧ (∀ g ∈ F0, W.heap.size ≤ g) ∧ F0.Nodup ∧ Below W.heap.size W w' :=
  (iTyOfTree h W (fun k _ hk => ⟨Nat.lt_of_lt_of_le hk hB.size, hB.block k hk⟩) hl).mono fun e w' hp => by
    obtain ⟨u0, F0, h1, h2, h3, h4, h5⟩ := hp
    obtain ⟨a0, c0, rfl, _, _⟩ := (h2.reads TyIOwn.reads).form
    exact ⟨a0, c0, F0, h1, h2, h3, h4, h5⟩
/-- The box of a variable, laid ahead of a call. -/
theorem box_end {W W' w6 : World} {T : TypeId} {v : Value} (h : Below (W.alloc (.cells #[v] T)).heap.size (W.alloc (.cells #[v] T)) W') (h2 : Below W'.heap.size W' w6) :
    w6.cell? ⟨W.heap.size, 0, none⟩ = some v ∧ w6.frozen? ⟨W.heap.size, 0, none⟩ = false ∧ W.heap.size < w6.heap.size := by
  have hz : W.heap.size < W'.heap.size := by have := h.size; simp at this; omega
  exact ⟨(h2.cell (p := ⟨W.heap.size, 0, none⟩) hz).trans (box_new h).1, (h2.frozen (p := ⟨W.heap.size, 0, none⟩) hz).trans (box_new h).2, Nat.lt_of_lt_of_le hz h2.size⟩
theorem box_endd {W W' w6 : World} {T : TypeId} {v : Value} (h : Below (W.alloc (.cells #[v] T)).drew.heap.size (W.alloc (.cells #[v] T)).drew W') (h2 : Below W'.heap.size W' w6) :
    w6.cell? ⟨W.heap.size, 0, none⟩ = some v ∧ w6.frozen? ⟨W.heap.size, 0, none⟩ = false ∧ W.heap.size < w6.heap.size := by
  have hz : W.heap.size < W'.heap.size := by have := h.size; simp at this; omega
  exact ⟨(h2.cell (p := ⟨W.heap.size, 0, none⟩) hz).trans (box_newd h).1, (h2.frozen (p := ⟨W.heap.size, 0, none⟩) hz).trans (box_newd h).2, Nat.lt_of_lt_of_le hz h2.size⟩
theorem bt {w w1 w2 : World} (h : Below w.heap.size w w1) (k : Below w1.heap.size w1 w2) : Below w.heap.size w w2 := below_tr h k
/-- What the statement leaves. -/
def PutCut (w2 : World) (r : List TyI) (s6 : Value) (wx : World) : Prop := ∃ (bb : Nat) (a6 : Option Addr) (d6 : Nat) (F6 : List Nat), s6 = .pointer (some ⟨bb, 0, none⟩) ∧ wx.cell? ⟨bb, 0, none⟩ = some (.slice a6 r.length d6) ∧ w2.heap.size ≤ bb ∧
  RowOwn 3 TyIOwn wx (.slice a6 r.length d6) r F6 ∧ (∀ g ∈ F6, w2.heap.size ≤ g) ∧ F6.Nodup ∧ Below w2.heap.size w2 wx
theorem put_cut {w2 w6 : World} {r : List TyI} {bb d6 : Nat} {a6 : Option Addr} {F6 : List Nat} {v : Value} (hc : w6.cell? ⟨bb, 0, none⟩ = some v ∧ w6.frozen? ⟨bb, 0, none⟩ = false ∧ bb < w6.heap.size) (hw : w2.heap.size ≤ bb)
    (hF : RowOwn 3 TyIOwn w6 (.slice a6 r.length d6) r F6) (hlo : ∀ g ∈ F6, w2.heap.size ≤ g) (hn : bb ∉ F6) (hnd : F6.Nodup) (hB : Below w2.heap.size w2 w6) : PutCut w2 r (.pointer (some ⟨bb, 0, none⟩)) (w6.setCell ⟨bb, 0, none⟩ (.slice a6 r.length d6)) :=
  ⟨bb, a6, d6, F6, rfl, World.cell?_setCell_same' _ _ _ (by rw [hc.1]; rfl), hw, hF.set TyIOwn.loc TyIOwn.sized _ _ hn, hlo, hnd, hB.setCell hw _⟩
theorem put_cut5 {w2 w6 : World} {T : TypeId} {r : List TyI} {d6 : Nat} {a6 : Option Addr} {F6 : List Nat} (hF : RowOwn 3 TyIOwn w6 (.slice a6 r.length d6) r F6) (hlo : ∀ g ∈ F6, w2.heap.size ≤ g) (hnd : F6.Nodup) (hB : Below w2.heap.size w2 w6) :
    PutCut w2 r (.pointer (some ⟨w6.heap.size, 0, none⟩)) (w6.alloc (.cells #[.slice a6 r.length d6] T)) :=
  ⟨w6.heap.size, a6, d6, F6, rfl, by simp, hB.size, hF.kept TyIOwn.loc TyIOwn.sized (Joins.below_alloc1 _ _), hlo, hnd, below_tr hB (Joins.below_alloc1 _ _)⟩
set_option maxHeartbeats 2000000 in
theorem iTyPutC (x : List TyI) (l : List Sb) (v vl : Value) (w : World) (hR : RowRd 3 TyIEl w v x) (hRl : RowRd 2 SbEl w vl l) (hz : bTy x ≤ 1048576) (hzl : bulkL bSb l ≤ 1048576) :
    Calls Try.prog 15 #[.agg #[v], vl] w (TyPutPost (resTyPut x l) w) := by
  have hl : x.length ≤ 1048576 := Nat.le_trans (bulkL_len _ _) hz
  have hll : l.length ≤ 1048576 := Nat.le_trans (bulkL_len _ _) hzl
  have hR0 := hR
  have hRl0 := hRl
  obtain ⟨p, cap, rfl, _, _⟩ := hR.form
  obtain ⟨pl, capl, rfl, _, _⟩ := hRl.form
  have HRes := Lib.hid (show resTyPut x l = if (tyOkB x && subsOkB l) = true then (if (putX l x).length ≤ 200 then (putX l x, true) else ([], false)) else ([], false) from rfl)
  go_enter Try.func15, Try.ntmps15
  go_wp2_with fail
  refine (iTyOkC x _ _ (hR0.kept TyIEl.st (Kept.al2 _ _ _)) hz).mono ?_
  rintro e w1 ⟨rfl, hb1⟩
  obtain ⟨hc1, hf1⟩ := bcell hb1
  have B1 : Below w.heap.size w w1 := below_tr (Joins.below_alloc2 w _ _) hb1
  have c0 : w1.cell? ⟨w.heap.size, 0, none⟩ = some (.slice p x.length cap) := by rw [hc1 _ _ (by simp; omega)]; simp
  have c1 : w1.cell? ⟨w.heap.size + 1, 0, none⟩ = some (.slice none 0 0) := by rw [hc1 _ _ (by simp)]; simp
  have f1 : w1.frozen? ⟨w.heap.size + 1, 0, none⟩ = false := by rw [hf1 _ _ (by simp)]; simp
  have z1 : w.heap.size + 1 < w1.heap.size := by have := hb1.size; simp at this; omega
  clear hc1 hf1 hb1
  cases hok : tyOkB x
  · rw [hok] at HRes
    go_wp2
    have hres : resTyPut x l = ([], false) := HRes.out
    rw [hres]
    refine bodyPost_ret (v := .tuple #[.agg #[.slice none 0 0], .bool false]) (by simp [results, Try.results15, go_sem, c1]) rfl ⟨.slice none 0 0, [], rfl, .inl ⟨rfl, rfl, _, _, rfl⟩, fun g hg => by simp at hg, List.nodup_nil, B1.setCell (Nat.le_succ _) _⟩
  · go_wp2_with fail
    refine (iSubsOkC l _ _ (hRl0.kept SbEl.st (Kept.of_below B1)) hzl).mono ?_
    rintro e w2 ⟨rfl, hb2⟩
    have B2 := below_tr B1 hb2
    have d0 := (hb2.cell (p := ⟨w.heap.size, 0, none⟩) (by show w.heap.size < _; omega)).trans c0
    have d1 := (hb2.cell (p := ⟨w.heap.size + 1, 0, none⟩) z1).trans c1
    have g1 := (hb2.frozen (p := ⟨w.heap.size + 1, 0, none⟩) z1).trans f1
    have z2 : w.heap.size + 1 < w2.heap.size := Nat.lt_of_lt_of_le z1 hb2.size
    clear c0 c1 f1
    cases hso : subsOkB l
    · rw [hok, hso] at HRes
      go_wp2
      have hres : resTyPut x l = ([], false) := HRes.out
      rw [hres]
      refine bodyPost_ret (v := .tuple #[.agg #[.slice none 0 0], .bool false]) (by simp [results, Try.results15, go_sem, d1]) rfl ⟨.slice none 0 0, [], rfl, .inl ⟨rfl, rfl, _, _, rfl⟩, fun g hg => by simp at hg, List.nodup_nil, B2.setCell (Nat.le_succ _) _⟩
    · have hvar := tyOk_var hok
      have ht := ty_tree hok (row_names hR0)
      have hS := subsOk_of hso
      have hl2 := tyOk_len hok
      rw [hok, hso] at HRes
      have hpl : (putX l x).length ≤ 1073741824 := by have := putX_len hzl x; have : x.length * 1048576 ≤ 200 * 1048576 := Nat.mul_le_mul_right _ hl2; omega
      clear hok hso
      have hTree := fun W (hB : Below w2.heap.size w2 W) => Lib.hid (iTreeOfTy x _ W (hR0.kept TyIEl.st ((Kept.of_below B2).trans (Kept.of_below hB))) ht hl)
      have n2a : w.heap.size ≠ w2.heap.size := by omega
      have l2a : w.heap.size < w2.heap.size := by omega
      have n2b : w2.heap.size ≠ w.heap.size := by omega
      go_wp2_with fail
      go_upto_region 3 with fail
      go_cut [6] (fun s6 wx => PutCut w2 (putX l x) s6 wx)
      case first =>
        go_region_with (first
          | (go_at_call 25; refine (hTree _ (by first | exact Below.refl _ _ | exact (Below.refl _ _).drew | exact Joins.below_alloc1 _ _ | exact (Below.refl _ _).drew.alloc (Nat.le_refl _) _)).out.mono ?_; rintro e w3 ⟨u, rfl, ht3, hb3⟩; have hb3' : Below w2.heap.size w2 w3 := below_tr (by first | exact Below.refl _ _ | exact (Below.refl _ _).drew | exact Joins.below_alloc1 _ _ | exact (Below.refl _ _).drew.alloc (Nat.le_refl _) _) hb3; obtain ⟨T, xx, gp, rfl, eg, hm, hnil, hcp⟩ := callPut_fn ht3)
          | (go_at_call 34; refine (iPutsOf2 _ ⟨_, _, _, rfl⟩ _).mono ?_; rintro e w4 ⟨b1, b2, rfl, p1, p2, p3, p4, hb4⟩; have hb4' : Below w3.heap.size w3 w4 := below_tr (by first | exact Below.refl _ _ | exact (Below.refl _ _).drew | exact Joins.below_alloc1 _ _ | exact (Below.refl _ _).drew.alloc (Nat.le_refl _) _) hb4; have hJ4 : PutJ l (.slice pl l.length capl) b1 b2 () w4 := ⟨hRl0.kept SbEl.st ((Kept.of_below B2).trans ((Kept.of_below hb3').trans (Kept.of_below hb4'))), p1, p2⟩; have hput := fun W (hB : Below w4.heap.size w4 W) => Lib.hid (hcp _ W _ (iPut (putBy l hS _ _ _ w4 hJ4 p3 p4 hll hzl) ht3 (fun k _ => by simp) hl hvar () W hB hB.size (fun k _ hk => ⟨Nat.lt_of_lt_of_le hk (Nat.le_trans hb4'.size hB.size), (hB.block k (Nat.lt_of_lt_of_le hk hb4'.size)).trans (hb4'.block k hk)⟩))))
          | (go_at_fn gp; refine (hput _ (by first | exact Below.refl _ _ | exact (Below.refl _ _).drew | exact Joins.below_alloc1 _ _ | exact (Below.refl _ _).drew.alloc (Nat.le_refl _) _)).out.mono ?_; rintro e w5 ⟨u5, rfl, ht5, _, hbut5⟩; have hb5W := hbut5.bel (fun g hg => by simp at hg) (Nat.le_refl _); rw [putT_put] at ht5; have hb5' : Below w4.heap.size w4 w5 := below_tr (by first | exact Below.refl _ _ | exact (Below.refl _ _).drew | exact Joins.below_alloc1 _ _ | exact (Below.refl _ _).drew.alloc (Nat.le_refl _) _) hb5W; have hto := fun W (hB : Below w5.heap.size w5 W) => Lib.hid (iTyOfTree3 ht5 hpl W hB); obtain ⟨T5, x5, rfl⟩ := ht5.shape)
          | (go_at_call 23; refine (hto _ (by first | exact Below.refl _ _ | exact (Below.refl _ _).drew | exact Joins.below_alloc1 _ _ | exact (Below.refl _ _).drew.alloc (Nat.le_refl _) _)).out.mono ?_; rintro e w6 ⟨a6, d6, F6, rfl, hF6, hlo6, hnd6, hbW⟩; have hb6' : Below w5.heap.size w5 w6 := below_tr (by first | exact Below.refl _ _ | exact (Below.refl _ _).drew | exact Joins.below_alloc1 _ _ | exact (Below.refl _ _).drew.alloc (Nat.le_refl _) _) hbW; have h46 := bt hb5' hb6'; have h36 := bt hb4' h46; first | (have bx := box_end hb3 h36; obtain ⟨bq1, bq2, bq3⟩ := bx) | (have bx := box_endd hb3 h36; obtain ⟨bq1, bq2, bq3⟩ := bx) | (have bx := box_end hb4 h46; obtain ⟨bq1, bq2, bq3⟩ := bx) | (have bx := box_end hb5W hb6'; obtain ⟨bq1, bq2, bq3⟩ := bx) | (have bx := box_end hbW (Below.refl _ _); obtain ⟨bq1, bq2, bq3⟩ := bx) | skip))
        all_goals
          go_wp2_with fail
          go_meet
          have s3 := hb3.size
          have s4 := hb4.size
          have s5 := hb5W.size
          have s6 := hbW.size
          have hB6 : Below w2.heap.size w2 w6 := bt hb3' h36
          (try simp at s3)
          (try simp at s4)
          (try simp at s5)
          (try simp at s6)
          first
            | (refine put_cut ⟨bq1, bq2, bq3⟩ ?_ hF6 ?_ ?_ hnd6 hB6
               · omega
               · intro g hg; have := hlo6 g hg; (try simp at this); omega
               · intro h; have := hlo6 _ h; (try simp at this); omega)
            | (refine put_cut5 hF6 ?_ hnd6 hB6
               intro g hg; have := hlo6 g hg; (try simp at this); omega)
      case rest =>
        obtain ⟨bb, a6, d6, F6, rfl, q0, hbb, hF6, hlo6, hnd6, hB6⟩ := hcut
        have q1 := (hB6.cell (p := ⟨w.heap.size + 1, 0, none⟩) z2).trans d1
        have q2 := (hB6.frozen (p := ⟨w.heap.size + 1, 0, none⟩) z2).trans g1
        have z6 := Nat.lt_of_lt_of_le z2 hB6.size
        have B6 := below_tr B2 hB6
        have nb1 : bb ≠ w.heap.size + 1 := by omega
        clear hTree
        by_cases hlen : (putX l x).length ≤ 200
        · have dl : decide (200 < ((putX l x).length : Int)) = false := by simp; omega
          have hres : resTyPut x l = (putX l x, true) := by rw [HRes.out]; simp [hlen]
          go_wp2
          rw [hres]
          refine bodyPost_ret (v := .tuple #[.agg #[.slice a6 (putX l x).length d6], .bool true]) (by simp [results, Try.results15, go_sem, q1]) rfl ⟨_, F6, rfl, hF6.set TyIOwn.loc TyIOwn.sized _ _ (fun e => by have := hlo6 _ e; omega), fun g hg => by have := hlo6 g hg; omega, hnd6, B6.setCell (Nat.le_succ _) _⟩
        · have dl : decide (200 < ((putX l x).length : Int)) = true := by simp; omega
          have hres : resTyPut x l = ([], false) := by rw [HRes.out]; simp [hlen]
          go_wp2
          rw [hres]
          refine bodyPost_ret (v := .tuple #[.agg #[.slice none 0 0], .bool false]) (by simp [results, Try.results15, go_sem, q1]) rfl ⟨.slice none 0 0, [], rfl, .inl ⟨rfl, rfl, _, _, rfl⟩, fun g hg => by simp at hg, List.nodup_nil, B6.setCell (Nat.le_succ _) _⟩
end Go.Proofs.Ytciohamonmmciaa
