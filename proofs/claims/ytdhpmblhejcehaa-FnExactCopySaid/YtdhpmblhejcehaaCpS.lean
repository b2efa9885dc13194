/- The model's moving of a value into the new heap. -/
import Derived.Test.YtdhpmblhejcehaaCpMath
import Derived.Test.YtdhpmblhejcehaaHpW
import Derived.Test.YtdhpmblhejcehaaHpLaw
namespace Go.Proofs.Ytdhpmblhejcehaa
set_option linter.unusedVariables false
set_option maxRecDepth 100000
open Go.ChangeShapes Go.WideShapes Go.ChangeAt Go.RowKit

/-- Cells of places. -/
def oc (o : List Nat) : List Value := o.map fun (x : Nat) => Value.int .i64 (x : Int)
/-- Where the copying stands: the order in a row of its own, the places in another, both behind a box. -/
structure ToIs (B t g n : Nat) (o : List Nat) (ov : Value) (w : World) : Prop where
  box : w.heap[t]? = some (.cells #[ov, .slice (some ⟨g, 0, none⟩) n n] 90 (0, 0))
  own : w.ownsRow B 3 1 ov o.length (oc o)
  cell : ∀ i, i < n → w.cell? ⟨g, i, none⟩ = some (.int .i64 (placeOf o i))
  fr : ∀ i, i < n → w.frozen? ⟨g, i, none⟩ = false
  lt : g < w.heap.size
  ne : g ≠ t
  ng : ov.ownBlock ≠ some g
  nt : ov.ownBlock ≠ some t
  lot : B ≤ t
  log : B ≤ g
/-- Only what the copying owns has changed. -/
def KeptTo (t g : Nat) (ov : Value) (w w' : World) : Prop := ∀ b, b < w.heap.size → b ≠ t → b ≠ g → ov.ownBlock ≠ some b → w'.heap[b]? = w.heap[b]?
/-- What moving a value leaves. -/
def MovePost (B t g n : Nat) (o : List Nat) (ov : Value) (v : Vl) (w : World) (e : Ending) (w' : World) : Prop :=
  ∃ ov', e = .returned (.agg #[.int .i64 (mvV o v).kind, .int .i64 (mvV o v).n, .string (mvV o v).s]) ∧ ToIs B t g n (mvO o v) ov' w' ∧ KeptTo t g ov w w' ∧ (ov'.ownBlock = ov.ownBlock ∨ ∃ k, w.heap.size ≤ k ∧ ov'.ownBlock = some k) ∧ Below B w w'
theorem ToIs.below {B t g n : Nat} {o : List Nat} {ov : Value} {w w' : World} (h : ToIs B t g n o ov w) (hb : Below w.heap.size w w') : ToIs B t g n o ov w' :=
  ⟨(hb.block t (hp_lt h.box)).trans h.box, own_below h.own hb, fun i hi => (hb.cell (p := ⟨g, i, none⟩) h.lt).trans (h.cell i hi), fun i hi => (hb.frozen (p := ⟨g, i, none⟩) h.lt).trans (h.fr i hi), Nat.lt_of_lt_of_le h.lt hb.size, h.ne, h.ng, h.nt, h.lot, h.log⟩
theorem KeptTo.of_below {t g : Nat} {ov : Value} {w w' : World} (hb : Below w.heap.size w w') : KeptTo t g ov w w' := fun b hb' _ _ _ => hb.block b hb'
theorem oc_length (o : List Nat) : (oc o).length = o.length := by simp [oc]
theorem oc_snoc (o : List Nat) (x : Nat) : oc (o ++ [x]) = oc o ++ [Value.int .i64 (x : Int)] := by simp [oc]
set_option maxHeartbeats 4000000 in
theorem sMove (B t g n : Nat) (o : List Nat) (ov : Value) (v : Vl) (w : World) (hT : ToIs B t g n o ov w) (hO : OrdOk n o) (hv : v.kind = 6 → 0 ≤ v.n ∧ v.n < n) (hn : n ≤ 4000) (hB : B ≤ w.heap.size) (hv6 : v.kind = 6 → v.s.toList = []) :
    Calls Try.prog 67 #[.pointer (some ⟨t, 0, none⟩), .agg #[.int .i64 v.kind, .int .i64 v.n, .string v.s]] w (MovePost B t g n o ov v w) := by
  obtain ⟨i0, hi, hz0', hz1', hz2'⟩ := info_parts info_int1
  obtain ⟨k, vn, s⟩ := v
  simp only at hv hv6
  by_cases hk : k = 6
  · subst hk
    obtain ⟨n0, n1⟩ := hv rfl
    obtain ⟨x, rfl⟩ : ∃ x : Nat, vn = (x : Int) := ⟨vn.toNat, by omega⟩
    have hx : x < n := by omega
    have hol := nodup_le n o hO
    have b0 := hp_cell hT.box 0
    have b1 := hp_cell hT.box 1
    simp at b0 b1
    have hgx := hT.cell x hx
    have hfx := hT.fr x hx
    have htl := hp_lt hT.box
    have hgl := hT.lt
    have m2 : (x : Int) < (n : Int) := by omega
    have m3 : (0 : Int) ≤ (x : Int) := by omega
    have hgt := hT.ne
    by_cases hxo : x ∈ o
    · have HO := Lib.hid (show mvO o ⟨6, (x : Int), s⟩ = o from by simp [mvO, hxo])
      have HV := Lib.hid (show mvV o ⟨6, (x : Int), s⟩ = ⟨6, ((o.idxOf x : Nat) : Int), ⟨#[]⟩⟩ from by simp only [mvV, HO.out]; simp)
      have hp : placeOf o x = ((o.idxOf x : Nat) : Int) + 1 := by unfold placeOf; rw [if_pos hxo]
      have hql : o.idxOf x < o.length := List.idxOf_lt_length_iff.2 hxo
      rw [hp] at hgx
      generalize o.idxOf x = q at *
      have hq4 : (q : Int) ≤ 4000 := by omega
      have hq0 : (0 : Int) ≤ (q : Int) := by omega
      have e0 : (((q : Int) + 1) == 0) = false := by simp; omega
      have e3 : IntKind.i64.wrap (q : Int) = (q : Int) := IntWalk.i64_in _ ⟨by omega, by omega⟩
      have e1 : wrap64 ((q : Int) + 1 - 1) = (q : Int) := by rw [show (q : Int) + 1 - 1 = q by omega]; exact wrap64_small _ (by omega)
      have e2 : wrap64 (q : Int) = (q : Int) := wrap64_small _ (by omega)
      have HTb := fun (W : World) (hb : Below w.heap.size w W) => hT.below hb
      clear hv hv6 hO hT hp hxo
      have l1 : t < w.heap.size + 1 := by omega
      have l2 : g < w.heap.size + 1 := by omega
      have l3 : t < w.heap.size + 1 + 1 := by omega
      have l4 : g < w.heap.size + 1 + 1 := by omega
      have KS : ∀ (O1 O2 : Obj) W, Below ((w.alloc O1).alloc O2).heap.size ((w.alloc O1).alloc O2) W → W.cell? ⟨t, 1, none⟩ = some (.slice (some ⟨g, 0, none⟩) n n) ∧ W.cell? ⟨g, x, none⟩ = some (.int .i64 ((q : Int) + 1)) := fun O1 O2 W h =>
        have hh := below_tr (Joins.below_alloc2 w O1 O2) h
        ⟨(hh.cell (p := ⟨t, 1, none⟩) htl).trans b1, (hh.cell (p := ⟨g, x, none⟩) hgl).trans hgx⟩
      go_enter Try.func67, Try.ntmps67
      go_wp2_with fail
      go_region_held3 (fun W => (W.cell? ⟨t, 1, none⟩ = some (.slice (some ⟨g, 0, none⟩) n n) ∧ W.cell? ⟨g, x, none⟩ = some (.int .i64 ((q : Int) + 1))) ∧ W.cell? ⟨w.heap.size, 1, none⟩ = some (.int .i64 (x : Int)))
        (first | exact ⟨KS _ _ _ (Below.refl _ _), by simp⟩ | exact ⟨KS _ _ _ (Below.refl _ _).drew, by simp⟩)
        (fail)
      go_wp2_with fail
      go_region_held3 (fun W => (W.cell? ⟨t, 1, none⟩ = some (.slice (some ⟨g, 0, none⟩) n n) ∧ W.cell? ⟨g, x, none⟩ = some (.int .i64 ((q : Int) + 1))) ∧ W.cell? ⟨w.heap.size, 1, none⟩ = some (.int .i64 (x : Int)))
        (first | exact ⟨KS _ _ _ (Below.refl _ _).drew.drew, by simp⟩ | exact ⟨KS _ _ _ (Below.refl _ _).drew, by simp⟩)
        (fail)
      all_goals
        go_wp2
        exact bodyPost_ret (v := .agg #[.int .i64 6, .int .i64 q, .string ⟨#[]⟩]) (by simp [results, Try.results67, go_sem]) rfl ⟨ov, by rw [HV.out], by rw [HO.out]; exact HTb _ (Joins.below_alloc2 w _ _).drew.drew, KeptTo.of_below (Joins.below_alloc2 w _ _).drew.drew, .inl rfl, ((Joins.below_alloc2 w _ _).drew.drew).mono hB⟩
    · have HO := Lib.hid (show mvO o ⟨6, (x : Int), s⟩ = o ++ [x] from by simp [mvO, hxo])
      have HV := Lib.hid (show mvV o ⟨6, (x : Int), s⟩ = ⟨6, (o.length : Int), ⟨#[]⟩⟩ from by simp only [mvV, HO.out]; rw [if_pos trivial]; simp [idxOf_new hxo])
      have hp : placeOf o x = 0 := placeOf_zero.2 hxo
      have HP := Lib.hid (placeOf_new hxo)
      rw [hp] at hgx
      have l1 : t < w.heap.size + 1 := by omega
      have l2 : g < w.heap.size + 1 := by omega
      have l3 : t < w.heap.size + 1 + 1 := by omega
      have l4 : g < w.heap.size + 1 + 1 := by omega
      have KS : ∀ (O1 O2 : Obj) W, Below ((w.alloc O1).alloc O2).heap.size ((w.alloc O1).alloc O2) W → W.cell? ⟨t, 1, none⟩ = some (.slice (some ⟨g, 0, none⟩) n n) ∧ W.cell? ⟨g, x, none⟩ = some (.int .i64 0) := fun O1 O2 W h =>
        have hh := below_tr (Joins.below_alloc2 w O1 O2) h
        ⟨(hh.cell (p := ⟨t, 1, none⟩) htl).trans b1, (hh.cell (p := ⟨g, x, none⟩) hgl).trans hgx⟩
      clear hv hv6 hO hp hxo
      go_enter Try.func67, Try.ntmps67
      go_wp2_with fail
      go_region_held3 (fun W => (W.cell? ⟨t, 1, none⟩ = some (.slice (some ⟨g, 0, none⟩) n n) ∧ W.cell? ⟨g, x, none⟩ = some (.int .i64 0)) ∧ W.cell? ⟨w.heap.size, 1, none⟩ = some (.int .i64 (x : Int)))
        (first | exact ⟨KS _ _ _ (Below.refl _ _), by simp⟩ | exact ⟨KS _ _ _ (Below.refl _ _).drew, by simp⟩)
        (fail)
      go_wp2_with fail
      refine hp_gen (P := fun W => Code.wp _ _ _ _ W) _ ?_
      intro W0 hW0
      have BW : Below w.heap.size w W0 := by rw [hW0]; exact (Joins.below_alloc2 w _ _).drew
      have sW : W0.heap.size = w.heap.size + 2 := by rw [hW0]; simp [World.drew]
      have v1 : W0.cell? ⟨w.heap.size, 1, none⟩ = some (.int .i64 (x : Int)) := by rw [hW0]; simp
      have hr : W0.heap[w.heap.size + 1]? = some (.cells #[.int .i64 0, .int .i64 0, .string ⟨#[]⟩] 53 (0, 0)) := by rw [hW0]; exact hp_al _ _ (by simp)
      clear hW0 KS
      have hT0 := hT.below BW
      have c0 := hp_cell hT0.box 0
      simp at c0
      have htW := hp_lt hT0.box
      have hfz := hp_fr hT0.box 0
      have hbB : B ≤ W0.heap.size := by omega
      have hovt := hT.nt
      have hovg := hT.ng
      have hovl : ∀ b, ov.ownBlock = some b → b < w.heap.size := fun b e => (hT.own.lt b e).2
      have SW := Lib.hid sW
      clear sW
      go_region_law (first | (refine hp_append_at rfl (.tmp 22) (.tmp 25) 27 rfl B 3 i0 (.int .i64 0) 1 8 Try.underlying27 hi hz0' hz1' hz2' rfl (by decide) ov o.length (oc o) rfl (hT0.own.drew.alloc _) ⟨W0.heap.size, 0, none⟩ 1 1 [.int .i64 (x : Int)] rfl rfl (new_cells _ _ _ _ rfl) (ic_one [(x : Int)]) (by unfold maxLen; omega) (by omega) (by simp [World.drew]; omega) ?_; intro v2 w2 hown2 hgrow2 hat2; obtain ⟨g2, k2, rfl, -, g2lt, g2c, -, -⟩ := own_shape hown2 (by omega); have hbox2 := (hgrow2.block t (by simp [World.drew]; omega) (fun e => hovt e.symm)).trans (((Below.refl W0.heap.size W0).drew.alloc (Nat.le_refl _) _).block t htW |>.trans hT0.box); have y0 := hp_cell hbox2 0; have y1 := hp_cell hbox2 1; have yf := hp_fr hbox2 0; simp at y0 y1))
      all_goals
        go_wp2_with fail
        refine hp_gen (P := fun W => Code.wp _ _ _ _ W) _ ?_
        intro W5 hW5
        have hat3 : ov.ownBlock = some g2 ∨ g2 = W0.heap.size + 1 := by
          rcases hat2 with e | e
          · exact .inl e.symm
          · right; simp [Value.ownBlock] at e; have e9 : W0.drew.heap.size = W0.heap.size := rfl; omega
        have g2t : g2 ≠ t := by rcases hat3 with e | e; · exact fun h => hovt (h ▸ e)
                                · omega
        have g2g : g2 ≠ g := by rcases hat3 with e | e; · exact fun h => hovg (h ▸ e)
                                · have := SW.out; omega
        have g2r : g2 ≠ w.heap.size + 1 := by rcases hat3 with e | e; · have := hovl _ e; omega
                                              · have := SW.out; omega
        have bx5 : W5.heap[t]? = some (.cells #[.slice (some ⟨g2, 0, none⟩) (o.length + 1) k2, .slice (some ⟨g, 0, none⟩) n n] 90 (0, 0)) := by
          rw [hW5]; have := hp_put (i := 0) (u := .slice (some ⟨g2, 0, none⟩) (o.length + 1) k2) hbox2; simpa using this
        have own5 : W5.ownsRow B 3 1 (.slice (some ⟨g2, 0, none⟩) (o.length + 1) k2) (o.length + 1) (oc (o ++ [x])) := by
          rw [hW5, oc_snoc]; exact ownsRow_setCell_other hown2 (fun e => g2t (by simpa [Value.ownBlock] using e)) _
        have hb5 : ∀ b, b < W0.heap.size → b ≠ t → ov.ownBlock ≠ some b → W5.heap[b]? = W0.heap[b]? := fun b h1 h2 h3 => by
          rw [hW5, Below.heap_setCell _ _ _ _ h2]
          exact (hgrow2.block b (by have e9 : W0.drew.heap.size = W0.heap.size := rfl; simp; omega) (fun e => h3 e.symm)).trans (((Below.refl W0.heap.size W0).drew.alloc (Nat.le_refl _) _).block b h1)
        have os5 : Below B W0 W5 := by
          rw [hW5]
          exact (((Below.refl B W0).drew.alloc (show B ≤ W0.drew.heap.size from hbB) _).grown hgrow2 (by have e9 : W0.drew.heap.size = W0.heap.size := rfl; simp; omega) (fun k hk => (hT0.own.lt k hk).1)).setCell (by exact hT0.lot) _
        have sz5 : W0.heap.size ≤ W5.heap.size := os5.size
        clear hW5 hown2 hgrow2 hat2 hbox2 y0 y1 yf c0 hfz
        have s2 := SW.out
        have cg5 : ∀ i, i < n → W5.cell? ⟨g, i, none⟩ = some (.int .i64 (placeOf o i)) := fun i hi' => (World.cell?_of_block (a := ⟨g, i, none⟩) (hb5 g hT0.lt hgt hovg)).trans (hT0.cell i hi')
        have fg5 : ∀ i, i < n → W5.frozen? ⟨g, i, none⟩ = false := fun i hi' => (World.frozen?_of_block (a := ⟨g, i, none⟩) (hb5 g hT0.lt hgt hovg)).trans (hT0.fr i hi')
        have v5 : W5.cell? ⟨w.heap.size, 1, none⟩ = some (.int .i64 (x : Int)) := (World.cell?_of_block (a := ⟨w.heap.size, 1, none⟩) (hb5 w.heap.size (by omega) (by omega) (fun e => by have := hovl _ e; omega))).trans v1
        have r5 : W5.heap[w.heap.size + 1]? = some (.cells #[.int .i64 0, .int .i64 0, .string ⟨#[]⟩] 53 (0, 0)) := (hb5 _ (by omega) (by omega) (fun e => by have := hovl _ e; omega)).trans hr
        have t50 := hp_cell bx5 0
        have t51 := hp_cell bx5 1
        simp at t50 t51
        have gx5 := cg5 x hx
        have fx5 := fg5 x hx
        have gl5 : g < W5.heap.size := by have := hT0.lt; omega
        have gr1 : g ≠ w.heap.size + 1 := by omega
        have tr1 : t ≠ w.heap.size + 1 := by omega
        have wg : w.heap.size ≠ g := by omega
        clear s2 v1
        have KS5 : ∀ u, ((W5.drew.setCell ⟨g, x, none⟩ u).cell? ⟨t, 0, none⟩ = some (.slice (some ⟨g2, 0, none⟩) (o.length + 1) k2) ∧ (W5.drew.setCell ⟨g, x, none⟩ u).cell? ⟨t, 1, none⟩ = some (.slice (some ⟨g, 0, none⟩) n n)) ∧ (W5.drew.setCell ⟨g, x, none⟩ u).cell? ⟨w.heap.size, 1, none⟩ = some (.int .i64 (x : Int)) := fun u =>
          ⟨⟨(World.cell?_setCell_other _ _ _ _ (fun e => by cases e; exact hgt rfl)).trans t50, (World.cell?_setCell_other _ _ _ _ (fun e => by cases e; exact hgt rfl)).trans t51⟩, (World.cell?_setCell_other _ _ _ _ (fun e => by cases e; exact wg rfl)).trans v5⟩
        go_region_held3 (fun W => (W.cell? ⟨t, 0, none⟩ = some (.slice (some ⟨g2, 0, none⟩) (o.length + 1) k2) ∧ W.cell? ⟨t, 1, none⟩ = some (.slice (some ⟨g, 0, none⟩) n n)) ∧ W.cell? ⟨w.heap.size, 1, none⟩ = some (.int .i64 (x : Int)))
          (first | exact ⟨⟨t50, t51⟩, v5⟩ | exact KS5 _)
          (fail)
        have hq0 : (0 : Int) ≤ (o.length : Int) := by omega
        have hq4 : (o.length : Int) ≤ 4000 := by omega
        have e0 : IntKind.i64.wrap (o.length : Int) = (o.length : Int) := IntWalk.i64_in _ ⟨by omega, by omega⟩
        have e1 : wrap64 ((o.length : Int) + 1 - 1) = (o.length : Int) := by rw [show (o.length : Int) + 1 - 1 = o.length by omega]; exact wrap64_small _ (by omega)
        have e2 : wrap64 (o.length : Int) = (o.length : Int) := wrap64_small _ (by omega)
        go_wp2_with fail
        refine hp_gen (P := fun W => Code.wp _ _ _ _ W) _ ?_
        intro W6 hW6
        have bx6 : W6.heap[t]? = some (.cells #[.slice (some ⟨g2, 0, none⟩) (o.length + 1) k2, .slice (some ⟨g, 0, none⟩) n n] 90 (0, 0)) := by
          rw [hW6]; exact hp_set (g := g) (o := x) bx5 hgt.symm _
        have own6 : W6.ownsRow B 3 1 (.slice (some ⟨g2, 0, none⟩) (o.length + 1) k2) (o.length + 1) (oc (o ++ [x])) := by
          rw [hW6]; exact (ownsRow_setCell_other own5 (fun e => g2g (by simpa [Value.ownBlock] using e)) _).drew
        have cg6 : ∀ i, i < n → W6.cell? ⟨g, i, none⟩ = some (.int .i64 (placeOf (o ++ [x]) i)) := fun i hi' => by
          rw [HP.out i, hW6]
          by_cases he : i = x
          · subst he; rw [if_pos rfl]; exact World.cell?_setCell_same _ _ _ (cg5 i hi')
          · rw [if_neg he]; exact (World.cell?_setCell_other _ _ _ _ (fun e => he (by cases e; rfl))).trans (cg5 i hi')
        have fg6 : ∀ i, i < n → W6.frozen? ⟨g, i, none⟩ = false := fun i hi' => by rw [hW6]; exact (World.frozen?_setCell _ _ _ _).trans (fg5 i hi')
        have v6 : W6.cell? ⟨w.heap.size, 1, none⟩ = some (.int .i64 (x : Int)) := by rw [hW6]; exact (World.cell?_setCell_other _ _ _ _ (fun e => by cases e; exact wg rfl)).trans v5
        have r6 : W6.heap[w.heap.size + 1]? = some (.cells #[.int .i64 0, .int .i64 0, .string ⟨#[]⟩] 53 (0, 0)) := by rw [hW6]; exact hp_set (g := g) (o := x) r5 gr1.symm _
        have os6 : Below B W0 W6 := by rw [hW6]; exact (os5.setCell (by exact hT0.log) _).drew
        have hb6 : ∀ b, b < W0.heap.size → b ≠ t → b ≠ g → ov.ownBlock ≠ some b → W6.heap[b]? = W0.heap[b]? := fun b h1 h2 h3 h4 => by
          rw [hW6]; exact (Below.heap_setCell _ _ _ _ h3).trans (hb5 b h1 h2 h4)
        have gl6 : g < W6.heap.size := by have := hT0.lt; have := os6.size; omega
        clear hW6 bx5 own5 cg5 fg5 v5 r5 os5 hb5 gl5 gx5 fx5 t50 t51 KS5 sz5
        have t61 := hp_cell bx6 1
        have q60 := hp_cell r6 0
        have q61 := hp_cell r6 1
        have q62 := hp_cell r6 2
        have p60 := hp_fr r6 0
        have p61 := hp_fr r6 1
        have p62 := hp_fr r6 2
        simp at t61 q60 q61 q62
        have gx6 := cg6 x hx
        rw [HP.out x, if_pos rfl] at gx6
        have KS6 : ∀ a b c, ((((W6.drew.setCell ⟨w.heap.size + 1, 0, none⟩ a).setCell ⟨w.heap.size + 1, 1, none⟩ b).setCell ⟨w.heap.size + 1, 2, none⟩ c).cell? ⟨t, 1, none⟩ = some (.slice (some ⟨g, 0, none⟩) n n) ∧ (((W6.drew.setCell ⟨w.heap.size + 1, 0, none⟩ a).setCell ⟨w.heap.size + 1, 1, none⟩ b).setCell ⟨w.heap.size + 1, 2, none⟩ c).cell? ⟨g, x, none⟩ = some (.int .i64 ((o.length : Int) + 1))) ∧ (((W6.drew.setCell ⟨w.heap.size + 1, 0, none⟩ a).setCell ⟨w.heap.size + 1, 1, none⟩ b).setCell ⟨w.heap.size + 1, 2, none⟩ c).cell? ⟨w.heap.size, 1, none⟩ = some (.int .i64 (x : Int)) := fun a b c => by
          have nt : ∀ i j, (⟨w.heap.size + 1, j, none⟩ : Addr) ≠ ⟨t, i, none⟩ := fun i j e => tr1 (congrArg Addr.block e).symm
          have ng : ∀ i j, (⟨w.heap.size + 1, j, none⟩ : Addr) ≠ ⟨g, i, none⟩ := fun i j e => gr1 (congrArg Addr.block e).symm
          have nw : ∀ i j, (⟨w.heap.size + 1, j, none⟩ : Addr) ≠ ⟨w.heap.size, i, none⟩ := fun i j e => by have h9 : w.heap.size + 1 = w.heap.size := congrArg Addr.block e; omega
          refine ⟨⟨?_, ?_⟩, ?_⟩
          · rw [World.cell?_setCell_other _ _ _ _ (nt 1 2), World.cell?_setCell_other _ _ _ _ (nt 1 1), World.cell?_setCell_other _ _ _ _ (nt 1 0)]; exact t61
          · rw [World.cell?_setCell_other _ _ _ _ (ng x 2), World.cell?_setCell_other _ _ _ _ (ng x 1), World.cell?_setCell_other _ _ _ _ (ng x 0)]; exact gx6
          · rw [World.cell?_setCell_other _ _ _ _ (nw 1 2), World.cell?_setCell_other _ _ _ _ (nw 1 1), World.cell?_setCell_other _ _ _ _ (nw 1 0)]; exact v6
        go_region_held3 (fun W => (W.cell? ⟨t, 1, none⟩ = some (.slice (some ⟨g, 0, none⟩) n n) ∧ W.cell? ⟨g, x, none⟩ = some (.int .i64 ((o.length : Int) + 1))) ∧ W.cell? ⟨w.heap.size, 1, none⟩ = some (.int .i64 (x : Int)))
          (first | exact ⟨⟨t61, gx6⟩, v6⟩ | exact KS6 _ _ _)
          (fail)
        go_wp2
        refine bodyPost_ret (v := .agg #[.int .i64 6, .int .i64 o.length, .string ⟨#[]⟩]) (by simp [results, Try.results67, go_sem, World.cell?_setCell_same', q60, q61, q62]) rfl ?_
        have ng : ∀ i j, (⟨w.heap.size + 1, j, none⟩ : Addr) ≠ ⟨g, i, none⟩ := fun i j e => gr1 (congrArg Addr.block e).symm
        have no : (Value.slice (some ⟨g2, 0, none⟩) (o.length + 1) k2).ownBlock ≠ some (w.heap.size + 1) := fun e => g2r (by simpa [Value.ownBlock] using e)
        refine ⟨.slice (some ⟨g2, 0, none⟩) (o.length + 1) k2, by rw [HV.out], ?_, fun b h1 h2 h3 h4 => ?_, ?_, ?_⟩
        · rw [HO.out]
          refine ⟨hp_set (g := w.heap.size + 1) (o := 2) (hp_set (g := w.heap.size + 1) (o := 1) (hp_set (g := w.heap.size + 1) (o := 0) bx6 tr1 _) tr1 _) tr1 _, ?_, fun i hi' => (World.cell?_setCell_other _ _ _ _ (ng i 2)).trans ((World.cell?_setCell_other _ _ _ _ (ng i 1)).trans ((World.cell?_setCell_other _ _ _ _ (ng i 0)).trans (cg6 i hi'))), fun i hi' => (World.frozen?_setCell _ _ _ _).trans ((World.frozen?_setCell _ _ _ _).trans ((World.frozen?_setCell _ _ _ _).trans (fg6 i hi'))), ?_, hgt, fun e => g2g (by simpa [Value.ownBlock] using e), fun e => g2t (by simpa [Value.ownBlock] using e), hT.lot, hT.log⟩
          · have := (ownsRow_setCell_other (ownsRow_setCell_other (ownsRow_setCell_other own6 (a := ⟨w.heap.size + 1, 0, none⟩) no (.int .i64 6)) (a := ⟨w.heap.size + 1, 1, none⟩) no (.int .i64 o.length)) (a := ⟨w.heap.size + 1, 2, none⟩) no (.string ⟨#[]⟩)).drew
            simpa using this
          · simpa using gl6
        · have hbr : b ≠ w.heap.size + 1 := by omega
          exact (Below.heap_setCell _ _ _ _ hbr).trans ((Below.heap_setCell _ _ _ _ hbr).trans ((Below.heap_setCell _ _ _ _ hbr).trans ((hb6 b (by have := SW.out; omega) h2 h3 h4).trans (BW.block b h1))))
        · rcases hat3 with e | e
          · exact .inl e.symm
          · exact .inr ⟨g2, by have := SW.out; omega, rfl⟩
        · exact (((((BW.mono hB).trans os6).setCell (by show B ≤ w.heap.size + 1; omega) _).setCell (by show B ≤ w.heap.size + 1; omega) _).setCell (by show B ≤ w.heap.size + 1; omega) _).drew
  · have hkb : (k != 6) = true := by simpa using hk
    have HO := Lib.hid (show mvO o ⟨k, vn, s⟩ = o from by simp [mvO, hk])
    have HV := Lib.hid (show mvV o ⟨k, vn, s⟩ = ⟨k, vn, s⟩ from by simp [mvV, hk])
    have HTb := fun (W : World) (hb : Below w.heap.size w W) => hT.below hb
    clear hv hv6 hk hT hO
    go_enter Try.func67, Try.ntmps67
    go_wp2
    exact bodyPost_ret (v := .agg #[.int .i64 k, .int .i64 vn, .string s]) (by simp [results, Try.results67, go_sem]) rfl ⟨ov, by rw [HV.out], by rw [HO.out]; exact HTb _ (Joins.below_alloc2 w _ _), KeptTo.of_below (Joins.below_alloc2 w _ _), .inl rfl, (Joins.below_alloc2 w _ _).mono hB⟩
end Go.Proofs.Ytdhpmblhejcehaa
