/- The program's moving of a value into the new heap: a cell that is not there yet. -/
import Derived.Test.YtdhpmblhejcehaaDoorCpI
namespace Go.Proofs.YtdhpmblhejcehaaDoor
set_option linter.unusedVariables false
set_option maxRecDepth 100000
open Go.ChangeShapes Go.WideShapes Go.ChangeAt Go.RowKit Go.Maps Go.WideMaps

set_option maxHeartbeats 1000000 in
theorem iCopiedNew (B t mp : Nat) (h : List Ce) (hv : Value) (o : List Nat) (L : List Ce) (cv : Value) (D : DataW Unit) (x : Nat) (s : ByteArray) (w : World) (hC : CpIs B t mp hv o L cv D w) (hB : B ≤ w.heap.size) (hr : RowRd 9 CeEl w hv h) (hrB : ∀ b, hv.ownBlock = some b → b < B) (hx : x < h.length) (hl4 : h.length ≤ 4000) (hxo : x ∉ o) (hO : OrdOk h.length o) :
    Calls Tryd.prog 21 #[.pointer (some ⟨t, 0, none⟩), .agg #[.int .i64 6, .int .i64 (x : Int), .string s]] w (CpdPost B t mp h hv o L cv ⟨6, (x : Int), s⟩ w) := by
  obtain ⟨kk, ci, cz0, cz1, cz2⟩ := info_parts info_ce
  have HO := Lib.hid (show mvO o ⟨6, (x : Int), s⟩ = o ++ [x] from by simp [mvO, hxo])
  have HL := Lib.hid (show mvL h o ⟨6, (x : Int), s⟩ = [h[x]] from by simp [mvL, hxo, List.getElem?_eq_getElem hx])
  have HV := Lib.hid (show mvV o ⟨6, (x : Int), s⟩ = ⟨6, (o.length : Int), ⟨#[]⟩⟩ from by simp only [mvV, HO.out]; rw [if_pos trivial]; simp [idxOf_new hxo])
  have hol := nodup_le _ _ hO
  have hx4 : x ≤ 4000 := by omega
  have hlk : ∀ W, Below w.heap.size w W → (Instr.lookup 47 (.map (some mp)) (.int .i64 (x : Int)) true).run Tryd.prog W = .ok (.tuple #[.int .i64 0, .bool false]) W := fun W hW => by
    obtain ⟨c, hrun, -, hc⟩ := (hC.below hW).look hx4
    rw [hc hxo] at hrun
    rw [hrun]; simp [hxo]
  obtain ⟨ha, hc, rfl, -, hR⟩ := hr.form
  obtain ⟨b, oo, rfl, hbw, hcs⟩ := hR (by omega)
  have hbB : b < B := hrB b rfl
  obtain ⟨⟨f0, f1, f2, f3, f4, f5, f6, f7, f8⟩, -⟩ := ce_at (hcs x hx)
  have hLn := hC.ln
  obtain ⟨ca, cc', rfl⟩ := own_slN hC.own
  have hPl := hC.pl
  have hIs := hC.map.isMap
  clear hr hR hcs hO hrB
  generalize h[x] = y at *
  have b1 := hp_cell hC.box 1
  have b2 := hp_cell hC.box 2
  simp at b1 b2
  have htl := hp_lt hC.box
  have HC := Lib.hid hC
  have xL : (x : Int) < (h.length : Int) := by omega
  have x0 : (0 : Int) ≤ (x : Int) := by omega
  have l3 : t < w.heap.size + 1 + 1 := by omega
  have KS : ∀ (O1 O2 : Obj) W, Below ((w.alloc O1).alloc O2).heap.size ((w.alloc O1).alloc O2) W → W.cell? ⟨t, 2, none⟩ = some (.map (some mp)) ∧ (Instr.lookup 47 (.map (some mp)) (.int .i64 (x : Int)) true).run Tryd.prog W = .ok (.tuple #[.int .i64 0, .bool false]) W := fun O1 O2 W h =>
    have hh := below_tr (Joins.below_alloc2 w O1 O2) h
    ⟨(hh.cell (p := ⟨t, 2, none⟩) htl).trans b2, hlk W hh⟩
  have HXo := Lib.hid hxo
  have HLn := Lib.hid hLn
  clear hlk hC hLn hxo hPl hIs
  go_enter Tryd.func21, Tryd.ntmps21
  go_wp2_with fail
  go_region_held3 (fun W => (W.cell? ⟨t, 2, none⟩ = some (.map (some mp)) ∧ (Instr.lookup 47 (.map (some mp)) (.int .i64 (x : Int)) true).run Tryd.prog W = .ok (.tuple #[.int .i64 0, .bool false]) W) ∧ W.cell? ⟨w.heap.size, 1, none⟩ = some (.int .i64 (x : Int)))
    (first | exact ⟨KS _ _ _ (Below.refl _ _), by simp⟩ | exact ⟨KS _ _ _ (Below.refl _ _).drew, by simp⟩)
    (fail)
  go_wp2_with fail
  refine hp_gen (P := fun W => Code.wp _ _ _ _ W) _ ?_
  intro W0 hW0
  have B0 : Below w.heap.size w W0 := by rw [hW0]; exact (Joins.below_alloc2 w _ _).drew
  have bv : W0.heap[w.heap.size]? = some (.cells #[.int .i64 6, .int .i64 (x : Int), .string s] 33 (0, 0)) := by rw [hW0]; exact hp_was (hp_al w _ rfl) _
  have rb : W0.heap[w.heap.size + 1]? = some (.cells #[.int .i64 0, .int .i64 0, .string ⟨#[]⟩] 33 (0, 0)) := by rw [hW0]; exact hp_al _ _ (by simp)
  clear hW0 KS
  have hC0 := HC.out.below B0
  have hIx : I64 (x : Int) := by unfold I64; omega
  have hIo : I64 (L.length : Int) := by have := HLn.out; unfold I64; omega
  obtain ⟨W1, hrun, hM1, hturn⟩ := hC0.map.drew.store (t := 47) (int_keyed Tryd.underlying3) Tryd.underlying47 (show o.length < maxLen from by unfold maxLen; omega) (cp_key hIx) (plainElem_int (H := Unit) Tryd.underlying3 (cp_wf hIo))
  have hg1 := hturn.grown
  have s0 := B0.size
  have hmt := map_ne hC0.map hC0.box
  have hmv := map_ne hC0.map bv
  have hmr := map_ne hC0.map rb
  have hmb : b ≠ mp := by have := hC0.lom; omega
  have K1 : ∀ k, k < W0.heap.size → k ≠ mp → W1.heap[k]? = W0.heap[k]? := fun k hk hne => hg1.block k hk (fun e => hne (by cases e; rfl))
  have h02 := hp_cell hC0.box 2
  have hv1 := hp_cell bv 1
  simp at h02 hv1
  have S1 : W1.cell? ⟨t, 2, none⟩ = some (.map (some mp)) ∧ W1.cell? ⟨w.heap.size, 1, none⟩ = some (.int .i64 (x : Int)) := ⟨(World.cell?_of_block (a := ⟨t, 2, none⟩) (K1 t (hp_lt hC0.box) hmt)).trans h02, (World.cell?_of_block (a := ⟨w.heap.size, 1, none⟩) (K1 _ (hp_lt bv) hmv)).trans hv1⟩
  go_region_held3 (fun W => W.cell? ⟨t, 2, none⟩ = some (.map (some mp)) ∧ W.cell? ⟨w.heap.size, 1, none⟩ = some (.int .i64 (x : Int)))
    (first | exact ⟨h02, hv1⟩ | exact S1)
    (fail)
  have bx1 := (K1 t (hp_lt hC0.box) hmt).trans hC0.box
  have bv1 := (K1 _ (hp_lt bv) hmv).trans bv
  have rb1 := (K1 _ (hp_lt rb) hmr).trans rb
  have z1 : W0.heap.size ≤ W1.heap.size := hg1.size
  have Bw1 : Below B w W1 := (B0.mono hB).drew.grown hg1 (show B ≤ W0.drew.heap.size from by have e9 : W0.drew.heap.size = W0.heap.size := rfl; omega) (fun k hk => by cases hk; exact hC0.lom)
  have hno := own_nomap hC0.own hC0.map
  have ow1 : W1.ownsRow B 53 9 (.slice ca L.length cc') L.length (cc L) := own_blkN hC0.own (fun g' e => K1 g' (hC0.own.lt g' e).2 (fun he => hno (he ▸ e)))
  have hqb : ∀ i, W1.cell? ⟨b, i, none⟩ = w.cell? ⟨b, i, none⟩ := fun i => (World.cell?_of_block (a := ⟨b, i, none⟩) (K1 b (by omega) hmb)).trans (B0.cell (p := ⟨b, i, none⟩) hbw)
  have g0 := (hqb _).trans f0
  have g1 := (hqb _).trans f1
  have g2 := (hqb _).trans f2
  have g3 := (hqb _).trans f3
  have g4 := (hqb _).trans f4
  have g5 := (hqb _).trans f5
  have g6 := (hqb _).trans f6
  have g7 := (hqb _).trans f7
  have g8 := (hqb _).trans f8
  have KK1 := Lib.hid (show ∀ k, k < w.heap.size → k ≠ mp → W1.heap[k]? = w.heap[k]? from fun k hk hne => (K1 k (by omega) hne).trans (B0.block k hk))
  clear hrun hturn hg1 S1 K1 h02 hv1 hqb f0 f1 f2 f3 f4 f5 f6 f7 f8 b1 b2 hC0 bv rb hno
  have t0 := hp_cell bx1 0
  have t1 := hp_cell bx1 1
  have tf := hp_fr bx1 1
  have vb := hp_cell bv1 1
  simp at t0 t1 vb
  have htn := hp_ne ow1 bx1 (by decide)
  have tW := hp_lt bx1
  have h63 : L.length + 1 ≤ maxLen := by have := HLn.out; unfold maxLen; omega
  have hby : (L.length + 1) * 96 ≤ 140737488355328 := by have := HLn.out; omega
  have hBW : B ≤ W1.heap.size := by omega
  go_wp2_with fail
  go_region_law (first | (refine hp_append_at rfl (.tmp 39) (.tmp 48) 23 rfl B 53 kk (.agg #[.int .i64 0, .int .i64 0, .string ⟨#[]⟩, .int .i64 0, .int .i64 0, .string ⟨#[]⟩, .int .i64 0, .int .i64 0, .string ⟨#[]⟩]) 9 96 Tryd.underlying23 ci cz0 cz1 cz2 rfl (by decide) (.slice ca L.length cc') L.length (cc L) rfl (ow1.drew.alloc _) ⟨W1.heap.size, 0, none⟩ 1 1 (cc [y]) rfl rfl (new_cells _ _ _ _ rfl) (cc_cell _) h63 hby (by simp; omega) ?_; intro v2 w2 hown2 hgrow2 hat2; obtain ⟨va, vcp, rfl⟩ := own_slN hown2; have hbox2 := (hgrow2.block t (by simp; omega) (fun e => htn e.symm)).trans (((Below.refl W1.heap.size W1).drew.alloc (Nat.le_refl _) _).block t tW |>.trans bx1); have y0 := hp_cell hbox2 0; have y1 := hp_cell hbox2 1; have yf := hp_fr hbox2 1; simp at y0 y1))
  all_goals
    refine hp_gen (P := fun W => Exit.then _ _ Exit.normal _ W) _ ?_
    intro W2 hW2
    have hrb : w.heap.size + 1 < W1.heap.size := hp_lt rb1
    have hlc : ∀ g', (Value.slice ca L.length cc').ownBlock = some g' → g' < w.heap.size := fun g' e => (HC.out.own.lt g' e).2
    have hsz2 : W1.heap.size ≤ w2.heap.size := by have := hgrow2.size; simp at this; omega
    have qk : ∀ k, k < W1.heap.size → k ≠ t → (Value.slice ca L.length cc').ownBlock ≠ some k → W2.heap[k]? = W1.heap[k]? := fun k hk h1 h2 => by
      rw [hW2]
      exact (Below.heap_setCell _ _ _ _ h1).trans ((hgrow2.block k (by simp; omega) (fun e => h2 e.symm)).trans (((Below.refl W1.heap.size W1).drew.alloc (Nat.le_refl _) _).block k hk))
    have bx2 : W2.heap[t]? = some (.cells #[.slice (some ⟨b, oo, none⟩) h.length hc, .slice va (L.length + 1) vcp, .map (some mp)] 49 (0, 0)) := by
      rw [hW2]
      have := hp_put (i := 1) (u := .slice va (L.length + 1) vcp) hbox2
      simpa using this
    have own2 : W2.ownsRow B 53 9 (.slice va (L.length + 1) vcp) (L ++ [y]).length (cc (L ++ [y])) := by
      rw [cc_app, List.length_append, hW2]
      exact own_blkN hown2 (fun g' e => Below.heap_setCell _ _ _ _ (fun he => hp_ne hown2 hbox2 (by decide) (e.trans (congrArg some he))))
    have map2 := map_blk hM1 (qk mp hM1.lt hmt.symm (own_nomap ow1 hM1))
    have rb2 := (qk _ hrb (by omega) (fun e => by have := hlc _ e; omega)).trans rb1
    have hb2 : Below B w W2 := by
      rw [hW2]
      exact ((Bw1.drew.alloc (show B ≤ W1.drew.heap.size from hBW) _).grown hgrow2 (by simp; omega) (fun k hk => (ow1.lt k hk).1)).setCell (by exact HC.out.lot) _
    have kp2 : ∀ k, k < w.heap.size → k ≠ t → k ≠ mp → (Value.slice ca L.length cc').ownBlock ≠ some k → W2.heap[k]? = w.heap[k]? := fun k hk h1 h2 h3 => (qk k (by omega) h1 h3).trans (KK1.out k hk h2)
    have hlo := HC.out.lot
    have hlm := HC.out.lom
    have hrm : w.heap.size + 1 ≠ mp := hmr
    have hro : (Value.slice va (L.length + 1) vcp).ownBlock ≠ some (w.heap.size + 1) := hp_ne own2 rb2 (by decide)
    have hat3 : (Value.slice va (L.length + 1) vcp).ownBlock = (Value.slice ca L.length cc').ownBlock ∨ ∃ k, w.heap.size ≤ k ∧ (Value.slice va (L.length + 1) vcp).ownBlock = some k := by
      rcases hat2 with e | e
      · exact .inl e
      · exact .inr ⟨_, by simp; omega, e⟩
    have HPL := Lib.hid (HC.out.pl.put HC.out.map.isMap HXo.out)
    clear hW2 hgrow2 hat2 hown2 hbox2 y0 y1 yf qk t0 t1 tf vb g0 g1 g2 g3 g4 g5 g6 g7 g8 bx1 bv1 rb1 ow1 hM1 KK1
    have q60 := hp_cell rb2 0
    have q61 := hp_cell rb2 1
    have q62 := hp_cell rb2 2
    have p60 := hp_fr rb2 0
    have p61 := hp_fr rb2 1
    have p62 := hp_fr rb2 2
    simp at q60 q61 q62
    go_wp2
    refine bodyPost_ret (v := .agg #[.int .i64 6, .int .i64 L.length, .string ⟨#[]⟩]) (by simp [results, Tryd.results21, go_sem, World.cell?_setCell_same', q60, q61, q62]) rfl ?_
    refine ⟨.slice va (L.length + 1) vcp, D.put (.int .i64 (x : Int)) (.lit (.int .i64 (L.length : Int))), by rw [HV.out, HLn.out], ?_, fun k h1 h2 h3 h4 => ?_, hat3, ?_⟩
    · rw [HO.out, HL.out]
      have hC2 : CpIs B t mp (.slice (some ⟨b, oo, none⟩) h.length hc) (o ++ [x]) (L ++ [y]) (.slice va (L.length + 1) vcp) (D.put (.int .i64 (x : Int)) (.lit (.int .i64 (L.length : Int)))) W2 :=
        ⟨bx2, own2, by rw [List.length_append]; exact map2, by rw [HLn.out]; exact HPL.out, by rw [List.length_append, List.length_append, HLn.out]; rfl, hlo, hlm⟩
      have e3 : ∀ k, k ≠ w.heap.size + 1 → (((W2.setCell ⟨w.heap.size + 1, 0, none⟩ (.int .i64 6)).setCell ⟨w.heap.size + 1, 1, none⟩ (.int .i64 L.length)).setCell ⟨w.heap.size + 1, 2, none⟩ (.string ⟨#[]⟩)).heap[k]? = W2.heap[k]? := fun k hk => (Below.heap_setCell _ _ _ _ hk).trans ((Below.heap_setCell _ _ _ _ hk).trans (Below.heap_setCell _ _ _ _ hk))
      exact hC2.blk (e3 _ (by omega)) (e3 _ hrm.symm) (fun b' e => e3 _ (fun he => hro (he ▸ e)))
    · have hbr : k ≠ w.heap.size + 1 := by omega
      exact (Below.heap_setCell _ _ _ _ hbr).trans ((Below.heap_setCell _ _ _ _ hbr).trans ((Below.heap_setCell _ _ _ _ hbr).trans (kp2 k h1 h2 h3 h4)))
    · exact ((hb2.setCell (by show B ≤ w.heap.size + 1; omega) _).setCell (by show B ≤ w.heap.size + 1; omega) _).setCell (by show B ≤ w.heap.size + 1; omega) _
end Go.Proofs.YtdhpmblhejcehaaDoor
