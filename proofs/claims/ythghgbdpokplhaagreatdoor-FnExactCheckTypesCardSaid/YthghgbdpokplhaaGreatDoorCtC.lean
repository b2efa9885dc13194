/- The model's check of type declarations. -/
import Derived.Test.YthghgbdpokplhaaGreatDoorCtS
import Derived.Test.YthghgbdpokplhaaGreatDoorAs
namespace Go.Proofs.YthghgbdpokplhaaGreatDoor
set_option linter.unusedVariables false
set_option maxRecDepth 100000
open Go.ChangeShapes Go.WideShapes Go.ChangeAt Go.RowKit

theorem ret2 {a b c d : Int} (h : (a, b) = (c, d)) : Ending.returned (.tuple #[.int .i64 c, .int .i64 d]) = .returned (.tuple #[.int .i64 a, .int .i64 b]) := by
  injection h with h1 h2; rw [h1, h2]
def CtPost (p : Pg) (w : World) (e : Ending) (w' : World) : Prop := e = .returned (.tuple #[.int .i64 (ctRes p).1, .int .i64 (ctRes p).2]) ∧ Below w.heap.size w w'
theorem ct_post {p : Pg} {w w' : World} {a b : Int} (h : ctRes p = (a, b)) (hb : Below w.heap.size w w') : CtPost p w (.returned (.tuple #[.int .i64 a, .int .i64 b])) w' := ⟨ret2 h, hb⟩
set_option maxHeartbeats 8000000 in
theorem sCheckTypesC (q : Pg) (v0 v1 : Value) (w : World) (h0 : RowRd 3 TpEl w v0 q.types) (h1 : RowRd 6 NdEl w v1 q.nodes) (hz : bPg q ≤ 1048576) :
    Calls Tryz.prog 5 #[.agg #[v0, v1]] w (CtPost q w) := by
  have h00 := h0
  have h10 := h1
  have hl : q.types.length ≤ 1048576 := by have := hz; simp only [bPg] at this; have h1 := bulkL_len bTp q.types; omega
  obtain ⟨p, cap, rfl, hm, hRf⟩ := h0.form
  obtain ⟨pn, cn, rfl, hmn, -⟩ := h1.form
  have HNo := Lib.hid (@ct_no q)
  have HAt := Lib.hid (fun (hp : pgOkB q = true) (i : Nat) (hi : i < q.types.length) (h0 : ∀ j, j < i → ctCode q.types j = 0) (c : Int) (hc : ctCode q.types i = c) (hn : c ≠ 0) => ct_at hp hi h0 hc hn)
  have HAll := Lib.hid (@ct_all q)
  clear h0 h1 hz
  go_enter Tryz.func5, Tryz.ntmps5
  go_wp2_with fail
  refine (sProgramOk q _ _ _ (h00.kept TpEl.st (Kept.alloc _ _)) (h10.kept NdEl.st (Kept.alloc _ _))).mono ?_
  rintro e w1 ⟨rfl, hb1⟩
  have B1 : Below w.heap.size w w1 := below_tr (Joins.below_alloc1 w _) hb1
  have z1 : w.heap.size < w1.heap.size := by have := hb1.size; simp at this; omega
  have c0 : w1.cell? ⟨w.heap.size, 0, none⟩ = some (.slice p q.types.length cap) := by rw [hb1.cell (p := ⟨w.heap.size, 0, none⟩) (by simp)]; simp
  have c1 : w1.cell? ⟨w.heap.size, 1, none⟩ = some (.slice pn q.nodes.length cn) := by rw [hb1.cell (p := ⟨w.heap.size, 1, none⟩) (by simp)]; simp
  clear hb1 h10
  cases hok : pgOkB q
  · have HR := Lib.hid (HNo.out hok)
    go_wp2
    go_ret2
    exact ct_post HR.out B1
  have HAt1 := Lib.hid (HAt.out hok)
  have HAll1 := Lib.hid (HAll.out hok)
  clear HNo HAt HAll hok
  obtain ⟨ts, hts⟩ : ∃ ts, ts = q.types := ⟨_, rfl⟩
  rw [← hts] at h00 hl hm hRf c0 HAt1 HAll1
  rw [← hts]
  have HTS := Lib.hid hts
  clear hts
  go_wp2
  go_loopw [19] (fun ii wr => ∃ k : Nat, ii = .int .i64 k ∧ k ≤ ts.length ∧ (∀ j, j < k → ctCode ts j = 0) ∧ Below w1.heap.size w1 wr) (fun ii _ => ts.length - (intOf ii).toNat)
  case atStart => exact ⟨0, rfl, Nat.zero_le _, fun j h => absurd h (by omega), Below.refl _ _⟩
  case round =>
    obtain ⟨k, rfl, hk, hz0, hbel⟩ := hrel
    generalize wr = wo at *
    have HZ := Lib.hid hz0
    clear hz0
    have zo := hbel.size
    have BB : Below w.heap.size w wo := below_tr B1 hbel
    have d0 := (hbel.cell (p := ⟨w.heap.size, 0, none⟩) z1).trans c0
    have d1 := (hbel.cell (p := ⟨w.heap.size, 1, none⟩) z1).trans c1
    clear c0 c1
    by_cases hlt : k < ts.length
    · obtain ⟨b, o, rfl, hbw, hcT⟩ := hRf (by omega)
      have ex := TpEl.st w wo b _ _ (Kept.of_below BB) hbw (hcT k hlt)
      have hT := taken_is ts k ts[k]
      have hU := unkn_is ts ts[k]
      have hE := fun (c : Nat) (hc : c < ts[k].cons.length) (W : World) (hK : Kept w W) => Lib.hid (sEarlier ts _ (.slice pn q.nodes.length cn) k c hlt hc W (h00.kept TpEl.st hK) hl)
      have HT11 := Lib.hid (fun h => HAt1.out k hlt HZ.out _ (ct11 hlt h) (by decide))
      have HT12 := Lib.hid (fun h h2 => HAt1.out k hlt HZ.out _ (ct12 hlt h h2) (by decide))
      have HT13 := Lib.hid (fun h h2 h3 => HAt1.out k hlt HZ.out _ (ct13 hlt h h2 h3) (by decide))
      have HT00 := Lib.hid (fun h h2 h3 => (show ctCode ts k = 0 from ct00 hlt h h2 h3))
      have HTY := Lib.hid (fun (c : Nat) (hc : c < ts[k].cons.length) (h : repB ts k ts[k] c = true) => twc_yes hc h)
      have HTN := Lib.hid (fun (h : ∀ c, c < ts[k].cons.length → repB ts k ts[k] c = false) => twc_no h)
      generalize ts[k] = x at *
      obtain ⟨⟨e0, i0⟩, ⟨e1, i1⟩, ⟨v2, e2, r2⟩⟩ := ex
      have r20 := r2
      obtain ⟨p2, c2, rfl, m2, hr2⟩ := r2.form
      unfold maxLen at m2
      have HT := Lib.hid hT
      have HU := Lib.hid hU
      clear hT hU r2
      go_wp2_with fail
      refine (sGiven x.name _).mono ?_
      rintro e w2 ⟨rfl, rfl⟩
      obtain ⟨g, hg⟩ : ∃ g, g = givenI x.name := ⟨_, rfl⟩
      rw [← hg] at HT ⊢
      have hgb := given_bd x.name
      rw [← hg] at hgb
      clear hg
      have B2 := below_tr BB (Joins.below_alloc1 wo (.cells #[.string x.name, .int .i64 x.params, .slice p2 x.cons.length c2] 41))
      have hb2 := hbel.alloc hbel.size (.cells #[.string x.name, .int .i64 x.params, .slice p2 x.cons.length c2] 41)
      have zz : w.heap.size < wo.heap.size := by omega
      have Box : Below wo.heap.size wo (wo.alloc (.cells #[.string x.name, .int .i64 x.params, .slice p2 x.cons.length c2] 41)) := Joins.below_alloc1 _ _
      have nz : wo.heap.size ≠ w.heap.size := by omega
      have x0 : (wo.alloc (.cells #[.string x.name, .int .i64 x.params, .slice p2 x.cons.length c2] 41)).cell? ⟨wo.heap.size, 0, none⟩ = some (.string x.name) := by simp
      have x2 : (wo.alloc (.cells #[.string x.name, .int .i64 x.params, .slice p2 x.cons.length c2] 41)).cell? ⟨wo.heap.size, 2, none⟩ = some (.slice p2 x.cons.length c2) := by simp
      have y0 : (wo.alloc (.cells #[.string x.name, .int .i64 x.params, .slice p2 x.cons.length c2] 41)).cell? ⟨w.heap.size, 0, none⟩ = some (.slice (some ⟨b, o, none⟩) ts.length cap) := by rw [World.cell?_alloc_lt _ _ ⟨w.heap.size, 0, none⟩ zz]; exact d0
      have y1 : (wo.alloc (.cells #[.string x.name, .int .i64 x.params, .slice p2 x.cons.length c2] 41)).cell? ⟨w.heap.size, 1, none⟩ = some (.slice pn q.nodes.length cn) := by rw [World.cell?_alloc_lt _ _ ⟨w.heap.size, 1, none⟩ zz]; exact d1
      have zx : wo.heap.size < (wo.alloc (.cells #[.string x.name, .int .i64 x.params, .slice p2 x.cons.length c2] 41)).heap.size := by simp
      clear d0 d1
      obtain ⟨tw, htw⟩ : ∃ f : Nat → Bool, ∀ a, f a = (decide (0 ≤ g) || (ts.take a).any fun u => sameNB x.name u.name) := ⟨_, fun _ => rfl⟩
      have HTW0 := Lib.hid (show decide (0 ≤ g) = tw 0 by rw [htw 0]; simp)
      have HTWk := Lib.hid (show takenB ts k x = tw k by rw [htw k]; exact HT.out)
      have HTWs := Lib.hid (show ∀ a (ha : a < ts.length), tw (a + 1) = (tw a || (ts[a].name.toList == x.name.toList)) from fun a ha => by
        rw [htw, htw, any_stepB _ _ _ ha, Bool.or_assoc]; rfl)
      clear htw HT
      go_wp2
      rw [HTW0.out]
      generalize (wo.alloc (.cells #[.string x.name, .int .i64 x.params, .slice p2 x.cons.length c2] 41)) = wx at *
      go_loopw [6, 7] (fun s6 s7 wr => ∃ a : Nat, s7 = .int .i64 a ∧ a ≤ k ∧ s6 = .bool (tw a) ∧ Below wx.heap.size wx wr) (fun _ a _ => k - (intOf a).toNat)
      case atStart => exact ⟨0, rfl, Nat.zero_le _, rfl, Below.refl _ _⟩
      case round =>
        obtain ⟨a, rfl, ha, rfl, hbx⟩ := hrel
        have zr := hbx.size
        have y0r := (hbx.cell (p := ⟨w.heap.size, 0, none⟩) (Nat.lt_trans zz zx)).trans y0
        have y1r := (hbx.cell (p := ⟨w.heap.size, 1, none⟩) (Nat.lt_trans zz zx)).trans y1
        have x0r := (hbx.cell (p := ⟨wo.heap.size, 0, none⟩) zx).trans x0
        have x2r := (hbx.cell (p := ⟨wo.heap.size, 2, none⟩) zx).trans x2
        by_cases hak : a < k
        · have hat : a < ts.length := by omega
          have hat' : (a : Int) < (ts.length : Int) := by omega
          have hak' : (a : Int) < (k : Int) := by omega
          have eu := TpEl.st w wr b _ _ (Kept.of_below (B2.trans (hbx.mono B2.size))) hbw (hcT a hat)
          have hst := HTWs.out a hat
          generalize ts[a] = u at *
          obtain ⟨⟨u0, ui0⟩, _, _⟩ := eu
          have HST := Lib.hid hst
          clear hst
          cases q1 : u.name.toList == x.name.toList
          · have HS2 := Lib.hid (show tw (a + 1) = tw a by rw [HST.out, q1, Bool.or_false])
            go_wp2_with fail
            go_quiet (fail)
            go_wp2
            go_roundw
            case rel => exact ⟨a + 1, by go_num, by omega, by rw [HS2.out], as_drewN hbx _⟩
            case measure => simp [intOf]; omega
          · have HS2 := Lib.hid (show tw (a + 1) = true by rw [HST.out, q1, Bool.or_true])
            go_wp2_with fail
            go_quiet (fail)
            go_wp2
            go_roundw
            case rel => exact ⟨a + 1, by go_num, by omega, by rw [HS2.out], as_drewN hbx _⟩
            case measure => simp [intOf]; omega
        · obtain rfl : a = k := by omega
          have BR : Below w.heap.size w wr := B2.trans (hbx.mono B2.size)
          have hbr : Below w1.heap.size w1 wr := hb2.trans (hbx.mono hb2.size)
          have BOA : Below wo.heap.size wo wr := below_tr Box hbx
          generalize tw a = bt at *
          cases bt
          · have HTF := Lib.hid HTWk.out
            clear HTWs HTW0 HT11
            clear x0r hbx y0 y1 x0 x2
            generalize wr = wa at *
            go_wp2
            go_loopw [47] (fun cc wr => ∃ c : Nat, cc = .int .i64 c ∧ c ≤ x.cons.length ∧ (∀ i, i < c → repB ts a x i = false) ∧ Below wa.heap.size wa wr) (fun c _ => x.cons.length - (intOf c).toNat)
            case atStart => exact ⟨0, rfl, Nat.zero_le _, fun i h => absurd h (by omega), Below.refl _ _⟩
            case round =>
              obtain ⟨c, rfl, hc, hz1, hba⟩ := hrel
              have HZ1 := Lib.hid hz1
              clear hz1
              have za := hba.size
              have BC : Below w.heap.size w wr := BR.trans (hba.mono BR.size)
              have y0s := (hba.cell (p := ⟨w.heap.size, 0, none⟩) (by show w.heap.size < _; omega)).trans y0r
              have y1s := (hba.cell (p := ⟨w.heap.size, 1, none⟩) (by show w.heap.size < _; omega)).trans y1r
              have x2s := (hba.cell (p := ⟨wo.heap.size, 2, none⟩) (by show wo.heap.size < _; omega)).trans x2r
              by_cases hcl : c < x.cons.length
              · have hEc := hE c hcl wr (Kept.of_below BC)
                have HYc := Lib.hid (HTY.out c hcl)
                generalize hrr : repB ts a x c = rr at *
                go_wp2_with fail
                refine hEc.out.mono ?_
                rintro e w3 ⟨rfl, hb3⟩
                cases rr
                · have HS2 := Lib.hid (show ∀ i, i < c + 1 → repB ts a x i = false from fun i hi => by
                    by_cases e : i = c
                    · subst e; exact hrr
                    · exact HZ1.out i (by omega))
                  clear hrr
                  go_wp2
                  go_roundw
                  case rel => exact ⟨c + 1, by go_num, by omega, HS2.out, below_tr hba hb3⟩
                  case measure => simp [intOf]; omega
                · have HR := Lib.hid (HT12.out HTF.out (HYc.out (by first | exact hrr | rfl | exact trivial)))
                  go_wp2
                  go_ret2
                  exact ct_post HR.out (below_tr BC hb3)
              · obtain rfl : c = x.cons.length := by omega
                have HTW2 := Lib.hid (HTN.out HZ1.out)
                have BD : Below w1.heap.size w1 wr := hbr.trans (hba.mono hbr.size)
                have BOC : Below wo.heap.size wo wr := BOA.trans (hba.mono BOA.size)
                clear y0r y1r x2r hba HTY HTN HZ1 hE
                generalize wr = wb at *
                go_wp2
                go_loopw [59] (fun cc wr => ∃ c : Nat, cc = .int .i64 c ∧ c ≤ x.cons.length ∧ ((x.cons.take c).all fun c => c.arg.all (knownB ts)) = true ∧ Below wb.heap.size wb wr) (fun c _ => x.cons.length - (intOf c).toNat)
                case atStart => exact ⟨0, rfl, Nat.zero_le _, rfl, Below.refl _ _⟩
                case round =>
                  obtain ⟨c, rfl, hc2, hz1, hbb⟩ := hrel
                  generalize wr = wc at *
                  have HZ1 := Lib.hid hz1
                  clear hz1
                  have zb := hbb.size
                  have BE : Below w.heap.size w wc := BC.trans (hbb.mono BC.size)
                  have BE1 : Below w1.heap.size w1 wc := BD.trans (hbb.mono BD.size)
                  have y0t := (hbb.cell (p := ⟨w.heap.size, 0, none⟩) (by show w.heap.size < _; omega)).trans y0s
                  have y1t := (hbb.cell (p := ⟨w.heap.size, 1, none⟩) (by show w.heap.size < _; omega)).trans y1s
                  by_cases hcl : c < x.cons.length
                  · obtain ⟨b3, o3, rfl, hb3, hc3⟩ := hr2 (by omega)
                    have ec := CnEl.st wo wc b3 _ _ (Kept.of_below (BOC.trans (hbb.mono BOC.size))) hb3 (hc3 c hcl)
                    have HSc := Lib.hid (all_step (fun c : Cn => c.arg.all (knownB ts)) x.cons c hcl HZ1.out)
                    have HNc := Lib.hid (all_no (fun c : Cn => c.arg.all (knownB ts)) x.cons c hcl)
                    generalize x.cons[c] = n at *
                    obtain ⟨⟨g0, l0⟩, g1, ⟨v5, g2, r5⟩⟩ := ec
                    unfold BoolEl at g1
                    obtain ⟨p5, c5, rfl, m5, hr5⟩ := r5.form
                    unfold maxLen at m5
                    have hAl := hbb.alloc zb (.cells #[.string n.name, .bool n.has, .slice p5 n.arg.length c5] 48)
                    obtain ⟨ON, hON⟩ : ∃ O, O = (Obj.cells #[.string n.name, .bool n.has, .slice p5 n.arg.length c5] 48) := ⟨_, rfl⟩
                    rw [← hON] at hAl
                    have n2 : (wc.alloc ON).cell? ⟨wc.heap.size, 2, none⟩ = some (.slice p5 n.arg.length c5) := by rw [hON]; simp
                    have zn : wc.heap.size < (wc.alloc ON).heap.size := by simp
                    have zwc : w.heap.size < wc.heap.size := by omega
                    have y0u : (wc.alloc ON).cell? ⟨w.heap.size, 0, none⟩ = some (.slice (some ⟨b, o, none⟩) ts.length cap) := by rw [World.cell?_alloc_lt _ _ ⟨w.heap.size, 0, none⟩ zwc]; exact y0t
                    have y1u : (wc.alloc ON).cell? ⟨w.heap.size, 1, none⟩ = some (.slice pn q.nodes.length cn) := by rw [World.cell?_alloc_lt _ _ ⟨w.heap.size, 1, none⟩ zwc]; exact y1t
                    have Bn : Below wc.heap.size wc (wc.alloc ON) := Joins.below_alloc1 _ _
                    clear r5
                    go_wp2
                    rw [← hON]
                    clear hON g0 g1 g2 y0t y1t
                    generalize wc.alloc ON = wn at *
                    go_loopw [67] (fun dd wr => ∃ d : Nat, dd = .int .i64 d ∧ d ≤ n.arg.length ∧ ((n.arg.take d).all (knownB ts)) = true ∧ Below wn.heap.size wn wr) (fun d _ => n.arg.length - (intOf d).toNat)
                    case atStart => exact ⟨0, rfl, Nat.zero_le _, rfl, Below.refl _ _⟩
                    case round =>
                      obtain ⟨d, rfl, hd, hz2, hbn⟩ := hrel
                      have HZ2 := Lib.hid hz2
                      clear hz2
                      have zd := hbn.size
                      have BF : Below wc.heap.size wc wr := below_tr Bn hbn
                      have BG : Below w.heap.size w wr := BE.trans (BF.mono BE.size)
                      have y0v := (hbn.cell (p := ⟨w.heap.size, 0, none⟩) (Nat.lt_trans zwc zn)).trans y0u
                      have y1v := (hbn.cell (p := ⟨w.heap.size, 1, none⟩) (Nat.lt_trans zwc zn)).trans y1u
                      by_cases hdl : d < n.arg.length
                      · obtain ⟨b6, o6, rfl, hb6, hc6⟩ := hr5 (by omega)
                        have ei := TyIEl.st wc wr b6 _ _ (Kept.of_below BF) hb6 (hc6 d hdl)
                        have HSd := Lib.hid (all_step (knownB ts) n.arg d hdl HZ2.out)
                        have HNd := Lib.hid (all_no (knownB ts) n.arg d hdl)
                        have HKn := Lib.hid (known_nb ts n.arg[d])
                        generalize n.arg[d] = y at *
                        obtain ⟨⟨f0, fi0⟩, ⟨f1, fi1⟩, ⟨f2, fi2⟩⟩ := ei
                        have hAi := hbn.alloc zd (.cells #[.int .i64 y.var, .string y.name, .int .i64 y.arity] 50)
                        have BH := below_tr BG (Joins.below_alloc1 wr (.cells #[.int .i64 y.var, .string y.name, .int .i64 y.arity] 50))
                        have nwr : wr.heap.size ≠ w.heap.size := by omega
                        have zwr : w.heap.size < wr.heap.size := by omega
                        have y0w : (wr.alloc (.cells #[.int .i64 y.var, .string y.name, .int .i64 y.arity] 50)).cell? ⟨w.heap.size, 0, none⟩ = some (.slice (some ⟨b, o, none⟩) ts.length cap) := by rw [World.cell?_alloc_lt _ _ ⟨w.heap.size, 0, none⟩ zwr]; exact y0v
                        have y1w : (wr.alloc (.cells #[.int .i64 y.var, .string y.name, .int .i64 y.arity] 50)).cell? ⟨w.heap.size, 1, none⟩ = some (.slice pn q.nodes.length cn) := by rw [World.cell?_alloc_lt _ _ ⟨w.heap.size, 1, none⟩ zwr]; exact y1v
                        by_cases hy : y.name.toList = []
                        · have hy1 : y.name.toList.isEmpty = true := by simp [hy]
                          have hy2 : (y.name.toList != []) = false := by simp [hy]
                          have HS2 := Lib.hid (HSd.out (by rw [HKn.out, hy]; rfl))
                          clear hy
                          go_wp2
                          go_roundw
                          case rel => exact ⟨d + 1, by go_num, by omega, HS2.out, hAi⟩
                          case measure => simp [intOf]; omega
                        · have hy1 : y.name.toList.isEmpty = false := by simpa using hy
                          have hy2 : (y.name.toList != []) = true := by simpa using hy
                          have hK1 := sKnown ts (.slice (some ⟨b, o, none⟩) ts.length cap) (.slice pn q.nodes.length cn) y.name y.arity (wr.alloc (.cells #[.int .i64 y.var, .string y.name, .int .i64 y.arity] 50)) (h00.kept TpEl.st (Kept.of_below BH))
                          have HKn2 := Lib.hid (show knownB ts y = knownNB ts y.name y.arity by rw [HKn.out]; simp [hy])
                          clear hy HKn
                          generalize knownNB ts y.name y.arity = kk at *
                          go_wp2_with fail
                          refine hK1.mono ?_
                          rintro e w4 ⟨rfl, hb4⟩
                          cases kk
                          · have HR := Lib.hid (HT13.out HTF.out HTW2.out (by rw [HU.out, HNc.out (HNd.out HKn2.out)]; rfl))
                            go_wp2
                            go_ret2
                            exact ct_post HR.out (below_tr BH hb4)
                          · have HS2 := Lib.hid (HSd.out HKn2.out)
                            go_wp2
                            go_roundw
                            case rel => exact ⟨d + 1, by go_num, by omega, HS2.out, below_tr hAi hb4⟩
                            case measure => simp [intOf]; omega
                      · obtain rfl : d = n.arg.length := by omega
                        rw [List.take_length] at HZ2
                        have HS2 := Lib.hid (HSc.out HZ2.out)
                        go_wp2
                        go_roundw
                        case rel => exact ⟨c + 1, by go_num, by omega, HS2.out, hAl.trans (hbn.mono hAl.size)⟩
                        case measure => simp [intOf]; omega
                  · obtain rfl : c = x.cons.length := by omega
                    rw [List.take_length] at HZ1
                    have HS2 := Lib.hid (show ∀ j, j < a + 1 → ctCode ts j = 0 from fun j hj => by
                      by_cases e : j = a
                      · subst e; exact HT00.out HTF.out HTW2.out (by rw [HU.out, HZ1.out]; rfl)
                      · exact HZ.out j (by omega))
                    go_wp2
                    go_roundw
                    case rel => exact ⟨a + 1, by go_num, by omega, HS2.out, BE1⟩
                    case measure => simp [intOf]; omega
          · have HR := Lib.hid (HT11.out HTWk.out)
            go_wp2
            go_ret2
            exact ct_post HR.out BR
    · obtain rfl : k = ts.length := by omega
      have HR := Lib.hid (HAll1.out HZ.out)
      go_wp2
      go_ret2
      exact ct_post HR.out BB
end Go.Proofs.YthghgbdpokplhaaGreatDoor
