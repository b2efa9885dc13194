/- The program's trees: what is put for the variables of a tree, by what the putting function keeps. -/
import Derived.Test.YtciohamonmmciaaTreeP
import Derived.OwnWalk
namespace Go.Proofs.Ytciohamonmmciaa
set_option linter.unusedVariables false
set_option maxRecDepth 100000
open Go.ChangeShapes Go.WideShapes Go.ChangeAt Go.RowKit

/-- Items with what is put for their variables. -/
def putT {σ : Type} (V : σ → Int → List TyI × σ) : σ → List TyI → List TyI × σ
  | s, [] => ([], s)
  | s, x :: l => if x.name.toList = [] then ((V s x.var).1 ++ (putT V (V s x.var).2 l).1, (putT V (V s x.var).2 l).2) else (x :: (putT V s l).1, (putT V s l).2)
theorem putT_app {σ : Type} (V : σ → Int → List TyI × σ) (l m : List TyI) : ∀ s, putT V s (l ++ m) = ((putT V s l).1 ++ (putT V (putT V s l).2 m).1, (putT V (putT V s l).2 m).2) := by
  induction l with
  | nil => intro s; rfl
  | cons x l ih =>
    intro s
    by_cases h : x.name.toList = []
    · simp only [List.cons_append, putT, if_pos h, ih, List.append_assoc]
    · simp only [List.cons_append, putT, if_neg h, ih]
def OutA (M : List Nat) (B0 n : Nat) : Nat → Prop := fun k => k ∉ M ∧ (k < B0 ∨ n ≤ k)
def PutPost {σ : Type} (V : σ → Int → List TyI × σ) (J : σ → World → Prop) (B0 : Nat) (M : List Nat) (s : σ) (t : List TyI) (w : World) (e : Ending) (w' : World) : Prop :=
  ∃ u, e = .returned u ∧ TreeRd (OutA M B0 w.heap.size) w' u (putT V s t).1 ∧ J (putT V s t).2 w' ∧ ButF M w w'
/-- What is asked of the putting function. -/
structure PutBy {σ : Type} (Pn : Int → Prop) (V : σ → Int → List TyI × σ) (J : σ → World → Prop) (B0 : Nat) (M : List Nat) (g : Nat) (lb : Array Value) : Prop where
  eg : ∀ args w, (callFunc g args).run Try.prog w = .ok (.enter g args) w
  low : ∀ k ∈ M, k < B0
  keep : ∀ s W W', J s W → Below B0 W W' → J s W'
  by_ : ∀ s W n, Pn n → I64 n → J s W → B0 ≤ W.heap.size → Calls Try.prog g (#[.int .i64 n] ++ lb) W fun e w' => ∃ u, e = .returned u ∧ TreeRd (OutA M B0 W.heap.size) w' u (V s n).1 ∧ J (V s n).2 w' ∧ ButF M W w'
def CallPut (u f : Value) (w : World) (Q : Ending → World → Prop) : Prop := match u with
  | .iface T x => Calls Try.prog (if T = 77 then 94 else 97) #[x, f] w Q
  | _ => False
theorem m_put_var (n : Int) (w : World) : (method 227 77 (.int .i64 n) "loop.example/g00395/impl.put").run Try.prog w = .ok (94, .int .i64 n) w := by kernel_rfl
theorem m_put_con (s : ByteArray) (v : Value) (w : World) : (method 227 97 (.agg #[.string s, v]) "loop.example/g00395/impl.put").run Try.prog w = .ok (97, .agg #[.string s, v]) w := by kernel_rfl
theorem ButF.below {M : List Nat} {w w' : World} {B0 : Nat} (h : ButF M w w') (hM : ∀ k < B0, k ∉ M) (hB : B0 ≤ w.heap.size) : Below B0 w w' := ⟨h.os, h.tape, h.output, h.size, fun k hk => h.block k (by omega) (hM k hk)⟩
theorem TreeRd.but {A : Nat → Prop} {M : List Nat} {w w' : World} {v : Value} {t : List TyI} (h : TreeRd A w v t) (hb : ButF M w w') (hA : ∀ k, A k → k ∉ M) : TreeRd A w' v t := h.same (fun k ha hk => ⟨ha, hb.block k hk (hA k ha)⟩) hb.size
theorem own_but {B e n m : Nat} {M : List Nat} {w w' : World} {v : Value} {xs : List Value} (h : w.ownsRow B e m v n xs) (hb : ButF M w w') (hM : ∀ k, v.ownBlock = some k → k ∉ M) : w'.ownsRow B e m v n xs := by
  have hlt := h.lt
  obtain ⟨h0, h1 | ⟨g, cap, cur, rfl, h1, h2, h3⟩⟩ := h
  · exact ⟨h0, .inl h1⟩
  · exact ⟨h0, .inr ⟨g, cap, cur, rfl, h1, by rw [hb.block g (hlt g rfl).2 (hM g rfl)]; exact h2, h3⟩⟩
section
variable {σ : Type} {Pn : Int → Prop} {V : σ → Int → List TyI × σ} {J : σ → World → Prop} {B0 : Nat} {M : List Nat} {g : Nat} {lb : Array Value}
theorem iPut_var (H : PutBy Pn V J B0 M g lb) (n : Int) (hpn : Pn n) (hn : I64 n) (s : σ) (w : World) (hj : J s w) (hB : B0 ≤ w.heap.size) :
    Calls Try.prog 94 #[.int .i64 n, .func (.func g) #[] lb] w (PutPost V J B0 M s [⟨n, noName, 0⟩] w) := by
  have hc := H.by_ s w n hpn hn hj hB
  have eg := H.eg
  have hp : putT V s [⟨n, noName, 0⟩] = V s n := by
    have : (noName : ByteArray).toList = [] := by rw [toList_data]; rfl
    simp [putT, this]
  unfold PutPost
  rw [hp]
  have HC := Lib.hid hc
  clear hc hp H
  go_enter Try.func94, Try.ntmps94
  go_wp2_with (go_at_fn g; refine HC.out.mono ?_; rintro e w1 ⟨u, rfl, h1, h2, h3⟩)
  go_ret
  exact ⟨_, rfl, h1, h2, h3⟩
theorem iPutArg (u : Value) (hu : (∃ n, u = .iface 77 (.int .i64 n)) ∨ (∃ s v, u = .iface 97 (.agg #[.string s, v]))) (f : Value) (bb : Nat) (s : σ) (t : List TyI) (w : World) (hc : w.cell? ⟨bb, 0, none⟩ = some f)
    (hcall : CallPut u f w (PutPost V J B0 M s t w)) : Calls Try.prog 98 #[u, .pointer (some ⟨bb, 0, none⟩)] w (PutPost V J B0 M s t w) := by
  rcases hu with ⟨n, rfl⟩ | ⟨s', v', rfl⟩
  · have hcall : Calls Try.prog 94 #[.int .i64 n, f] w (PutPost V J B0 M s t w) := hcall
    have hmm := m_put_var n
    go_enter Try.func98, Try.ntmps98
    go_wp2_with (go_at_call 94; refine hcall.mono ?_; rintro e w1 ⟨u', rfl, h1, h2, h3⟩)
    go_ret
    exact ⟨_, rfl, h1, h2, h3⟩
  · have hcall : Calls Try.prog 97 #[.agg #[.string s', v'], f] w (PutPost V J B0 M s t w) := hcall
    have hmm := m_put_con s' v'
    go_enter Try.func98, Try.ntmps98
    go_wp2_with (go_at_call 97; refine hcall.mono ?_; rintro e w1 ⟨u', rfl, h1, h2, h3⟩)
    go_ret
    exact ⟨_, rfl, h1, h2, h3⟩
theorem e_iPutArg : ∀ args w, (callFunc 98 args).run Try.prog w = .ok (.enter 98 args) w := enters_of Try.func98 (by kernel_rfl) rfl
theorem info_tree : (Try.prog.info? 48).map (fun i => (i.zero, i.size, i.bytes)) = some (some .nilIface, 1, 16) := by kernel_rfl
/-- Where the loop stands that maps the arguments. -/
structure PInv (V : σ → Int → List TyI × σ) (J : σ → World → Prop) (B0 : Nat) (M : List Nat) (s : σ) (ls : List (List TyI)) (w : World) (g n : Nat) (j : Nat) (us : List Value) (rs : List (List TyI)) (wr : World) : Prop where
  len : us.length = j
  rlen : rs.length = j
  res : rs.flatten = (putT V s (ls.take j).flatten).1
  own : wr.ownsRow w.heap.size 48 1 (.slice (some ⟨g, 0, none⟩) j n) j us
  trees : ∀ k (h1 : k < us.length) (h2 : k < rs.length), TreeRd (fun q => OutA M B0 w.heap.size q ∧ q ≠ g) wr us[k] rs[k]
  st : J (putT V s (ls.take j).flatten).2 wr
  but : ButF M w wr
theorem alloc_old (w : World) (O : Obj) (k : Nat) (h : k < w.heap.size) : (w.alloc O).heap[k]? = w.heap[k]? := ((Below.refl w.heap.size w).alloc (Nat.le_refl _) O).block k h
theorem PInv.step (H : PutBy Pn V J B0 M g lb) {s : σ} {ls rs : List (List TyI)} {w wr w1 w2 : World} {gr n j : Nat} {us : List Value} {u : Value} {r : List TyI} {O : Obj} (h : PInv V J B0 M s ls w gr n j us rs wr) (hg : gr = w.heap.size) (hB : B0 ≤ w.heap.size) (hj : j < ls.length)
    (hpt : putT V s (ls.take (j + 1)).flatten = ((putT V s (ls.take j).flatten).1 ++ r, (putT V (putT V s (ls.take j).flatten).2 ls[j]).2))
    (h1 : TreeRd (OutA M B0 wr.heap.size) w1 u r) (h2 : J (putT V (putT V s (ls.take j).flatten).2 ls[j]).2 w1) (h3 : ButF M wr w1) (hgrow : (w1.alloc O).grownBy w2 (some gr)) (hown : w2.ownsRow w.heap.size 48 1 (.slice (some ⟨gr, 0, none⟩) (j + 1) n) (j + 1) (us ++ [u])) :
    PInv V J B0 M s ls w gr n (j + 1) (us ++ [u]) (rs ++ [r]) w2 := by
  have hgr : gr < wr.heap.size := (h.own.lt gr rfl).2
  have hz := h3.size
  have hz0 := h.but.size
  have hz2 : w1.heap.size ≤ w2.heap.size := by have := hgrow.size; simp at this; omega
  have e12 : ∀ k, k < w1.heap.size → k ≠ gr → w2.heap[k]? = w1.heap[k]? := fun k hk hne => (hgrow.block k (by simp; omega) (by simp; omega)).trans (alloc_old w1 O k hk)
  have hlen := h.len
  have hrlen := h.rlen
  refine ⟨by simp [hlen], by simp [hrlen], by rw [hpt, List.flatten_append, h.res]; simp, hown, fun k k1 k2 => ?_, ?_, ?_⟩
  · by_cases he : k = j
    · subst he
      have a1 : (us ++ [u])[k] = u := by rw [List.getElem_append_right (by omega)]; simp [hlen]
      have a2 : (rs ++ [r])[k] = r := by rw [List.getElem_append_right (by omega)]; simp [hrlen]
      rw [a1, a2]
      refine h1.same (fun q hq hq2 => ?_) hz2
      have hne : q ≠ gr := by rcases hq.2 with h | h <;> omega
      have hor : q < B0 ∨ w.heap.size ≤ q := hq.2.elim .inl fun h => .inr (by omega)
      exact ⟨⟨⟨hq.1, hor⟩, hne⟩, e12 q hq2 hne⟩
    · have k1' : k < us.length := by simp at k1; omega
      have k2' : k < rs.length := by omega
      have a1 : (us ++ [u])[k] = us[k] := List.getElem_append_left k1'
      have a2 : (rs ++ [r])[k] = rs[k] := List.getElem_append_left k2'
      rw [a1, a2]
      exact ((h.trees k k1' k2').but h3 (fun q hq => hq.1.1)).same (fun q hq hq2 => ⟨hq, e12 q hq2 hq.2⟩) hz2
  · rw [hpt]
    exact H.keep _ w1 w2 h2 ⟨hgrow.os, hgrow.tape, hgrow.output, hz2, fun k hk => e12 k (by omega) (by omega)⟩
  · exact ⟨hgrow.os.trans (h3.os.trans h.but.os), hgrow.tape.trans (h3.tape.trans h.but.tape), hgrow.output.trans (h3.output.trans h.but.output), by omega, fun k hk hm => (e12 k (by omega) (by omega)).trans ((h3.block k (by omega) hm).trans (h.but.block k hk hm))⟩
set_option maxHeartbeats 1000000 in
theorem iMapped (H : PutBy Pn V J B0 M g lb) {A : Nat → Prop} {w0 : World} {v0 : Value} {us : List Value} {ls : List (List TyI)} (hl : us.length = ls.length) (hm : us.length ≤ 1048576) (hv : RowV A w0 v0 us) (hAM : ∀ k, A k → k ∉ M)
    (hsub : ∀ i (h1 : i < us.length) (h2 : i < ls.length), TreeRd A w0 us[i] ls[i])
    (bb : Nat) (s : σ) (w : World) (hj : J s w) (hB : B0 ≤ w.heap.size) (hA : ∀ k, A k → k < w0.heap.size → k < w.heap.size ∧ w.heap[k]? = w0.heap[k]?) (hbb : bb < w.heap.size) (hbm : bb ∉ M) (hc : w.cell? ⟨bb, 0, none⟩ = some (.func (.func g) #[] lb))
    (ih : ∀ i (h1 : i < us.length) (h2 : i < ls.length) (s : σ) (W : World), J s W → B0 ≤ W.heap.size → (∀ k, A k → k < w0.heap.size → k < W.heap.size ∧ W.heap[k]? = w0.heap[k]?) → CallPut us[i] (.func (.func g) #[] lb) W (PutPost V J B0 M s ls[i] W)) :
    Calls Try.prog 99 #[v0, .func (.func 98) #[] #[.pointer (some ⟨bb, 0, none⟩)]] w fun e w' =>
      ∃ (v : Value) (us' : List Value) (rs : List (List TyI)), e = .returned v ∧ us'.length = rs.length ∧ rs.length = ls.length ∧ rs.flatten = (putT V s ls.flatten).1 ∧ RowV (OutA M B0 w.heap.size) w' v us' ∧ (∀ k (h1 : k < us'.length) (h2 : k < rs.length), TreeRd (OutA M B0 w.heap.size) w' us'[k] rs[k]) ∧ J (putT V s ls.flatten).2 w' ∧ ButF M w w' := by
  obtain ⟨a0, cap0, rfl, hcells⟩ := hv.form
  obtain ⟨i0, hi, hz0, hz1, hz2⟩ := info_parts info_tree
  obtain ⟨W0, hmk, hown0, hgr0⟩ := run_make_own (P := Try.prog) w w.heap.size 95 48 i0 .nilIface 1 Try.underlying95 hi hz0 hz1 .i64 .i64 us.length (by rw [hz2]; omega) (by unfold maxLen; omega) (Nat.le_refl _)
  have hMw : w.heap.size ∉ M := fun h => by have := H.low _ h; omega
  have hb0 : ButF M w W0 := ⟨hgr0.os, hgr0.tape, hgr0.output, hgr0.size, fun k hk _ => hgr0.block k hk (by simp)⟩
  have hI0 : PInv V J B0 M s ls w w.heap.size us.length 0 [] [] W0 := ⟨rfl, rfl, rfl, hown0, fun k h => absurd h (by simp), H.keep s w W0 hj ⟨hgr0.os, hgr0.tape, hgr0.output, hgr0.size, fun k hk => hgr0.block k (by omega) (by simp)⟩, hb0⟩
  have HL := Lib.hid hl
  clear hl hown0 hgr0 hb0 hj
  go_enter Try.func99, Try.ntmps99
  go_wp2
  clear hmk
  go_loopw [5, 13] (fun out i wr => ∃ (j : Nat) (us' : List Value) (rs : List (List TyI)), i = .int .i64 j ∧ j ≤ us.length ∧ out = .slice (some ⟨w.heap.size, 0, none⟩) j us.length ∧ PInv V J B0 M s ls w w.heap.size us.length j us' rs wr) (fun _ i _ => us.length - (intOf i).toNat)
  case atStart => exact ⟨0, [], [], rfl, Nat.zero_le _, rfl, hI0⟩
  case round =>
    obtain ⟨j, us', rs, rfl, hj, rfl, hI⟩ := hrel
    clear hI0
    by_cases hlt : j < us.length
    · have hl2 : j < ls.length := by have := HL.out; omega
      obtain ⟨b, o, rfl, hAb, hbw, hcs⟩ := hcells (by omega)
      have hA' : ∀ k, A k → k < w0.heap.size → k < wr.heap.size ∧ wr.heap[k]? = w0.heap[k]? := fun k h1 h2 => ⟨Nat.lt_of_lt_of_le (hA k h1 h2).1 hI.but.size, (hI.but.block k (hA k h1 h2).1 (hAM k h1)).trans (hA k h1 h2).2⟩
      have hcell : wr.cell? ⟨b, o + j, none⟩ = some us[j] := (World.cell?_of_block (a := ⟨b, o + j, none⟩) (hA' b hAb hbw).2).trans (hcs j hlt)
      have hcb : wr.cell? ⟨bb, 0, none⟩ = some (.func (.func g) #[] lb) := (World.cell?_of_block (a := ⟨bb, 0, none⟩) (hI.but.block bb hbb hbm)).trans hc
      have hsz : w.heap.size < wr.heap.size := (hI.own.lt w.heap.size rfl).2
      have hcall := iPutArg us[j] (tree_cases (hsub j hlt hl2)) (.func (.func g) #[] lb) bb (putT V s (ls.take j).flatten).2 ls[j] wr hcb (ih j hlt hl2 _ wr hI.st (by omega) hA')
      have hpt : putT V s (ls.take (j + 1)).flatten = ((putT V s (ls.take j).flatten).1 ++ (putT V (putT V s (ls.take j).flatten).2 ls[j]).1, (putT V (putT V s (ls.take j).flatten).2 ls[j]).2) := by
        rw [← putT_app, List.take_succ_eq_append_getElem hl2, List.flatten_append]; simp
      have HPT := Lib.hid hpt
      have HI := Lib.hid hI
      have eg := e_iPutArg
      clear hpt hI ih hsub hcells hcs hA' hcb
      go_wp2_with (first
        | (go_at_fn 98; refine hcall.mono ?_; rintro e w1 ⟨u, rfl, h1, h2, h3⟩; have ho1 := own_but HI.out.own h3 (fun k hk => by cases hk; exact hMw); obtain ⟨Tu, xu, rfl⟩ := h1.shape)
        | (at_builtin; refine wpList_append_fits _ rfl (.tmp 17) (.tmp 21) 95 rfl w.heap.size 48 i0 1 Try.underlying95 hi hz1 w.heap.size j us.length us' rfl (ho1.alloc _) ⟨w1.heap.size, 0, none⟩ 1 1 [.iface Tu xu] rfl rfl (new_cells _ _ _ _ rfl) (by intro y hy; simp at hy; subst hy; rfl) (by omega) ?_; intro w2 hown2 hgrow2))
      go_roundw
      case rel => exact ⟨j + 1, us' ++ [.iface Tu xu], rs ++ [_], by go_num, by omega, rfl, HI.out.step H rfl hB hl2 HPT.out h1 h2 h3 hgrow2 hown2⟩
      case measure => simp [intOf]; omega
    · obtain rfl : j = us.length := by omega
      have htk : ls.take us.length = ls := List.take_of_length_le (by have := HL.out; omega)
      have e1 := hI.res
      have e2 := hI.st
      rw [htk] at e1 e2
      have hsz : w.heap.size < wr.heap.size := (hI.own.lt w.heap.size rfl).2
      have HI := Lib.hid hI
      have E1 := Lib.hid e1
      have E2 := Lib.hid e2
      clear hI e1 e2 htk
      go_wp2
      go_ret
      refine ⟨_, us', rs, rfl, HI.out.len.trans HI.out.rlen.symm, HI.out.rlen.trans HL.out, E1.out, ?_, fun k k1 k2 => (HI.out.trees k k1 k2).same (fun q hq _ => ⟨hq.1, rfl⟩) (Nat.le_refl _), E2.out, HI.out.but⟩
      by_cases h0 : 0 < us.length
      · refine .inr ⟨w.heap.size, 0, us.length, by rw [HI.out.len]; rfl, by rw [HI.out.len]; unfold maxLen; omega, ⟨hMw, .inr (Nat.le_refl _)⟩, hsz, by rw [HI.out.len]; exact h0, fun i hi => ?_⟩
        have := HI.out.own.cellAt i (by rw [Nat.mul_one]; have := HI.out.len; omega)
        rw [Nat.zero_add, this, List.getElem?_eq_getElem hi]
      · exact .inl ⟨List.eq_nil_of_length_eq_zero (by have := HI.out.len; omega), _, us.length, congrArg (fun n => Value.slice (some ⟨w.heap.size, 0, none⟩) n us.length) (show us.length = 0 by omega)⟩
theorem OutA.up {M : List Nat} {B0 n m q : Nat} (h : OutA M B0 n q) (hm : m ≤ n) : OutA M B0 m q := ⟨h.1, h.2.elim .inl fun h => .inr (by omega)⟩
theorem putT_con (s : σ) (x : TyI) (l : List TyI) (h : x.name.toList ≠ []) : putT V s (x :: l) = (x :: (putT V s l).1, (putT V s l).2) := by rw [putT, if_neg h]
set_option maxHeartbeats 1000000 in
theorem iPut (H : PutBy Pn V J B0 M g lb) {A : Nat → Prop} {w0 : World} {u : Value} {t : List TyI} (h : TreeRd A w0 u t) (hAM : ∀ k, A k → k ∉ M) : t.length ≤ 1048576 → (∀ x ∈ t, x.name.toList = [] → Pn x.var) → ∀ (s : σ) (w : World), J s w → B0 ≤ w.heap.size →
    (∀ k, A k → k < w0.heap.size → k < w.heap.size ∧ w.heap[k]? = w0.heap[k]?) → CallPut u (.func (.func g) #[] lb) w (PutPost V J B0 M s t w) := by
  induction h with
  | var n hn => intro _ hpn s w hj hB _; exact iPut_var H n (hpn ⟨n, noName, 0⟩ (by simp) (by rw [toList_data]; rfl)) hn s w hj hB
  | con c v0 us ls hs hm hlen hv hsub ih =>
    intro hl hpn s w hj hB hA
    simp only [List.length_cons] at hl
    have hform : ∀ t ∈ ls, IsTr t := fun t ht => by
      obtain ⟨i, hi, rfl⟩ := List.getElem_of_mem ht
      exact (hsub i (by omega) hi).form
    have hll := flat_len ls hform
    have hsub2 : ∀ i (h : i < ls.length), ls[i].length ≤ 1048576 := fun i h => by have := flat_mem ls ls[i] (List.getElem_mem h); omega
    have hMap := fun W (hB' : Below w.heap.size w W) (hz : w.heap.size + 1 < W.heap.size) (hc : W.cell? ⟨w.heap.size + 1, 0, none⟩ = some (.func (.func g) #[] lb)) =>
      iMapped H hlen (by omega) hv hAM hsub (w.heap.size + 1) s W (H.keep s w W hj (hB'.mono hB)) (by omega) (fun k h1 h2 => ⟨Nat.lt_of_lt_of_le (hA k h1 h2).1 hB'.size, (hB'.block k (hA k h1 h2).1).trans (hA k h1 h2).2⟩) hz (fun h => by have := H.low _ h; omega) hc
        (fun i h1 h2 => ih i h1 h2 (hsub2 i h2) fun x hx => hpn x (List.mem_cons_of_mem _ (List.mem_flatten.2 ⟨_, List.getElem_mem h2, hx⟩)))
    have HP := Lib.hid (putT_con (V := V) s ⟨0, c, ls.length⟩ ls.flatten hs)
    show Calls Try.prog 97 #[.agg #[.string c, v0], .func (.func g) #[] lb] w (PutPost V J B0 M s (⟨0, c, ls.length⟩ :: ls.flatten) w)
    obtain ⟨a0, cap0, rfl, -⟩ := hv.form
    have hMw : w.heap.size ∉ M := fun h => by have := H.low _ h; omega
    clear ih hsub hA hsub2 hj hv hform hll hlen hpn
    go_enter Try.func97, Try.ntmps97
    go_wp2_with fail
    have b0 : Below w.heap.size w ((w.alloc (.cells #[.string c, .slice a0 us.length cap0] 97)).alloc (.cells #[.func (.func g) #[] lb] 62)) := Joins.below_alloc2 w _ _
    have c0 : ((w.alloc (.cells #[.string c, .slice a0 us.length cap0] 97)).alloc (.cells #[.func (.func g) #[] lb] 62)).cell? ⟨w.heap.size, 0, none⟩ = some (.string c) := by simp
    have c1 : ((w.alloc (.cells #[.string c, .slice a0 us.length cap0] 97)).alloc (.cells #[.func (.func g) #[] lb] 62)).cell? ⟨w.heap.size, 1, none⟩ = some (.slice a0 us.length cap0) := by simp
    have c2 : ((w.alloc (.cells #[.string c, .slice a0 us.length cap0] 97)).alloc (.cells #[.func (.func g) #[] lb] 62)).cell? ⟨w.heap.size + 1, 0, none⟩ = some (.func (.func g) #[] lb) := by simp
    have zb : w.heap.size + 1 < ((w.alloc (.cells #[.string c, .slice a0 us.length cap0] 97)).alloc (.cells #[.func (.func g) #[] lb] 62)).heap.size := by simp
    generalize ((w.alloc (.cells #[.string c, .slice a0 us.length cap0] 97)).alloc (.cells #[.func (.func g) #[] lb] 62)) = wb at *
    have zb0 : w.heap.size < wb.heap.size := by omega
    have hM2 := fun W (hK : Below wb.heap.size wb W) => Lib.hid (hMap W (below_tr b0 hK) (Nat.lt_of_lt_of_le zb hK.size) ((hK.cell (p := ⟨w.heap.size + 1, 0, none⟩) zb).trans c2))
    clear hMap c2
    go_region_held3 (fun w' => w'.cell? ⟨w.heap.size, 0, none⟩ = some (.string c) ∧ w'.cell? ⟨w.heap.size, 1, none⟩ = some (.slice a0 us.length cap0) ∧ ButF M wb w')
      (first | exact ⟨c0, c1, ButF.refl _ _⟩ | exact ⟨c0, c1, ButF.of_below (Below.refl _ _).drew⟩ | exact ⟨(World.cell?_of_block (a := ⟨w.heap.size, 0, none⟩) (g7.block w.heap.size zb0 hMw)).trans c0, (World.cell?_of_block (a := ⟨w.heap.size, 1, none⟩) (g7.block w.heap.size zb0 hMw)).trans c1, (ButF.of_below (Below.refl _ _).drew).trans g7⟩)
      ((go_at_call 99; refine (hM2 _ (by first | exact (Below.refl _ _).drew | exact Below.refl _ _)).out.mono ?_; rintro e w1 ⟨v1, us', rs, rfl, g1, g2, g3, g4, g5, g6, g7⟩; have G1 := Lib.hid g1; have G2 := Lib.hid g2; have G3 := Lib.hid g3; clear g1 g2 g3; obtain ⟨a1, cap1, e1, _⟩ := g4.form; subst e1))
    go_wp2
    go_ret
    have zz : w.heap.size ≤ wb.drew.heap.size := Nat.le_of_lt zb0
    refine ⟨_, rfl, ?_, ?_, (ButF.of_below b0).trans ((ButF.of_below (Below.refl _ _).drew).trans g7)⟩
    · rw [HP.out, ← G3.out, ← G2.out]
      exact .con c _ us' rs hs hm G1.out (g4.same (fun q hq _ => ⟨hq.up zz, rfl⟩) (Nat.le_refl _)) fun i h1 h2 => (g5 i h1 h2).same (fun q hq _ => ⟨hq.up zz, rfl⟩) (Nat.le_refl _)
    · rw [HP.out]; exact g6
end
end Go.Proofs.Ytciohamonmmciaa
