/- Texts of this proof, merged: Own, Digits, PpS, QuoteMath, QpM, OkN. -/
import Derived.WalkKit
import Derived.Lib.Hide
import Derived.Test.YtbehcmogndpkhaaGreatDoorRows
import Derived.Test.YtbehcmogndpkhaaGreatDoorM6
import Derived.Test.YtbehcmogndpkhaaGreatDoorM8
import Derived.ProofKit
import Derived.OpenShut
import Derived.Lib.ItoaLen
import Derived.Stop.LaidErr
import Derived.LaidMore
import Derived.Test.YtbehcmogndpkhaaGreatDoorM7
import Derived.Deep.DeepCutAuto
namespace Go.Proofs.YtbehcmogndpkhaaGreatDoor
set_option linter.unusedVariables false
open Go.RowKit

theorem own_app {B B0 e n : Nat} {w wr w1 : World} {v : Value} {xs : List Value} {C : Array Value} {T : TypeId} (hown : wr.ownsRow B e 1 v n xs) (hbel : Below B0 w wr) (h0 : B0 ≤ B) (hBs : B ≤ wr.heap.size)
    (hgrow : (wr.alloc (.cells C T)).grownBy w1 v.ownBlock) : Below B0 w w1 ∧ B ≤ w1.heap.size := by
  have hb2 : Below B0 w (wr.alloc (.cells C T)) := hbel.alloc (by omega) _
  refine ⟨hb2.grown hgrow (by simp; omega) (fun k hk => by have := (hown.lt k hk).1; omega), ?_⟩
  have := hgrow.size; simp at this; omega
theorem own_app0 {B B0 e n : Nat} {w wr w1 : World} {v : Value} {xs : List Value} (hown : wr.ownsRow B e 1 v n xs) (hbel : Below B0 w wr) (h0 : B0 ≤ B) (hBs : B ≤ wr.heap.size)
    (hgrow : wr.grownBy w1 v.ownBlock) : Below B0 w w1 ∧ B ≤ w1.heap.size := by
  refine ⟨hbel.grown hgrow (by omega) (fun k hk => by have := (hown.lt k hk).1; omega), ?_⟩
  have := hgrow.size; omega
theorem new_cells (w : World) (C : Array Value) (T : TypeId) (news : List Value) (h : C.toList = news) : ∀ j u, news[j]? = some u → (w.alloc (.cells C T)).cell? ((⟨w.heap.size, 0, none⟩ : Addr).add j) = some u := by
  intro j u hj
  subst h
  have hp : (⟨w.heap.size, 0, none⟩ : Addr).add j = ⟨w.heap.size, j, none⟩ := by unfold Addr.add; split <;> simp_all
  rw [hp, World.cell?_alloc_new]
  simpa using hj
/-- Cells of bytes. -/
def bc (l : List UInt8) : List Value := l.map fun b => Value.int .u8 (b.toNat : Int)
theorem bc_length (l : List UInt8) : (bc l).length = l.length := by simp [bc]
theorem bc_app (l m : List UInt8) : bc (l ++ m) = bc l ++ bc m := by simp [bc]
theorem bc_one (l : List UInt8) : ∀ u ∈ bc l, u.oneCell' = true := by
  intro u hu; simp only [bc, List.mem_map] at hu; obtain ⟨b, _, rfl⟩ := hu; rfl
/-- The row behind an append of bytes. -/
theorem own_bytes {B e m : Nat} {w1 : World} {v' : Value} {l l' : List UInt8} {n : Nat} {xs news : List Value} (hn : n = l.length) (hxs : xs = bc l) (hnews : news = bc l') (hm : m = l'.length) (hown' : w1.ownsRow B e 1 v' (n + m) (xs ++ news)) :
    w1.ownsRow B e 1 v' (l ++ l').length (bc (l ++ l')) := by
  subst hn hxs hnews hm; rw [bc_app, List.length_append]; exact hown'
/-- What is owned and holds something is a slice at the head of a block, whose cells are there. -/
theorem own_shape {B e n : Nat} {w : World} {v : Value} {xs : List Value} (h : w.ownsRow B e 1 v n xs) (hn : 0 < n) :
    ∃ g cap, v = .slice (some ⟨g, 0, none⟩) n cap ∧ B ≤ g ∧ g < w.heap.size ∧ n ≤ cap ∧ (∀ j, j < n → w.cell? ⟨g, j, none⟩ = xs[j]?) ∧ (∀ j, w.frozen? ⟨g, j, none⟩ = false) := by
  have h' := h
  obtain ⟨_, ⟨_, h0⟩ | ⟨g, cap, cur, rfl, h1, h2, h3, h4, h5, h6⟩⟩ := h
  · omega
  · exact ⟨g, cap, rfl, h1, by have := (h'.lt g rfl).2; exact this, h3, fun j hj => h'.cellAt j (by omega), fun j => h'.frozenAt j⟩
theorem add_zero_off (g j : Nat) : (⟨g, 0, none⟩ : Addr).add j = ⟨g, j, none⟩ := by unfold Addr.add; split <;> simp_all
theorem bc_get (l : List UInt8) (j : Nat) (hj : j < l.length) : (bc l)[j]? = some (.int .u8 (l[j].toNat : Int)) := by simp [bc, hj]
/-- What is owned stays owned where nothing below the heap's size has turned. -/
theorem own_below {B e n : Nat} {wr w1 : World} {v : Value} {xs : List Value} (h : wr.ownsRow B e 1 v n xs) (hb : Below wr.heap.size wr w1) : w1.ownsRow B e 1 v n xs := by
  obtain ⟨h0, h1 | ⟨g, cap, cur, rfl, h1, h2, h3, h4, h5, h6⟩⟩ := h
  · exact ⟨h0, .inl h1⟩
  · refine ⟨h0, .inr ⟨g, cap, cur, rfl, h1, ?_, h3, h4, h5, h6⟩⟩
    rw [hb.block g (by have := (Array.getElem?_eq_some_iff.1 h2).1; exact this)]; exact h2
/-- Cells of strings. -/
def sc (l : List ByteArray) : List Value := l.map Value.string
theorem sc_length (l : List ByteArray) : (sc l).length = l.length := by simp [sc]
theorem sc_one (l : List ByteArray) : ∀ u ∈ sc l, u.oneCell' = true := by
  intro u hu; simp only [sc, List.mem_map] at hu; obtain ⟨b, _, rfl⟩ := hu; rfl
theorem own_strs {B e m : Nat} {w1 : World} {v' : Value} {l l' : List ByteArray} {n : Nat} {xs news : List Value} (hn : n = l.length) (hxs : xs = sc l) (hnews : news = sc l') (hm : m = l'.length) (hown' : w1.ownsRow B e 1 v' (n + m) (xs ++ news)) :
    w1.ownsRow B e 1 v' (l ++ l').length (sc (l ++ l')) := by
  subst hn hxs hnews hm
  have : sc (l ++ l') = sc l ++ sc l' := by simp [sc]
  rw [this, List.length_append]; exact hown'
end Go.Proofs.YtbehcmogndpkhaaGreatDoor
namespace Go.Proofs.YtbehcmogndpkhaaGreatDoor
set_option linter.unusedVariables false
open Go.ChangeShapes Go.WideShapes Go.ChangeAt Go.RowKit

theorem isNumber (n : Int) (w : World) :
    Calls Tryz.prog 146 #[.int .i64 n] w fun e w' => e = .returned (.bool (W n == n)) ∧ w = w' := by
  go_enter Tryz.func146, Tryz.ntmps146
  go_wp2_with (go_at_call 198; refine (iWrap _ _).mono ?_; rintro e w' ⟨rfl, rfl⟩)
  go_ret
  exact ⟨rfl, rfl⟩

theorem tab_of {rest : List (String × DataW Unit)} {a b : DataW Unit} {w : World} (h : laidMet Tryz.prog (("math/bits.deBruijn32tab", a) :: ("math/bits.deBruijn64tab", b) :: ("internal/strconv.uint64pow10", Lib.tabData .u64 Lib.pow10Tab) :: rest) w) :
    Lib.TabIs Tryz.prog w "internal/strconv.uint64pow10" .u64 Lib.pow10Tab :=
  Lib.tabIs_of_head (g := 1) (t := 314) (e := 302) (n := 20) (by kernel_rfl) (by kernel_rfl) Tryz.underlying314 Tryz.underlying302 (by kernel_rfl) (by kernel_rfl) h.tail.tail
theorem var_below {P : Program} {n : String} {v : Array Value} {w w' : World} (h : w.var? P n = some v) (hb : Below w.heap.size w w') : w'.var? P n = some v := by
  unfold World.var? at h ⊢
  cases hg : P.globalNamed n with
  | none => rw [hg] at h; exact h
  | some g =>
    rw [hg] at h
    simp only [Option.bind_some] at h ⊢
    by_cases hlt : g < w.heap.size
    · rw [hb.block g hlt]; exact h
    · have : w.heap[g]? = none := by simp; omega
      rw [this] at h; cases h
theorem tab_below {w w' : World} {n : String} {k : IntKind} {zs : List Int} (h : Lib.TabIs Tryz.prog w n k zs) (hb : Below w.heap.size w w') : Lib.TabIs Tryz.prog w' n k zs := var_below h hb
def numL (n : Int) : List UInt8 := if W n = n then Lib.itoa n else []
theorem grow_below (w : World) (k : Nat) (os : Array Obj) : Below w.heap.size w (Go.Sort.grow (w.drewN k) os) :=
  ⟨rfl, rfl, rfl, by simp [Go.Sort.grow, World.drewN], fun i hi => by
    show (w.heap ++ os)[i]? = _
    rw [Array.getElem?_append_left hi]⟩
theorem iNumText (n : Int) (w : World) (h : -9223372036854775808 ≤ n ∧ n ≤ 9223372036854775807) (htab : Lib.TabIs Tryz.prog w "internal/strconv.uint64pow10" .u64 Lib.pow10Tab) :
    Calls Tryz.prog 72 #[.int .i64 n] w fun e w' => e = .returned (.string ⟨(numL n).toArray⟩) ∧ Below w.heap.size w w' := by
  have HT := Lib.hid htab
  clear htab
  by_cases hn : W n = n
  · have HN := Lib.hid hn
    have t1 : (W n == n) = true := by simpa using hn
    clear hn
    go_enter Tryz.func72, Tryz.ntmps72
    go_wp2_with (first | (go_at_call 146; refine (isNumber _ _).mono ?_; rintro e w' ⟨rfl, rfl⟩) | (go_at_call 147; refine (Tryz.strconv_Itoa n h.1 h.2 _ HT.out).mono ?_; rintro e w' ⟨rfl, hk⟩))
    go_ret
    obtain ⟨k, os, rfl⟩ := hk
    exact ⟨by rw [numL, if_pos HN.out]; rfl, grow_below _ _ _⟩
  · have HN := Lib.hid hn
    have t1 : (W n == n) = false := by simpa using hn
    clear hn
    go_enter Tryz.func72, Tryz.ntmps72
    go_wp2_with (go_at_call 146; refine (isNumber _ _).mono ?_; rintro e w' ⟨rfl, rfl⟩)
    go_ret
    exact ⟨by rw [numL, if_neg HN.out]; rfl, Below.refl _ _⟩

theorem ret_str {a b : ByteArray} (h : a = b) : Ending.returned (.string a) = .returned (.string b) := by rw [h]
theorem str_app (a b : List UInt8) : (⟨a.toArray⟩ : ByteArray) ++ ⟨b.toArray⟩ = ⟨(a ++ b).toArray⟩ := by
  have : ∀ x y : ByteArray, (x ++ y).data = x.data ++ y.data := fun x y => ByteArray.data_append
  apply ByteArray.ext; rw [this]; simp
theorem digit_of (c : Int) (W : World) (n : Nat) (hc : W.cell? ⟨n, 0, none⟩ = some (.int .u8 c)) (d : Nat) (h0 : 0 ≤ c) (h1 : c ≤ 255) (hd : c = (d : Int)) :
    (convert 177 9 (.slice (some ⟨n, 0, none⟩) 1 1)).run Tryz.prog W = .ok (.string ⟨#[UInt8.ofNat d]⟩) W := by
  subst hd
  refine run_convert_bytes_back W 177 9 5 ⟨n, 0, none⟩ 1 [UInt8.ofNat d] Tryz.underlying177 Tryz.underlying5 Tryz.underlying9 fun j hj => ?_
  obtain rfl : j = 0 := by simpa using hj
  rw [add_zero_off, hc]
  simp only [List.getElem_cons_zero, UInt8.toNat_ofNat']
  congr 2
  omega

theorem digits_len (u : Nat) (h : u < 18446744073709551616) : (Lib.decDigits u).length ≤ 20 := by
  rw [Lib.decDigits_eq]; simpa using Lib.nDigits_le20 u h
theorem l01Digits : ∀ (N m : Nat) (w : World), m < N → m ≤ 9223372036854775808 →
    Calls Tryz.prog 123 #[.int .i64 (-(m : Int))] w fun e w' => e = .returned (.string ⟨(Lib.decDigits m).toArray⟩) ∧ Below w.heap.size w w'
  | 0, m, w, h, _ => absurd h (by omega)
  | N + 1, m, w, h, hm => by
    by_cases h10 : m < 10
    · have hcv := fun (W : World) (n : Nat) (hc : W.cell? ⟨n, 0, none⟩ = some (.int .u8 (48 + (m : Int)))) => digit_of _ W n hc (48 + m) (by omega) (by omega) (by omega)
      have hd : Lib.decDigits m = [UInt8.ofNat (48 + m)] := by rw [Lib.decDigits, dif_pos h10]
      have HD := Lib.hid hd
      clear hd
      go_enter Tryz.func123, Tryz.ntmps123
      go_wp2
      go_ret
      exact ⟨by rw [HD.out]; exact ret_str (by rw [UInt8.ofNat_add]; rfl), (Below.refl _ _).alloc (Nat.le_refl _) _⟩
    · have ih : ∀ W : World, Calls Tryz.prog 123 #[.int .i64 (-((m : Int) / 10))] W fun e w' => e = .returned (.string ⟨(Lib.decDigits (m / 10)).toArray⟩) ∧ Below W.heap.size W w' := fun W => by
        have h := l01Digits N (m / 10) W (by omega) (by omega)
        rw [show ((m / 10 : Nat) : Int) = (m : Int) / 10 from by omega] at h
        exact h
      have hcv := fun (W : World) (n : Nat) (hc : W.cell? ⟨n, 0, none⟩ = some (.int .u8 (48 + (m : Int) % 10))) => digit_of _ W n hc (48 + m % 10) (by omega) (by omega) (by omega)
      have hq : IntKind.i64.wrap (-((m : Int) / 10)) = -((m : Int) / 10) := IntWalk.i64_in _ (by omega)
      have hr : (m : Int).tmod 10 = (m : Int) % 10 := Int.tmod_eq_emod_of_nonneg (by omega)
      have hw : IntKind.i64.wrap (48 + (m : Int) % 10) = 48 + (m : Int) % 10 := IntWalk.i64_in _ (by omega)
      have hw2 : IntKind.u8.wrap (48 + (m : Int) % 10) = 48 + (m : Int) % 10 := IntWalk.u8_in _ (by omega)
      have hd : Lib.decDigits m = Lib.decDigits (m / 10) ++ [UInt8.ofNat (48 + m % 10)] := by rw [Lib.decDigits, dif_neg h10]
      have hlen : (Lib.decDigits (m / 10)).length + 1 ≤ 9223372036854775807 := by have := digits_len (m / 10) (by omega); omega
      have HD := Lib.hid hd
      clear hd
      go_enter Tryz.func123, Tryz.ntmps123
      go_wp2_with fail
      go_region_with ((go_at_call 123; refine (ih _).mono ?_; rintro e w1 ⟨rfl, hb⟩; have hk := fun h => hb.cell (p := ⟨w.heap.size, 0, none⟩) h))
      all_goals
        go_wp2
        go_ret
        refine ⟨by rw [HD.out]; exact ret_str (by rw [UInt8.ofNat_add]; exact str_app _ [_]), ?_⟩
        first
        | exact ((Below.refl w.heap.size w).drew.trans hb).alloc (by have := hb.size; simpa using this) _
        | exact (((Below.refl w.heap.size w).drew.trans hb).alloc (by have := hb.size; simpa using this) _).drew
        | exact (((Below.refl w.heap.size w).alloc (Nat.le_refl _) _).drew).trans (hb.mono (by simp))
        | exact ((((Below.refl w.heap.size w).alloc (Nat.le_refl _) _).drew).trans (hb.mono (by simp))).drew

theorem sNumText (n : Int) (w : World) (h : -9223372036854775808 ≤ n ∧ n ≤ 9223372036854775807) :
    Calls Tryz.prog 55 #[.int .i64 n] w fun e w' => e = .returned (.string ⟨(numL n).toArray⟩) ∧ Below w.heap.size w w' := by
  by_cases hn : W n = n
  · have HN := Lib.hid hn
    have t1 : (W n != n) = false := by simpa using hn
    have hb := W_range n
    rw [hn] at hb
    clear hn
    by_cases h0 : n < 0
    · have HI : Hid (Lib.itoa n = 45 :: Lib.decDigits n.natAbs) := by show _ = _; rw [Lib.itoa, if_pos h0]
      have hc : ∀ W : World, Calls Tryz.prog 123 #[.int .i64 n] W fun e w' => e = .returned (.string ⟨(Lib.decDigits n.natAbs).toArray⟩) ∧ Below W.heap.size W w' := fun W => by
        have h := l01Digits (n.natAbs + 1) n.natAbs W (by omega) (by omega)
        rw [show -((n.natAbs : Nat) : Int) = n from by omega] at h
        exact h
      have hlen := digits_len n.natAbs (by omega)
      go_enter Tryz.func55, Tryz.ntmps55
      go_wp2_with (first | (go_at_call 122; refine (sWrap _ _).mono ?_; rintro e w' ⟨rfl, rfl⟩) | (go_at_call 123; refine (hc _).mono ?_; rintro e w' ⟨rfl, hb⟩))
      go_ret
      exact ⟨by rw [numL, if_pos HN.out, HI.out]; exact ret_str (str_app [45] _), hb⟩
    · have HI : Hid (Lib.itoa n = Lib.decDigits n.toNat) := by show _ = _; rw [Lib.itoa, if_neg h0]
      have hc : ∀ W : World, Calls Tryz.prog 123 #[.int .i64 (-n)] W fun e w' => e = .returned (.string ⟨(Lib.decDigits n.toNat).toArray⟩) ∧ Below W.heap.size W w' := fun W => by
        have h := l01Digits (n.toNat + 1) n.toNat W (by omega) (by omega)
        rw [show -((n.toNat : Nat) : Int) = -n from by omega] at h
        exact h
      go_enter Tryz.func55, Tryz.ntmps55
      go_wp2_with (first | (go_at_call 122; refine (sWrap _ _).mono ?_; rintro e w' ⟨rfl, rfl⟩) | (go_at_call 123; refine (hc _).mono ?_; rintro e w' ⟨rfl, hb⟩))
      go_ret
      exact ⟨by rw [numL, if_pos HN.out, HI.out]; rfl, hb⟩
  · have HN := Lib.hid hn
    have t1 : (W n != n) = true := by simpa using hn
    clear hn
    go_enter Tryz.func55, Tryz.ntmps55
    go_wp2_with (go_at_call 122; refine (sWrap _ _).mono ?_; rintro e w' ⟨rfl, rfl⟩)
    go_ret
    exact ⟨by rw [numL, if_neg HN.out]; rfl, Below.refl _ _⟩
end Go.Proofs.YtbehcmogndpkhaaGreatDoor
namespace Go.Proofs.YtbehcmogndpkhaaGreatDoor
set_option linter.unusedVariables false
set_option maxRecDepth 100000
open Go.ChangeShapes Go.WideShapes Go.ChangeAt Go.RowKit

theorem numL_len24 (v : Int) (h0 : -4611686018427387904 ≤ v) (h1 : v ≤ 4611686018427387903) : (numL v).length ≤ 24 := by
  unfold numL Lib.itoa
  split
  · split
    · have := digits_len v.natAbs (by omega)
      rw [List.length_cons]
      exact Nat.le_trans (Nat.succ_le_succ this) (by omega)
    · exact Nat.le_trans (digits_len _ (by omega)) (by omega)
  · simp
theorem pp_alloc_at (w : World) (O : Obj) {n : Nat} (hn : n = w.heap.size) : (w.alloc O).heap[n]? = some O := by
  subst hn
  show (w.heap.push O)[w.heap.size]? = some O
  exact Array.getElem?_push_size
theorem pp_alloc_was (w : World) (O : Obj) (k : Nat) (h : k < w.heap.size) : (w.alloc O).heap[k]? = w.heap[k]? := ((Below.refl w.heap.size w).alloc (Nat.le_refl _) O).block k h
theorem pp_blk_cell {w : World} {b : Nat} {cs : Array Value} {T : TypeId} (h : w.heap[b]? = some (.cells cs T (0, 0))) (i : Nat) : w.cell? ⟨b, i, none⟩ = cs[i]? ∧ w.frozen? ⟨b, i, none⟩ = false := by
  constructor
  · simp [World.cell?, h]
  · simp [World.frozen?, h]
theorem gen_world {P : World → Prop} (W0 : World) (h : ∀ W, W = W0 → P W) : P W0 := h W0 rfl
theorem two_kids {l : List Int} (h : l.length = 2) : ∃ x y, l = [x, y] := by
  match l, h with
  | [x, y], _ => exact ⟨x, y, rfl⟩
set_option maxHeartbeats 4000000 in
theorem sPatText (q : List PN) (hv : PatV q) (hql : q.length ≤ 600) : ∀ (f : Nat) (v : Value) (a : Nat) (w : World) (hR : RowRd 4 PNEl w v q) (ha : a < q.length) (hf : q.length < a + f),
    Calls Tryz.prog 57 #[.agg #[v], .int .i64 a] w fun e w' => e = .returned (.string ⟨(patU numL q f false a).toArray⟩) ∧ Below w.heap.size w w' := by
  intro f
  induction f using Nat.strongRecOn with
  | _ f ih =>
    intro v a w hR ha hf
    obtain ⟨f', rfl⟩ : ∃ f', f = f' + 1 := ⟨f - 1, by omega⟩
    have hR0 := hR
    obtain ⟨p, cap, rfl, hm, hqf⟩ := hR.form
    unfold maxLen at hm
    obtain ⟨b, o, rfl, hbw, hc⟩ := hqf (by omega)
    have ex := hc a ha
    have hn := hv.nd a ha
    have hkid := fun k (hk : k ∈ q[a].kids) => hv.kid ha hk
    have hcons := hv.cons a ha
    have hU := patU_at numL q f' false a ha
    unfold patN at hU
    have hsz := fun (f a : Nat) (c : Bool) (h : a < q.length) => pat_size numL numL_len24 hv f a c h
    have hen : ∀ a, endN (q.map PN.kids) a ≤ 600 := fun a => by
      have := pendF_le ((q.map PN.kids).length + 1) (q.map PN.kids) a
      unfold endN; simp only [List.length_map] at this ⊢; omega
    have IH := fun f (hf : f < f' + 1) (k : Nat) (hk : k < q.length) (hfk : q.length < k + f) W (hK : Kept w W) => ih f hf _ k W (hR0.kept PNEl.st hK) hk hfk
    have hnode := fun (k : Nat) (hk : k < q.length) => hc k hk
    have hx := q
    generalize hq' : q[a] = n at *
    obtain ⟨⟨a0, i0⟩, ⟨a1, i1⟩, ⟨a2, i2⟩, ⟨u3, a3, r3⟩⟩ := ex
    obtain ⟨pk, ck, rfl, hmk, hkf⟩ := r3.form
    clear ih hR hc hqf
    rcases pk_range hn with hk | hk | hk | hk | hk | hk
    · have HB := Lib.hid (show patU numL q (f' + 1) false a = [95] from by rw [hU, if_pos hk])
      rw [hk] at a0
      go_enter Tryz.func57, Tryz.ntmps57
      go_wp2
      go_ret
      exact ⟨by rw [HB.out]; rfl, Joins.below_alloc2 w _ _⟩
    · have HB := Lib.hid (show patU numL q (f' + 1) false a = n.s.toList from by rw [hU, if_neg (by omega), if_pos hk])
      have HS := Lib.hid (show (⟨n.s.toList.toArray⟩ : ByteArray) = n.s from by rw [pr_toList])
      rw [hk] at a0
      clear hU
      go_enter Tryz.func57, Tryz.ntmps57
      go_wp2
      go_ret
      exact ⟨by rw [HB.out, HS.out]; rfl, Joins.below_alloc2 w _ _⟩
    · have HB := Lib.hid (show patU numL q (f' + 1) false a = numL n.n from by rw [hU, if_neg (by omega), if_neg (by omega), if_pos hk])
      have hN := fun W => sNumText n.n W (by have := i1.1; have := i1.2; omega)
      rw [hk] at a0
      clear hU
      go_enter Tryz.func57, Tryz.ntmps57
      go_wp2_with (go_at_call 55; refine (hN _).mono ?_; rintro e w1 ⟨rfl, hb⟩)
      go_ret
      exact ⟨by rw [HB.out]; rfl, below_tr (Joins.below_alloc2 w _ _) hb⟩
    · have hl := kids4 hn hk
      by_cases h0 : n.kids.length = 0
      · have HB := Lib.hid (show patU numL q (f' + 1) false a = n.s.toList from by rw [hU, if_neg (by omega), if_neg (by omega), if_neg (by omega), if_neg (by omega), if_neg (by omega), if_pos h0])
        have HS := Lib.hid (show (⟨n.s.toList.toArray⟩ : ByteArray) = n.s from by rw [pr_toList])
        rw [hk] at a0
        rw [h0] at a3
        clear hU
        go_enter Tryz.func57, Tryz.ntmps57
        go_wp2
        go_ret
        exact ⟨by rw [HB.out, HS.out]; rfl, Joins.below_alloc2 w _ _⟩
      · have hl1 : n.kids.length = 1 := by omega
        obtain ⟨k, hkk⟩ := List.length_eq_one_iff.1 hl1
        obtain ⟨k1, k2⟩ := hkid k (by rw [hkk]; simp)
        obtain ⟨kn, rfl⟩ : ∃ kn : Nat, k = kn := ⟨k.toNat, by omega⟩
        have hkn : kn < q.length := by omega
        obtain ⟨bk, ok, rfl, hbk, hck⟩ := hkf (by omega)
        have m0 := (hck 0 (by omega)).1
        simp only [hkk, List.getElem_cons_zero, Nat.zero_mul, Nat.add_zero] at m0
        have ht : ((n.kids[0]?).getD 0).toNat = kn := by rw [hkk]; simp
        by_cases hs : n.s.toList = [58, 58]
        · have hf5 := hcons (by simp [isConsB, hk, hs])
          rw [hkk] at hf5
          simp only [firstPK, Int.toNat_natCast, List.getElem?_eq_getElem hkn] at hf5
          have hn2 := hv.nd kn hkn
          have ex2 := hnode kn hkn
          have hkid2 := fun k (hk : k ∈ q[kn].kids) => hv.kid hkn hk
          obtain ⟨f2, rfl⟩ : ∃ f2, f' = f2 + 1 := ⟨f' - 1, by omega⟩
          have hU2 := patU_at numL q f2 true kn hkn
          unfold patN at hU2
          generalize q[kn] = n2 at *
          have hl := kids5 hn2 hf5
          obtain ⟨x, y, hkk2⟩ := two_kids hl
          obtain ⟨x1, x2⟩ := hkid2 x (by rw [hkk2]; simp)
          obtain ⟨y1, y2⟩ := hkid2 y (by rw [hkk2]; simp)
          obtain ⟨xn, rfl⟩ : ∃ xn : Nat, x = xn := ⟨x.toNat, by omega⟩
          obtain ⟨yn, rfl⟩ : ∃ yn : Nat, y = yn := ⟨y.toNat, by omega⟩
          have hxn : xn < q.length := by omega
          have hyn : yn < q.length := by omega
          obtain ⟨⟨b0, j0⟩, ⟨b1, j1⟩, ⟨b2, j2⟩, ⟨u4, b3, r4⟩⟩ := ex2
          obtain ⟨pk2, ck2, rfl, hmk2, hkf2⟩ := r4.form
          obtain ⟨bk2, ok2, rfl, hbk2, hck2⟩ := hkf2 (by omega)
          have m2 := (hck2 0 (by omega)).1
          have m3 := (hck2 1 (by omega)).1
          simp only [hkk2, List.getElem_cons_zero, List.getElem_cons_succ, Nat.zero_mul, Nat.one_mul, Nat.add_zero] at m2 m3
          have HB := Lib.hid (show patU numL q (f2 + 1 + 1) false a = [40] ++ (patU numL q f2 false xn ++ ([32, 58, 58, 32] ++ (patU numL q f2 false yn ++ [41]))) from by rw [hU, if_neg (by omega), if_neg (by omega), if_neg (by omega), if_neg (by omega), if_neg (by omega), if_neg h0, if_pos hs, ht, hU2, if_neg (by omega), if_neg (by omega), if_neg (by omega), if_neg (by omega), if_pos hf5, hkk2]; simp)
          have hA := hsz f2 xn false hxn
          have hBl := hsz f2 yn false hyn
          have e1 := hen xn
          have e2 := hen yn
          have T1 := fun W (hK : Kept w W) => Lib.hid (IH f2 (by omega) xn hxn (by omega) W hK)
          have T2 := fun W (hK : Kept w W) => Lib.hid (IH f2 (by omega) yn hyn (by omega) W hK)
          have hA1 : (patU numL q f2 false xn).length ≤ 20000 := by omega
          have hA2 : (patU numL q f2 false yn).length ≤ 20000 := by omega
          generalize patU numL q f2 false xn = A1 at *
          generalize patU numL q f2 false yn = A2 at *
          have t5 : (n.s.toList == [58, 58]) = true := by simpa using hs
          have t6 : (n.kids.length == 0) = false := by simpa using h0
          rw [hk] at a0
          rw [hl1] at a3 hmk
          rw [hl] at b3 hmk2
          have v0 : (0 : Int) ≤ kn := by omega
          have v1 : (kn : Int) < q.length := by omega
          clear hU hU2 hsz hen IH e1 e2 hA hBl hcons hkid hkid2 hnode hkf hkf2 hl hl1 hkk hkk2 h0 hs ht
          go_enter Tryz.func57, Tryz.ntmps57
          go_wp2_with fail
          refine gen_world (P := fun W => Code.wp _ _ _ _ W) _ ?_
          intro W0 hW0
          have B0 : Below w.heap.size w W0 := by rw [hW0]; exact Joins.below_alloc2 w _ _
          have z0 : W0.heap.size = w.heap.size + 2 := by rw [hW0]; simp
          have K0 := Kept.of_below B0
          have c0 : W0.cell? ⟨w.heap.size, 0, none⟩ = some (.slice (some ⟨b, o, none⟩) q.length cap) := by rw [hW0]; simp
          have c1 : W0.cell? ⟨w.heap.size + 1, 3, none⟩ = some (.slice (some ⟨bk, ok, none⟩) 1 ck) := by rw [hW0]; simp
          have c2 : W0.cell? ⟨bk, ok, none⟩ = some (.int .i64 kn) := (K0.cell _ _ hbk).trans m0
          have d0 := (K0.cell _ _ hbw).trans b0
          have d1 := (K0.cell _ _ hbw).trans b1
          have d2 := (K0.cell _ _ hbw).trans b2
          have d3 := (K0.cell _ _ hbw).trans b3
          clear hW0 m0 a0 a1 a2 a3 b0 b1 b2 b3
          have KS : ∀ W, Below W0.heap.size W0 W → W.cell? ⟨w.heap.size, 0, none⟩ = some (.slice (some ⟨b, o, none⟩) q.length cap) ∧ W.cell? ⟨w.heap.size + 1, 3, none⟩ = some (.slice (some ⟨bk, ok, none⟩) 1 ck) ∧ W.cell? ⟨bk, ok, none⟩ = some (.int .i64 kn) ∧ W.cell? ⟨b, o + kn * 4, none⟩ = some (.int .i64 n2.kind) ∧ W.cell? ⟨b, o + kn * 4 + 1, none⟩ = some (.int .i64 n2.n) ∧ W.cell? ⟨b, o + kn * 4 + 2, none⟩ = some (.string n2.s) ∧ W.cell? ⟨b, o + kn * 4 + 3, none⟩ = some (.slice (some ⟨bk2, ok2, none⟩) 2 ck2) := fun W h =>
            ⟨(h.cell (p := ⟨w.heap.size, 0, none⟩) (by show w.heap.size < _; omega)).trans c0, (h.cell (p := ⟨w.heap.size + 1, 3, none⟩) (by show w.heap.size + 1 < _; omega)).trans c1, (h.cell (p := ⟨bk, ok, none⟩) (by show bk < _; omega)).trans c2, (h.cell (p := ⟨b, o + kn * 4, none⟩) (by show b < _; omega)).trans d0, (h.cell (p := ⟨b, o + kn * 4 + 1, none⟩) (by show b < _; omega)).trans d1, (h.cell (p := ⟨b, o + kn * 4 + 2, none⟩) (by show b < _; omega)).trans d2, (h.cell (p := ⟨b, o + kn * 4 + 3, none⟩) (by show b < _; omega)).trans d3⟩
          go_region_held3 (fun W => W.cell? ⟨w.heap.size, 0, none⟩ = some (.slice (some ⟨b, o, none⟩) q.length cap) ∧ W.cell? ⟨w.heap.size + 1, 3, none⟩ = some (.slice (some ⟨bk, ok, none⟩) 1 ck) ∧ W.cell? ⟨bk, ok, none⟩ = some (.int .i64 kn) ∧ W.cell? ⟨b, o + kn * 4, none⟩ = some (.int .i64 n2.kind) ∧ W.cell? ⟨b, o + kn * 4 + 1, none⟩ = some (.int .i64 n2.n) ∧ W.cell? ⟨b, o + kn * 4 + 2, none⟩ = some (.string n2.s) ∧ W.cell? ⟨b, o + kn * 4 + 3, none⟩ = some (.slice (some ⟨bk2, ok2, none⟩) 2 ck2))
            (first | exact KS _ (Below.refl _ _) | exact KS _ (Below.refl _ _).drew | exact KS _ ((Below.refl _ _).drew.alloc (Nat.le_refl _) _) | exact KS _ (((Below.refl _ _).drew.alloc (Nat.le_refl _) _).setCell (Nat.le_refl _) _))
            (fail)
          clear KS
          go_wp2_with fail
          refine gen_world (P := fun W => Code.wp _ _ _ _ W) _ ?_
          intro W1 hW1
          have B1 : Below w.heap.size w W1 := by rw [hW1]; exact below_tr B0 ((Below.refl _ _).alloc (Nat.le_refl _) _).drew
          have z1 : W1.heap.size = w.heap.size + 3 := by rw [hW1]; simp [z0]
          have K1 := Kept.of_below B1
          have g0 : W1.cell? ⟨w.heap.size, 0, none⟩ = some (.slice (some ⟨b, o, none⟩) q.length cap) := by
            rw [hW1]; exact (((Below.refl W0.heap.size W0).alloc (Nat.le_refl _) _).drew.cell (p := ⟨w.heap.size, 0, none⟩) (by show w.heap.size < _; omega)).trans c0
          have g1 : W1.cell? ⟨w.heap.size + 2, 3, none⟩ = some (.slice (some ⟨bk2, ok2, none⟩) 2 ck2) := by rw [hW1, ← z0]; simp
          have g2 : W1.cell? ⟨bk2, ok2, none⟩ = some (.int .i64 xn) := (K1.cell _ _ hbk2).trans m2
          have g3 : W1.cell? ⟨bk2, ok2 + 1, none⟩ = some (.int .i64 yn) := (K1.cell _ _ hbk2).trans m3
          clear hW1 c0 c1 c2 d0 d1 d2 d3 m2 m3 B0 K0 z0
          have u1 : ¬ (9223372036854775807 < 1 + A1.length) := by omega
          have u2 : ¬ (9223372036854775807 < 1 + A1.length + 4) := by omega
          have u3 : ¬ (9223372036854775807 < 1 + A1.length + 4 + A2.length) := by omega
          have u4 : ¬ (9223372036854775807 < 1 + A1.length + 4 + A2.length + 1) := by omega
          have KS : ∀ W, Below W1.heap.size W1 W → W.cell? ⟨w.heap.size, 0, none⟩ = some (.slice (some ⟨b, o, none⟩) q.length cap) ∧ W.cell? ⟨w.heap.size + 2, 3, none⟩ = some (.slice (some ⟨bk2, ok2, none⟩) 2 ck2) ∧ W.cell? ⟨bk2, ok2, none⟩ = some (.int .i64 xn) ∧ W.cell? ⟨bk2, ok2 + 1, none⟩ = some (.int .i64 yn) ∧ Kept w W := fun W h =>
            ⟨(h.cell (p := ⟨w.heap.size, 0, none⟩) (by show w.heap.size < _; omega)).trans g0, (h.cell (p := ⟨w.heap.size + 2, 3, none⟩) (by show w.heap.size + 2 < _; omega)).trans g1, (h.cell (p := ⟨bk2, ok2, none⟩) (by show bk2 < _; omega)).trans g2, (h.cell (p := ⟨bk2, ok2 + 1, none⟩) (by show bk2 < _; omega)).trans g3, K1.trans (Kept.of_below h)⟩
          go_region_held3 (fun W => W.cell? ⟨w.heap.size, 0, none⟩ = some (.slice (some ⟨b, o, none⟩) q.length cap) ∧ W.cell? ⟨w.heap.size + 2, 3, none⟩ = some (.slice (some ⟨bk2, ok2, none⟩) 2 ck2) ∧ W.cell? ⟨bk2, ok2, none⟩ = some (.int .i64 xn) ∧ W.cell? ⟨bk2, ok2 + 1, none⟩ = some (.int .i64 yn) ∧ Kept w W)
            (first | exact KS _ (Below.refl _ _) | exact KS _ (Below.refl _ _).drew | exact KS _ ((Below.refl _ _).drew.trans hbA) | exact KS _ ((Below.refl _ _).drew.trans (hbA.trans (hbB.mono hbA.size))))
            (first | (have hA' := hbA; go_at_call 57; refine (T2 _ ((K1.trans (Kept.drew _)).trans (Kept.of_below hA'))).out.mono ?_; rintro e wB ⟨rfl, hbB⟩) | (go_at_call 57; refine (T1 _ (K1.trans (by first | exact Kept.drew _ | exact Kept.refl _))).out.mono ?_; rintro e wA ⟨rfl, hbA⟩))
          go_wp2
          go_ret
          refine ⟨by rw [HB.out]; exact ret_str (by simp only [str_app, List.append_assoc]), below_tr B1 ((Below.refl _ _).drew.trans (hbA.trans (hbB.mono hbA.size)))⟩
        · have HB := Lib.hid (show patU numL q (f' + 1) false a = [40] ++ n.s.toList ++ [32] ++ patU numL q f' false kn ++ [41] from by rw [hU, if_neg (by omega), if_neg (by omega), if_neg (by omega), if_neg (by omega), if_neg (by omega), if_neg h0, if_neg hs, ht]; simp [List.append_assoc])
          have hlen := hsz (f' + 1) a false ha
          have e1 := hen a
          rw [HB.out] at hlen
          simp only [List.length_append, List.length_cons, List.length_nil] at hlen
          have T1 := fun W (hK : Kept w W) => Lib.hid (IH f' (by omega) kn hkn (by omega) W hK)
          generalize patU numL q f' false kn = A1 at *
          have hns : n.s.size ≤ 20000 := by
            have : n.s.toList.length ≤ 20000 := by omega
            rw [pr_toList] at this; exact this
          have hA1 : A1.length ≤ 20000 := by omega
          have HS := Lib.hid (show (⟨n.s.toList.toArray⟩ : ByteArray) = n.s from by rw [pr_toList])
          have t5 : (n.s.toList == [58, 58]) = false := by simpa using hs
          have t6 : (n.kids.length == 0) = false := by simpa using h0
          rw [hk] at a0
          rw [hl1] at a3 hmk
          clear hU hsz hen IH e1 hlen hcons hkid hnode hkf hl hl1 hkk h0 hs ht
          go_enter Tryz.func57, Tryz.ntmps57
          go_wp2_with fail
          refine gen_world (P := fun W => Code.wp _ _ _ _ W) _ ?_
          intro W0 hW0
          have B0 : Below w.heap.size w W0 := by rw [hW0]; exact Joins.below_alloc2 w _ _
          have z0 : W0.heap.size = w.heap.size + 2 := by rw [hW0]; simp
          have K0 := Kept.of_below B0
          have c0 : W0.cell? ⟨w.heap.size, 0, none⟩ = some (.slice (some ⟨b, o, none⟩) q.length cap) := by rw [hW0]; simp
          have c1 : W0.cell? ⟨w.heap.size + 1, 3, none⟩ = some (.slice (some ⟨bk, ok, none⟩) 1 ck) := by rw [hW0]; simp
          have c4 : W0.cell? ⟨w.heap.size + 1, 2, none⟩ = some (.string n.s) := by rw [hW0]; simp
          have c2 : W0.cell? ⟨bk, ok, none⟩ = some (.int .i64 kn) := (K0.cell _ _ hbk).trans m0
          clear hW0 m0 a0 a1 a2 a3
          have u1 : ¬ (9223372036854775807 < 1 + n.s.size) := by omega
          have u2 : ¬ (9223372036854775807 < 1 + n.s.size + 1) := by omega
          have u3 : ¬ (9223372036854775807 < 1 + n.s.size + 1 + A1.length) := by omega
          have u4 : ¬ (9223372036854775807 < 1 + n.s.size + 1 + A1.length + 1) := by omega
          have KS : ∀ W, Below W0.heap.size W0 W → W.cell? ⟨w.heap.size, 0, none⟩ = some (.slice (some ⟨b, o, none⟩) q.length cap) ∧ W.cell? ⟨w.heap.size + 1, 3, none⟩ = some (.slice (some ⟨bk, ok, none⟩) 1 ck) ∧ W.cell? ⟨w.heap.size + 1, 2, none⟩ = some (.string n.s) ∧ W.cell? ⟨bk, ok, none⟩ = some (.int .i64 kn) ∧ Kept w W := fun W h =>
            ⟨(h.cell (p := ⟨w.heap.size, 0, none⟩) (by show w.heap.size < _; omega)).trans c0, (h.cell (p := ⟨w.heap.size + 1, 3, none⟩) (by show w.heap.size + 1 < _; omega)).trans c1, (h.cell (p := ⟨w.heap.size + 1, 2, none⟩) (by show w.heap.size + 1 < _; omega)).trans c4, (h.cell (p := ⟨bk, ok, none⟩) (by show bk < _; omega)).trans c2, K0.trans (Kept.of_below h)⟩
          go_region_held3 (fun W => W.cell? ⟨w.heap.size, 0, none⟩ = some (.slice (some ⟨b, o, none⟩) q.length cap) ∧ W.cell? ⟨w.heap.size + 1, 3, none⟩ = some (.slice (some ⟨bk, ok, none⟩) 1 ck) ∧ W.cell? ⟨w.heap.size + 1, 2, none⟩ = some (.string n.s) ∧ W.cell? ⟨bk, ok, none⟩ = some (.int .i64 kn) ∧ Kept w W)
            (first | exact KS _ (Below.refl _ _) | exact KS _ (Below.refl _ _).drew | exact KS _ ((Below.refl _ _).drew.trans hbA))
            ((go_at_call 57; refine (T1 _ (K0.trans (by first | exact Kept.drew _ | exact Kept.refl _))).out.mono ?_; rintro e wA ⟨rfl, hbA⟩))
          go_wp2
          go_ret
          refine ⟨by rw [HB.out]; exact ret_str (by simp only [← str_app]; rw [HS.out]), below_tr B0 ((Below.refl _ _).drew.trans hbA)⟩
    · have hl := kids5 hn hk
      obtain ⟨x, y, hkk⟩ := two_kids hl
      obtain ⟨x1, x2⟩ := hkid x (by rw [hkk]; simp)
      obtain ⟨y1, y2⟩ := hkid y (by rw [hkk]; simp)
      obtain ⟨xn, rfl⟩ : ∃ xn : Nat, x = xn := ⟨x.toNat, by omega⟩
      obtain ⟨yn, rfl⟩ : ∃ yn : Nat, y = yn := ⟨y.toNat, by omega⟩
      have hxn : xn < q.length := by omega
      have hyn : yn < q.length := by omega
      obtain ⟨bk, ok, rfl, hbk, hck⟩ := hkf (by omega)
      have m0 := (hck 0 (by omega)).1
      have m1 := (hck 1 (by omega)).1
      simp only [hkk, List.getElem_cons_zero, List.getElem_cons_succ, Nat.zero_mul, Nat.one_mul, Nat.add_zero] at m0 m1
      have HB := Lib.hid (show patU numL q (f' + 1) false a = [40] ++ (patU numL q f' false xn ++ ([44, 32] ++ (patU numL q f' false yn ++ [41]))) from by rw [hU, if_neg (by omega), if_neg (by omega), if_neg (by omega), if_neg (by omega), if_pos hk, hkk]; simp)
      have hA := hsz f' xn false hxn
      have hBl := hsz f' yn false hyn
      have e1 := hen xn
      have e2 := hen yn
      have T1 := fun W (hK : Kept w W) => Lib.hid (IH f' (by omega) xn hxn (by omega) W hK)
      have T2 := fun W (hK : Kept w W) => Lib.hid (IH f' (by omega) yn hyn (by omega) W hK)
      have hA1 : (patU numL q f' false xn).length ≤ 20000 := by omega
      have hA2 : (patU numL q f' false yn).length ≤ 20000 := by omega
      generalize patU numL q f' false xn = A1 at *
      generalize patU numL q f' false yn = A2 at *
      have t5 : (n.kind == 5) = true := by simpa using hk
      rw [hk] at a0
      clear hU hsz hen IH e1 e2 hA hBl hcons hkid hnode hkf
      have hl2 : n.kids.length = 2 := hl
      rw [hl2] at a3 hmk
      clear hl hl2 hkk
      go_enter Tryz.func57, Tryz.ntmps57
      go_wp2_with fail
      refine gen_world (P := fun W => Code.wp _ _ _ _ W) _ ?_
      intro W0 hW0
      have B0 : Below w.heap.size w W0 := by rw [hW0]; exact Joins.below_alloc2 w _ _
      have z0 : W0.heap.size = w.heap.size + 2 := by rw [hW0]; simp
      have K0 := Kept.of_below B0
      have c0 : W0.cell? ⟨w.heap.size, 0, none⟩ = some (.slice (some ⟨b, o, none⟩) q.length cap) := by rw [hW0]; simp
      have c1 : W0.cell? ⟨w.heap.size + 1, 3, none⟩ = some (.slice (some ⟨bk, ok, none⟩) 2 ck) := by rw [hW0]; simp
      have c2 : W0.cell? ⟨bk, ok, none⟩ = some (.int .i64 xn) := (K0.cell _ _ hbk).trans m0
      have c3 : W0.cell? ⟨bk, ok + 1, none⟩ = some (.int .i64 yn) := (K0.cell _ _ hbk).trans m1
      clear hW0 m0 m1 a0 a1 a2 a3
      have u1 : ¬ (9223372036854775807 < 1 + A1.length) := by omega
      have u2 : ¬ (9223372036854775807 < 1 + A1.length + 2) := by omega
      have u3 : ¬ (9223372036854775807 < 1 + A1.length + 2 + A2.length) := by omega
      have u4 : ¬ (9223372036854775807 < 1 + A1.length + 2 + A2.length + 1) := by omega
      have KS : ∀ W, Below W0.heap.size W0 W → W.cell? ⟨w.heap.size, 0, none⟩ = some (.slice (some ⟨b, o, none⟩) q.length cap) ∧ W.cell? ⟨w.heap.size + 1, 3, none⟩ = some (.slice (some ⟨bk, ok, none⟩) 2 ck) ∧ W.cell? ⟨bk, ok, none⟩ = some (.int .i64 xn) ∧ W.cell? ⟨bk, ok + 1, none⟩ = some (.int .i64 yn) ∧ Kept w W := fun W h =>
        ⟨(h.cell (p := ⟨w.heap.size, 0, none⟩) (by show w.heap.size < _; omega)).trans c0, (h.cell (p := ⟨w.heap.size + 1, 3, none⟩) (by show w.heap.size + 1 < _; omega)).trans c1, (h.cell (p := ⟨bk, ok, none⟩) (by show bk < _; omega)).trans c2, (h.cell (p := ⟨bk, ok + 1, none⟩) (by show bk < _; omega)).trans c3, K0.trans (Kept.of_below h)⟩
      go_region_held3 (fun W => W.cell? ⟨w.heap.size, 0, none⟩ = some (.slice (some ⟨b, o, none⟩) q.length cap) ∧ W.cell? ⟨w.heap.size + 1, 3, none⟩ = some (.slice (some ⟨bk, ok, none⟩) 2 ck) ∧ W.cell? ⟨bk, ok, none⟩ = some (.int .i64 xn) ∧ W.cell? ⟨bk, ok + 1, none⟩ = some (.int .i64 yn) ∧ Kept w W)
        (first | exact KS _ (Below.refl _ _) | exact KS _ (Below.refl _ _).drew | exact KS _ ((Below.refl _ _).drew.trans hbA) | exact KS _ ((Below.refl _ _).drew.trans (hbA.trans (hbB.mono hbA.size))))
        (first | (have hA' := hbA; go_at_call 57; refine (T2 _ ((K0.trans (Kept.drew _)).trans (Kept.of_below hA'))).out.mono ?_; rintro e wB ⟨rfl, hbB⟩) | (go_at_call 57; refine (T1 _ (K0.trans (by first | exact Kept.drew _ | exact Kept.refl _))).out.mono ?_; rintro e wA ⟨rfl, hbA⟩))
      go_wp2
      go_ret
      refine ⟨by rw [HB.out]; exact ret_str (by simp only [str_app, List.append_assoc]), below_tr B0 ((Below.refl _ _).drew.trans (hbA.trans (hbB.mono hbA.size)))⟩
    · have HB := Lib.hid (show patU numL q (f' + 1) false a = [40, 41] from by rw [hU, if_neg (by omega), if_neg (by omega), if_neg (by omega), if_pos hk])
      rw [hk] at a0
      go_enter Tryz.func57, Tryz.ntmps57
      go_wp2
      go_ret
      exact ⟨by rw [HB.out]; rfl, Joins.below_alloc2 w _ _⟩
/-- What PrintPat answers. -/
noncomputable def prPatRes (q : List PN) : ByteArray := if patOkB q = true then ⟨(patU numL q (q.length + 1) false 0).toArray⟩ else ⟨#[]⟩
theorem patOk_len {q : List PN} (h : patOkB q = true) : 0 < q.length ∧ q.length ≤ 600 := by
  by_cases hp : PatOkP q
  · exact ⟨hp.1, hp.2.1⟩
  · rw [patOkB, propB_f hp] at h; cases h
end Go.Proofs.YtbehcmogndpkhaaGreatDoor
namespace Go.Proofs.YtbehcmogndpkhaaGreatDoor
set_option linter.unusedVariables false
open Go.RowKit

def hexI (d : Int) : Int := if d < 10 then 48 + d else 87 + d
def hexB (d : Nat) : UInt8 := UInt8.ofNat (if d < 10 then 48 + d else 87 + d)
theorem hexB_toNat (d : Nat) (h : d < 16) : ((hexB d).toNat : Int) = hexI d := by
  unfold hexB hexI
  have : d = 0 ∨ d = 1 ∨ d = 2 ∨ d = 3 ∨ d = 4 ∨ d = 5 ∨ d = 6 ∨ d = 7 ∨ d = 8 ∨ d = 9 ∨ d = 10 ∨ d = 11 ∨ d = 12 ∨ d = 13 ∨ d = 14 ∨ d = 15 := by omega
  rcases this with rfl | rfl | rfl | rfl | rfl | rfl | rfl | rfl | rfl | rfl | rfl | rfl | rfl | rfl | rfl | rfl <;> rfl
/-- How one byte is written in quotes. -/
def qb (c : UInt8) : List UInt8 :=
  if c.toNat = 10 then [92, 110] else if c.toNat = 34 ∨ c.toNat = 92 then [92, c] else if 32 ≤ c.toNat ∧ c.toNat ≤ 126 then [c] else [92, 120, hexB (c.toNat / 16), hexB (c.toNat % 16)]
def qpre (s : ByteArray) (k : Nat) : List UInt8 := 34 :: ((s.data.toList.take k).flatMap qb)
def quoteL (l : List UInt8) : List UInt8 := 34 :: (l.flatMap qb ++ [34])
theorem qb_ten (c : UInt8) (h : (c.toNat : Int) = 10) : qb c = [92, 110] := by unfold qb; rw [if_pos (by omega)]
theorem qb_esc (c : UInt8) (h : ¬ (c.toNat : Int) = 10) (h2 : (c.toNat : Int) = 34 ∨ (c.toNat : Int) = 92) : qb c = [92, c] := by unfold qb; rw [if_neg (by omega), if_pos (by omega)]
theorem qb_self (c : UInt8) (h : ¬ (c.toNat : Int) = 10) (h2 : ¬ ((c.toNat : Int) = 34 ∨ (c.toNat : Int) = 92)) (h3 : 32 ≤ (c.toNat : Int) ∧ (c.toNat : Int) ≤ 126) : qb c = [c] := by unfold qb; rw [if_neg (by omega), if_neg (by omega), if_pos (by omega)]
theorem qb_hex (c : UInt8) (h : ¬ (c.toNat : Int) = 10) (h2 : ¬ ((c.toNat : Int) = 34 ∨ (c.toNat : Int) = 92)) (h3 : ¬ (32 ≤ (c.toNat : Int) ∧ (c.toNat : Int) ≤ 126)) : qb c = [92, 120, hexB (c.toNat / 16), hexB (c.toNat % 16)] := by unfold qb; rw [if_neg (by omega), if_neg (by omega), if_neg (by omega)]
theorem bc_hex (c : UInt8) : [Value.int .u8 92, .int .u8 120, .int .u8 (hexI ((c.toNat : Int) / 16)), .int .u8 (hexI ((c.toNat : Int) % 16))] = bc [92, 120, hexB (c.toNat / 16), hexB (c.toNat % 16)] := by
  have hc := c.toNat_lt
  have h1 := hexB_toNat (c.toNat / 16) (by omega)
  have h2 := hexB_toNat (c.toNat % 16) (by omega)
  simp only [bc, List.map_cons, List.map_nil, h1, h2]
  simp
theorem qb_length (c : UInt8) : (qb c).length ≤ 4 := by unfold qb; split; · simp
                                                        split; · simp
                                                        split <;> simp
theorem flat_length (l : List UInt8) : (l.flatMap qb).length ≤ 4 * l.length := by
  induction l with
  | nil => simp
  | cons c l ih => have := qb_length c; simp only [List.flatMap_cons, List.length_append, List.length_cons]; omega
theorem qpre_length (s : ByteArray) (k : Nat) (hk : k ≤ s.size) : (qpre s k).length ≤ 1 + 4 * k := by
  have h := flat_length (s.data.toList.take k)
  have : (s.data.toList.take k).length = k := by simp; omega
  simp only [qpre, List.length_cons]; omega
theorem qpre_succ (s : ByteArray) (k : Nat) (h : k < s.size) : qpre s (k + 1) = qpre s k ++ qb s[k] := by
  unfold qpre
  have ht : s.data.toList.take (k + 1) = s.data.toList.take k ++ [s[k]] := by
    rw [List.take_succ_eq_append_getElem (by simpa using h)]; rfl
  rw [ht, List.flatMap_append]; simp
theorem qpre_end (s : ByteArray) : qpre s s.size ++ [34] = quoteL s.data.toList := by
  unfold qpre quoteL; rw [List.take_of_length_le (by simp)]; simp
end Go.Proofs.YtbehcmogndpkhaaGreatDoor
namespace Go.Proofs.YtbehcmogndpkhaaGreatDoor
set_option linter.unusedVariables false
set_option maxRecDepth 100000
open Go.RowKit

/-- The text of a pattern. -/
def pTxt (q : List PN) : List UInt8 := patU numL q (q.length + 1) false 0
/-- The texts of a node. -/
def NT : Nd → List (List UInt8) := nodeT numL quoteL pTxt
theorem ex_at {N : Nd → List (List UInt8)} {p : List Nd} {f a : Nat} (ha : a < p.length) (h4 : isConsN p[a] = false) : exprT N p (f + 1) 0 a = (N p[a])[0]?.getD [] ++ kF (exprT N p f) (N p[a]) 0 (modeN p[a]) p[a].kids := by
  rw [exprT_at _ _ _ _ _ ha]; simp [rowM, h4]
theorem ncons {n : Nd} {c : Int} (h : n.kind = c) (hc : c ≠ 4) : isConsN n = false := by simp [isConsN, h, hc]
theorem mode0 {n : Nd} {c : Int} (h : n.kind = c) (h4 : c ≠ 4) (h8 : c ≠ 8) (h6 : c ≠ 6) : modeN n = 0 := by simp [modeN, isConsN, h, h4, h8, h6]
theorem kF0 (g : Nat → Nat → List UInt8) (T : List (List UInt8)) (d m : Nat) : kF g T d m [] = [] := by simp [kF]
theorem kF1 (g : Nat → Nat → List UInt8) (T : List (List UInt8)) (d m x : Nat) : kF g T d m [(x : Int)] = g m x ++ (T[d + 1]?.getD []) := by simp [kF]
theorem kF2 (g : Nat → Nat → List UInt8) (T : List (List UInt8)) (d m x y : Nat) : kF g T d m [(x : Int), (y : Int)] = g m x ++ (T[d + 1]?.getD [] ++ (g 0 y ++ (T[d + 2]?.getD []))) := by simp [kF]
theorem kF3 (g : Nat → Nat → List UInt8) (T : List (List UInt8)) (d m x y z : Nat) : kF g T d m [(x : Int), (y : Int), (z : Int)] = g m x ++ (T[d + 1]?.getD [] ++ (g 0 y ++ (T[d + 2]?.getD [] ++ (g 0 z ++ (T[d + 3]?.getD []))))) := by simp [kF]
/-- The function of an application. -/
theorem ex_app {p : List Nd} (hv : PgV p) {f x : Nat} (hx : x < p.length) : exprT NT p (f + 1) 3 x = if isLoneN p[x] = true then [40] ++ (exprT NT p (f + 1) 0 x ++ [41]) else exprT NT p (f + 1) 0 x := by
  rw [exprT_at _ _ _ _ _ hx, exprT_at _ _ _ _ _ hx]
  by_cases hl : isLoneN p[x] = true
  · have h2 : p[x].kind = 4 ∧ p[x].kids.length = 0 := by simpa [isLoneN] using hl
    have h3 : p[x].kids = [] := List.eq_nil_of_length_eq_zero h2.2
    have hc : ¬ isConsN p[x] = true := fun hc => by
      have := (hv.plain (t := 0) hx hc).2.2
      rw [this] at hl; cases hl
    simp [rowM, hl, h3, kF, hc, NT, nodeT, h2.1]
  · simp [rowM, hl]
/-- The function of a let rec. -/
theorem ex_rec {N : Nd → List (List UInt8)} {p : List Nd} {f x z : Nat} (hx : x < p.length) (hk : p[x].kind = 5) (hz : p[x].kids = [(z : Int)]) : exprT N p (f + 1) 2 x = p[x].s.toList ++ [32, 61, 32] ++ exprT N p f 0 z := by
  rw [exprT_at _ _ _ _ _ hx, mode0 hk (by decide) (by decide) (by decide), hz, kF1]
  simp [rowM]
/-- The pair of a '::'. -/
theorem ex_pair {N : Nd → List (List UInt8)} {p : List Nd} {f x y z : Nat} (hx : x < p.length) (hk : p[x].kind = 11) (hz : p[x].kids = [(y : Int), (z : Int)]) : exprT N p (f + 1) 1 x = [40] ++ (exprT N p f 0 y ++ ([32, 58, 58, 32] ++ (exprT N p f 0 z ++ [41]))) := by
  rw [exprT_at _ _ _ _ _ hx, mode0 hk (by decide) (by decide) (by decide), hz, kF2]
  simp [rowM]
theorem ex_cons {N : Nd → List (List UInt8)} {p : List Nd} {f a x : Nat} (ha : a < p.length) (hc : isConsN p[a] = true) (hx : p[a].kids = [(x : Int)]) : exprT N p (f + 1) 0 a = exprT N p f 1 x := by
  have hm : modeN p[a] = 1 := by simp [modeN, hc]
  rw [exprT_at _ _ _ _ _ ha, hm, hx, kF1]
  simp [rowM, hc]
theorem get_le {T : List (List UInt8)} {M : Nat} (hT : ∀ t ∈ T, t.length ≤ M) (d : Nat) : (T[d]?.getD []).length ≤ M := by
  cases h : T[d]? with
  | none => simp
  | some u => exact hT u (List.mem_of_getElem? h)
theorem kF_size {l : List (List Int)} {g : Nat → Nat → List UInt8} {T : List (List UInt8)} {M : Nat} (hT : ∀ t ∈ T, t.length ≤ M) (hg : ∀ m k, k < l.length → (g m k).length + M ≤ 2 * M * (endN l k - k)) :
    ∀ (ks : List Int) (a e d m : Nat), Span l ks a e → (kF g T d m ks).length ≤ 2 * M * (e - a) := by
  intro ks
  induction ks with
  | nil => intro a e d m h; simp [kF]
  | cons k ks ih =>
    intro a e d m h
    cases h with
    | cons _ mm _ _ hl h1 h2 =>
      have i1 := ih mm e (d + 1) 0 h2
      have i2 := hg m a hl
      rw [endN_of hl h1] at i2
      have l1 := h1.le
      have l2 := h2.le
      have l3 := get_le hT (d + 1)
      have e1 : 2 * M * (e - a) = 2 * M * (mm - a) + 2 * M * (e - mm) := by rw [← Nat.mul_add]; congr 1; omega
      rw [kF, Int.toNat_natCast, List.length_append, List.length_append, e1]
      omega
theorem ex_size {N : Nd → List (List UInt8)} {p : List Nd} (hp : preB (p.map Nd.kids) = true) {M : Nat} (hM : ∀ c (x : Nd), x ∈ p → ∀ t ∈ rowM N c x, t.length ≤ M) : ∀ (f c a : Nat), a < p.length → (exprT N p f c a).length + M ≤ 2 * M * (endN (p.map Nd.kids) a - a) := by
  intro f
  induction f with
  | zero =>
    intro c a ha
    obtain ⟨e, hs, h1, h2⟩ := span_at hp a (by simpa using ha)
    rw [endN_of (by simpa using ha) hs]
    have e1 : 2 * M * (e - a) = 2 * M + 2 * M * (e - a - 1) := by rw [show e - a = 1 + (e - a - 1) by omega, Nat.mul_add]; simp
    simp only [exprT, List.length_nil]
    omega
  | succ f ih =>
    intro c a ha
    obtain ⟨e, hs, h1, h2⟩ := span_at hp a (by simpa using ha)
    rw [endN_of (by simpa using ha) hs]
    rw [List.getElem_map] at hs
    have hT := hM c p[a] (List.getElem_mem ha)
    have i1 := kF_size hT (fun m k hk => ih m k (by simpa using hk)) p[a].kids (a + 1) e 0 (modeN p[a]) hs
    have l3 := get_le hT 0
    have l4 := hs.le
    have e1 : 2 * M * (e - a) = 2 * M + 2 * M * (e - (a + 1)) := by rw [show e - a = 1 + (e - (a + 1)) by omega, Nat.mul_add]; simp
    rw [exprT_at _ _ _ _ _ ha, List.length_append]
    omega
/-- The pieces of a node's texts are not too long. -/
theorem pTxt_len {q : List PN} (h : patOkB q = true) : (pTxt q).length ≤ 14400 := by
  obtain ⟨h0, h1⟩ := patOk_len h
  have hv := patV_of h
  have := pat_size numL numL_len24 hv (q.length + 1) 0 false h0
  have := pendF_le ((q.map PN.kids).length + 1) (q.map PN.kids) ((0 : Nat) : Int)
  unfold pTxt
  unfold endN at *
  simp only [List.length_map] at *
  omega
theorem arms_sz {l : List (List PN)} (hq : ∀ q ∈ l, (pTxt q).length ≤ 14400) : ∀ b : List UInt8, b.length ≤ 6 → ∀ t ∈ armsT pTxt b l, t.length ≤ 5000000 := by
  induction l with
  | nil => intro b _ t ht; simp [armsT] at ht
  | cons q qs ih =>
    intro b hb t ht
    rw [armsT, List.mem_cons] at ht
    rcases ht with rfl | ht
    · have := hq q (by simp)
      simp only [List.length_append, List.length_cons, List.length_nil]; omega
    · exact ih (fun q hq' => hq q (by simp [hq'])) _ (by simp) t ht
theorem quoteL_len (s : ByteArray) (h : s.size ≤ 1048576) : (quoteL s.toList).length ≤ 4194306 := by
  have := flat_length s.toList
  have h2 : s.toList.length = s.size := by rw [pr_toList]; rfl
  unfold quoteL
  simp only [List.length_cons, List.length_append, List.length_nil]
  omega
theorem mem_ite' {α : Type} {c : Prop} [Decidable c] {t : α} {A B : List α} (h : t ∈ if c then A else B) : (c ∧ t ∈ A) ∨ (¬ c ∧ t ∈ B) := by
  by_cases hc : c
  · rw [if_pos hc] at h; exact .inl ⟨hc, h⟩
  · rw [if_neg hc] at h; exact .inr ⟨hc, h⟩
theorem nodeT_sz {x : Nd} (hx : isNodeB x = true) (hs : x.s.size ≤ 1048576) : ∀ t ∈ NT x, t.length ≤ 5000000 := by
  have h2 : x.s.toList.length = x.s.size := by rw [pr_toList]; rfl
  have hq := quoteL_len x.s hs
  simp only [isNodeB, Bool.and_eq_true, decide_eq_true_eq] at hx
  obtain ⟨_, hn, _, _, hp⟩ := hx
  have hnl : (numL x.n).length ≤ 24 := by
    refine numL_len24 _ ?_ ?_
    all_goals
      unfold rnB at hn
      split at hn
      · simp at hn; omega
      · simp at hn; omega
  have hpt : x.kind = 13 → ∀ q ∈ x.pats, (pTxt q).length ≤ 14400 := fun h13 q hq' => by
    unfold rpB at hp
    rw [if_pos h13] at hp
    simp only [Bool.and_eq_true, List.all_eq_true] at hp
    exact pTxt_len (hp.2 q hq')
  intro t ht
  unfold NT nodeT at ht
  by_cases h13 : x.kind = 13
  · simp only [h13] at ht
    simp at ht
    rcases ht with rfl | ht | rfl
    · simp
    · exact arms_sz (hpt h13) _ (by simp) t ht
    · simp
  · rw [if_neg h13] at ht
    repeat' (rcases mem_ite' ht with ⟨_, ht⟩ | ⟨_, ht⟩)
    all_goals
      simp only [List.mem_cons, List.not_mem_nil, or_false] at ht
      repeat' (first | (rcases ht with rfl | ht) | (obtain rfl := ht))
      all_goals ((try simp only [List.length_append, List.length_cons, List.length_nil]); try omega)
theorem rowM_sz {x : Nd} (hx : isNodeB x = true) (hs : x.s.size ≤ 1048576) (c : Nat) : ∀ t ∈ rowM NT c x, t.length ≤ 5000000 := by
  have h2 : x.s.toList.length = x.s.size := by rw [pr_toList]; rfl
  intro t ht
  unfold rowM at ht
  repeat' split at ht
  all_goals first
    | exact nodeT_sz hx hs t ht
    | (simp only [List.mem_cons, List.not_mem_nil, or_false] at ht
       repeat' (first | (rcases ht with rfl | ht) | (obtain rfl := ht))
       all_goals ((try simp only [List.length_append, List.length_cons, List.length_nil]); try omega))
theorem ex_len {p : List Nd} (hv : PgV p) (hS : ∀ x ∈ p, x.s.size ≤ 1048576) (f c a : Nat) (ha : a < p.length) : (exprT NT p f c a).length ≤ 6000000000 := by
  have h1 := ex_size hv.pre (M := 5000000) (N := NT) (fun c x hx => by
    obtain ⟨i, hi, rfl⟩ := List.getElem_of_mem hx
    exact rowM_sz (hv.nd i hi) (hS _ hx) c) f c a ha
  have h2 := (preB_iff _).1 hv.pre
  have h3 := pendF_le ((p.map Nd.kids).length + 1) (p.map Nd.kids) a
  unfold endN at h1
  simp only [List.length_map] at *
  omega
end Go.Proofs.YtbehcmogndpkhaaGreatDoor
namespace Go.Proofs.YtbehcmogndpkhaaGreatDoor
set_option linter.unusedVariables false
set_option maxRecDepth 100000
open Go.ChangeShapes Go.WideShapes Go.ChangeAt Go.RowKit

theorem sNEnd : ∀ (f : Nat) (q : List Nd) (t v : Value) (a : Int) (w : World) (ht : ∃ pt nt ct, t = .slice pt nt ct) (hR : RowRd 6 NdEl w v q) (ha : 0 ≤ a) (ha2 : a ≤ 9223372036854775807) (hf : (q.length : Int) < a + f),
    Calls Tryz.prog 52 #[.agg #[t, v], .int .i64 a] w fun e w' => e = .returned (.int .i64 (pendF f (q.map Nd.kids) a)) ∧ Below w.heap.size w w' := by
  intro f
  induction f with
  | zero =>
    intro l t v a w ht hR ha ha2 hf
    obtain ⟨pt, nt, ct, rfl⟩ := ht
    obtain ⟨p, cap, rfl, hm, _⟩ := hR.form
    have HB := Lib.hid (pendF_out 0 (l.map Nd.kids) a (by rw [List.length_map]; omega))
    unfold maxLen at hm
    have h1 : (l.length : Int) ≤ a := by omega
    go_enter Tryz.func52, Tryz.ntmps52
    go_wp2
    go_ret
    exact ⟨ret_int' HB.out.symm, Joins.below_alloc1 w _⟩
  | succ f ih =>
    intro l t v a w ht hR ha ha2 hf
    obtain ⟨pt, nt, ct, rfl⟩ := ht
    have hR0 := hR
    obtain ⟨p, cap, rfl, hm, hRf⟩ := hR.form
    clear hR
    unfold maxLen at hm
    by_cases h1 : (l.length : Int) ≤ a
    · have HB := Lib.hid (pendF_out (f + 1) (l.map Nd.kids) a (by rw [List.length_map]; omega))
      go_enter Tryz.func52, Tryz.ntmps52
      go_wp2
      go_ret
      exact ⟨ret_int' HB.out.symm, Joins.below_alloc1 w _⟩
    obtain ⟨n, rfl⟩ : ∃ n : Nat, a = n := ⟨a.toNat, by omega⟩
    have hn : n < l.length := by omega
    have hB := pendF_in f (l.map Nd.kids) n (by rw [List.length_map]; exact hn)
    rw [List.getElem_map] at hB
    have hfl : (l.length : Int) < (n : Int) + 1 + f := by omega
    clear h1 hf ha
    obtain ⟨b, o, rfl, hbw, hc⟩ := hRf (by omega)
    have ex := hc n hn
    clear hc hRf
    generalize l[n] = x at *
    have HB := Lib.hid hB
    clear hB
    obtain ⟨⟨e0, i0⟩, ⟨e1, i1⟩, ⟨e2, i2⟩, ⟨e2b, i2b⟩, ⟨u, e3, r3⟩, ⟨u5, e5, r5⟩⟩ := ex
    clear e2b e5 r5
    have r3' := r3
    obtain ⟨bk, ck, rfl, hmk, hk⟩ := r3.form
    clear r3
    unfold maxLen at hmk
    have hnc : decide (l.length ≤ n) = false := by simp; omega
    go_enter Tryz.func52, Tryz.ntmps52
    go_wp2
    go_loopw [5, 22] (fun nx i wr => ∃ (k : Nat) (N : Int), i = .int .i64 k ∧ nx = .int .i64 N ∧ k ≤ x.kids.length ∧ pendF (f + 1) (l.map Nd.kids) (n : Int) = kidsE (pendF f (l.map Nd.kids)) (x.kids.drop k) N ∧ (n : Int) + 1 ≤ N ∧ N ≤ l.length ∧ Below (w.alloc (.cells #[.slice pt nt ct, .slice (some ⟨b, o, none⟩) l.length cap] 31)).heap.size (w.alloc (.cells #[.slice pt nt ct, .slice (some ⟨b, o, none⟩) l.length cap] 31)) wr) (fun _ i _ => x.kids.length - (intOf i).toNat)
    case atStart => exact ⟨0, (n : Int) + 1, rfl, rfl, Nat.zero_le _, by rw [HB.out]; rfl, Int.le_refl _, by omega, Below.refl _ _⟩
    case round =>
      obtain ⟨k, N, rfl, rfl, hkl, hE, hN1, hN2, hbel⟩ := hrel
      have HE := Lib.hid hE
      clear hE
      obtain ⟨hcl, hfr⟩ := bcell hbel
      have hsz := hbel.size
      simp at hsz
      have c0 : wr.cell? ⟨w.heap.size, 1, none⟩ = some (.slice (some ⟨b, o, none⟩) l.length cap) := by rw [hcl _ _ (by simp)]; simp
      have c00 : wr.cell? ⟨w.heap.size, 0, none⟩ = some (.slice pt nt ct) := by rw [hcl _ _ (by simp)]; simp
      have hK : Kept w wr := (Kept.alloc _ _).trans (Kept.of_below hbel)
      clear hcl hfr e0 e1 e2 e3
      by_cases hlt : k < x.kids.length
      · obtain ⟨b2, o2, rfl, hb2, hc2⟩ := hk (by omega)
        obtain ⟨g0, j0, j1⟩ := IntEl.st w wr b2 _ _ hK hb2 (hc2 k hlt)
        rw [Nat.mul_one] at g0
        have HNo := Lib.hid (kidsE_no (pendF f (l.map Nd.kids)) x.kids k hlt)
        have HNeg := Lib.hid (kidsE_neg (pendF f (l.map Nd.kids)) x.kids k hlt)
        have HSt := Lib.hid (kidsE_step (pendF f (l.map Nd.kids)) x.kids k hlt)
        clear hc2 hk
        generalize x.kids[k] = y at *
        by_cases hy : y = N
        · subst hy
          have hyy : (y != y) = false := by simp
          go_wp2_with fail
          refine (ih l _ _ y _ ⟨_, _, _, rfl⟩ (hR0.kept NdEl.st hK) (by omega) (by omega) (by omega)).mono ?_
          rintro e w1 ⟨rfl, hb1⟩
          have hgt := pendF_gt f (l.map Nd.kids) y
          have hle := pendF_le f (l.map Nd.kids) y
          rw [List.length_map] at hle
          obtain ⟨G, hG⟩ : ∃ G, G = pendF f (l.map Nd.kids) y := ⟨_, rfl⟩
          rw [← hG] at hgt hle ⊢
          have HG := Lib.hid hG
          clear hG
          by_cases hneg : G < 0
          · go_wp2
            go_ret
            refine ⟨ret_int' ?_, (Joins.below_alloc1 w _).trans ((hbel.trans (hb1.mono (by simp; omega))).mono (by simp))⟩
            rw [HE.out, HNeg.out y rfl (by rw [← HG.out]; exact hneg)]
          · have hG0 : 0 ≤ G := by omega
            go_wp2
            go_roundw
            case rel => exact ⟨k + 1, G, by go_num, rfl, by omega, by rw [HE.out, HSt.out y rfl (by rw [← HG.out]; omega), HG.out], by omega, by omega, hbel.trans (hb1.mono (by simp; omega))⟩
            case measure => simp [intOf]; omega
        · have hyy : (y != N) = true := by simpa using hy
          have HY := Lib.hid hy
          clear hy
          go_wp2
          go_ret
          refine ⟨ret_int' ?_, (Joins.below_alloc1 w _).trans (hbel.mono (by simp))⟩
          rw [HE.out, HNo.out N HY.out]
      · obtain rfl : k = x.kids.length := by omega
        go_wp2
        go_ret
        refine ⟨ret_int' ?_, (Joins.below_alloc1 w _).trans (hbel.mono (by simp))⟩
        rw [HE.out, List.drop_length]; rfl

theorem sPrim (s : ByteArray) (w : World) :
    Calls Tryz.prog 118 #[.string s] w fun e w' => e = .returned (.bool (primB s)) ∧ Below w.heap.size w w' := by
  go_enter Tryz.func118, Tryz.ntmps118
  go_wp2
  go_loop [7] (fun i => ∃ k : Nat, k ≤ 10 ∧ i = .int .i64 k ∧ (prims.take k).any (fun x => s.toList == x) = false) (fun i => 10 - (intOf i).toNat)
  case atStart => exact ⟨0, Nat.zero_le _, rfl, rfl⟩
  case round =>
    obtain ⟨k, hk, rfl, hno⟩ := hrel
    have HN := Lib.hid hno
    clear hno
    by_cases hlt : k < 10
    · have hc : k = 0 ∨ k = 1 ∨ k = 2 ∨ k = 3 ∨ k = 4 ∨ k = 5 ∨ k = 6 ∨ k = 7 ∨ k = 8 ∨ k = 9 := by omega
      clear hlt hk
      rcases hc with rfl | rfl | rfl | rfl | rfl | rfl | rfl | rfl | rfl | rfl
      all_goals
        go_wp2
        · have hx := ‹(s.toList == _) = true›
          go_ret
          exact ⟨ret_bool (prim_yes s _ (by decide) hx), (Below.refl _ _).alloc (Nat.le_refl _) _⟩
        · go_round
          case rel => exact ⟨_ + 1, by omega, by go_num, prim_step s _ _ rfl HN.out ‹_›⟩
          case measure => simp [intOf]
    · obtain rfl : k = 10 := by omega
      go_wp2
      go_ret
      exact ⟨ret_bool (by rw [primB]; exact HN.out.symm), (Below.refl _ _).alloc (Nat.le_refl _) _⟩
theorem sKids (k : Int) (w : World) : Calls Tryz.prog 121 #[.int .i64 k] w fun e w' => e = .returned (.int .i64 (kidsN k)) ∧ w = w' := by
  go_enter Tryz.func121, Tryz.ntmps121
  go_wp2
  all_goals
    go_ret
    refine ⟨ret_int' ?_, rfl⟩
    simp_all [kidsN]
end Go.Proofs.YtbehcmogndpkhaaGreatDoor
