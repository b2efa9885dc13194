/- Texts of this proof, merged: Quote, Cat, PrI, PrW, PrK, RegionOwn, PrV, PrU. -/
import Derived.Test.YtaibgnfjjbncpaaGreatRows
import Derived.Test.YtaibgnfjjbncpaaGreatM9
import Derived.WalkKit
import Derived.ProofKit
import Derived.OpenShut
import Derived.Shelf.RegionOpenPlain
import Derived.Lib.Join
import Derived.Lib.Hide
import Derived.Test.YtaibgnfjjbncpaaGreatM4
import Derived.Test.YtaibgnfjjbncpaaGreatM7
import Derived.WalkSmall
import Derived.Lib.SmallJoins
import Derived.StillTailTactics
import Derived.Shelf.Abstract
import Derived.Laws.EntriesVeiled
import Derived.Deep.RegionLaw
namespace Go.Proofs.YtaibgnfjjbncpaaGreat
set_option linter.unusedVariables false
open Go.ChangeShapes Go.WideShapes Go.ChangeAt Go.RowKit

theorem info_u8 : (Tryz.prog.info? 5).map (fun i => (i.zero, i.size, i.bytes)) = some (some (.int .u8 0), 1, 1) := by kernel_rfl

theorem l01Hex (d : Int) (w : World) (h : 0 ≤ d ∧ d < 16) :
    Calls Tryz.prog 97 #[.int .i64 d] w fun e w' => e = .returned (.int .u8 (hexI d)) ∧ w = w' := by
  have hc : d = 0 ∨ d = 1 ∨ d = 2 ∨ d = 3 ∨ d = 4 ∨ d = 5 ∨ d = 6 ∨ d = 7 ∨ d = 8 ∨ d = 9 ∨ d = 10 ∨ d = 11 ∨ d = 12 ∨ d = 13 ∨ d = 14 ∨ d = 15 := by omega
  rcases hc with rfl | rfl | rfl | rfl | rfl | rfl | rfl | rfl | rfl | rfl | rfl | rfl | rfl | rfl | rfl | rfl
  all_goals
    go_enter Tryz.func97, Tryz.ntmps97
    go_wp2
    go_ret
    exact ⟨rfl, rfl⟩

theorem byte_bd' (c : UInt8) : 0 ≤ (c.toNat : Int) ∧ (c.toNat : Int) ≤ 255 := by have := c.toNat_lt; omega
theorem own_string {B n : Nat} {w : World} {v : Value} {xs : List Value} {l : List UInt8} (h : w.ownsRow B 5 1 v n xs) (hn : n = l.length) (h0 : 0 < n) (hx : xs = bc l) :
    ∃ g cap, v = .slice (some ⟨g, 0, none⟩) n cap ∧ (convert 133 9 (.slice (some ⟨g, 0, none⟩) n cap)).run Tryz.prog w = .ok (.string ⟨l.toArray⟩) w := by
  obtain ⟨g, cap, rfl, _, _, _, hc, _⟩ := own_shape h h0
  subst hn hx
  refine ⟨g, cap, rfl, run_convert_bytes_back w 133 9 5 ⟨g, 0, none⟩ cap l Tryz.underlying133 Tryz.underlying5 Tryz.underlying9 fun j hj => ?_⟩
  rw [add_zero_off, hc j hj, bc_get l j hj]
set_option maxRecDepth 100000 in
set_option maxHeartbeats 2000000 in
theorem sQuote (s : ByteArray) (w : World) (hs : s.size ≤ 1048576) :
    Calls Tryz.prog 61 #[.string s] w fun e w' => e = .returned (.string ⟨(quoteL s.data.toList).toArray⟩) ∧ Below w.heap.size w w' := by
  obtain ⟨i0, hi, hz0, hz1, hz2⟩ := info_parts info_u8
  go_enter Tryz.func61, Tryz.ntmps61
  go_wp2
  go_loopw [3, 4] (fun v i wr => ∃ k : Nat, k ≤ s.size ∧ i = .int .i64 k ∧ wr.ownsRow w.heap.size 5 1 v (qpre s k).length (bc (qpre s k)) ∧ Below w.heap.size w wr ∧ w.heap.size ≤ wr.heap.size)
    (fun _ i _ => s.size - (intOf i).toNat)
  case atStart => 
    refine ⟨0, Nat.zero_le _, rfl, ?_, (Below.refl _ _).alloc (Nat.le_refl _) _, by simp⟩
    exact World.ownsRow_lit w #[.int .u8 34] 1 (Nat.le_refl _) (by decide) rfl
  case round =>
    obtain ⟨k, hk, rfl, hown, hbel, hBs⟩ := hrel
    have hql := qpre_length s k hk
    by_cases hlt : k < s.size
    · have hq := Lib.hid (qpre_succ s k hlt)
      have hc := byte_bd' s[k]
      by_cases h10 : (s[k].toNat : Int) = 10
      · go_wp2_with (first
          | (at_builtin; refine wpList_append_own _ rfl (.tmp 18) (.tmp 19) 133 rfl w.heap.size 5 i0 (.int .u8 0) 1 1 Tryz.underlying133 hi hz0 hz1 hz2 rfl (by decide) _ (qpre s k).length (bc (qpre s k)) rfl (hown.alloc _) ⟨wr.heap.size, 0, none⟩ 2 2 [.int .u8 92, .int .u8 110] rfl rfl (new_cells _ _ _ _ rfl) (bc_one [92, 110]) (by unfold maxLen; omega) (by omega) (by simp; omega) ?_; intro v' w1 hown' hgrow _))
        have R := own_app hown hbel (Nat.le_refl _) hBs hgrow
        have O := own_bytes rfl rfl (l' := [92, 110]) rfl rfl hown'
        clear hown hown' hgrow hbel
        go_roundw
        case rel => exact ⟨k + 1, by omega, by go_num, by rw [hq.out, qb_ten _ h10]; exact O, R.1, R.2⟩
        case measure => simp [intOf]; omega
      by_cases h34 : (s[k].toNat : Int) = 34 ∨ (s[k].toNat : Int) = 92
      · have H34 := Lib.hid h34
        by_cases h34a : (s[k].toNat : Int) = 34
        all_goals
          first
          | (have t1 : ((s[k].toNat : Int) == 34) = true := by simpa using h34a
             have t1' := Lib.hid h34a
             clear h34a h34)
          | (have t1 : ((s[k].toNat : Int) == 92) = true := by simpa [h34a] using h34
             have t2 : ((s[k].toNat : Int) == 34) = false := by simpa using h34a
             clear h34a h34)
          go_wp2_with (first
            | (at_builtin; refine wpList_append_own _ rfl (.tmp 27) (.tmp 29) 133 rfl w.heap.size 5 i0 (.int .u8 0) 1 1 Tryz.underlying133 hi hz0 hz1 hz2 rfl (by decide) _ (qpre s k).length (bc (qpre s k)) rfl (hown.alloc _) ⟨wr.heap.size, 0, none⟩ 2 2 [.int .u8 92, .int .u8 (s[k].toNat : Int)] rfl rfl (new_cells _ _ _ _ rfl) (bc_one [92, s[k]]) (by unfold maxLen; omega) (by omega) (by simp; omega) ?_; intro v' w1 hown' hgrow _))
          have R := own_app hown hbel (Nat.le_refl _) hBs hgrow
          have O := own_bytes rfl rfl (l' := [92, s[k]]) rfl rfl hown'
          clear hown hown' hgrow hbel
          go_roundw
          case rel => exact ⟨k + 1, by omega, by go_num, by rw [hq.out, qb_esc _ h10 H34.out]; exact O, R.1, R.2⟩
          case measure => simp [intOf]; omega
      have n34 : ((s[k].toNat : Int) == 34) = false := by simpa using fun h => h34 (.inl h)
      have n92 : ((s[k].toNat : Int) == 92) = false := by simpa using fun h => h34 (.inr h)
      have H34 := Lib.hid h34
      clear h34
      by_cases h32 : 32 ≤ (s[k].toNat : Int) ∧ (s[k].toNat : Int) ≤ 126
      · have H32 := Lib.hid h32
        obtain ⟨h32a, h32b⟩ := h32
        go_wp2_with (first
          | (at_builtin; go_loud (refine wpList_append_own _ rfl (.tmp 37) (.tmp 39) 133 rfl w.heap.size 5 i0 (.int .u8 0) 1 1 Tryz.underlying133 hi hz0 hz1 hz2 rfl (by decide) _ (qpre s k).length (bc (qpre s k)) rfl (hown.alloc _) ⟨wr.heap.size, 0, none⟩ 1 1 [.int .u8 (s[k].toNat : Int)] rfl rfl (new_cells _ _ _ _ rfl) (bc_one [s[k]]) (by unfold maxLen; omega) (by omega) (by simp; omega) ?_); intro v' w1 hown' hgrow _))
        have R := own_app hown hbel (Nat.le_refl _) hBs hgrow
        have O := own_bytes rfl rfl (l' := [s[k]]) rfl rfl hown'
        clear hown hown' hgrow hbel
        go_roundw
        case rel => exact ⟨k + 1, by omega, by go_num, by rw [hq.out, qb_self _ h10 H34.out H32.out]; exact O, R.1, R.2⟩
        case measure => simp [intOf]; omega
      have H32 := Lib.hid h32
      by_cases h33 : 32 ≤ (s[k].toNat : Int)
      all_goals
        first | (have n126 : 126 < (s[k].toNat : Int) := by omega
                 clear h32) | clear h32
        go_wp2_with (first
          | (at_builtin; refine wpList_append_own _ rfl (.tmp 41) (.tmp 50) 133 rfl w.heap.size 5 i0 (.int .u8 0) 1 1 Tryz.underlying133 hi hz0 hz1 hz2 rfl (by decide) _ (qpre s k).length (bc (qpre s k)) rfl (hown.alloc _) ⟨wr.heap.size, 0, none⟩ 4 4 [Value.int .u8 92, .int .u8 120, .int .u8 (hexI ((s[k].toNat : Int) / 16)), .int .u8 (hexI ((s[k].toNat : Int) % 16))] rfl rfl (new_cells _ _ _ _ rfl) (by rw [bc_hex]; exact bc_one _) (by unfold maxLen; omega) (by omega) (by simp; omega) ?_; intro v' w1 hown' hgrow _)
          | (go_at_call 97; refine (l01Hex _ _ (by omega)).mono ?_; rintro e w' ⟨rfl, rfl⟩))
        have R := own_app hown hbel (Nat.le_refl _) hBs hgrow
        have O := own_bytes rfl rfl (l' := [92, 120, hexB (s[k].toNat / 16), hexB (s[k].toNat % 16)]) (bc_hex _) rfl hown'
        clear hown hown' hgrow hbel
        go_roundw
        case rel => exact ⟨k + 1, by omega, by go_num, by rw [hq.out, qb_hex _ h10 H34.out H32.out]; exact O, R.1, R.2⟩
        case measure => simp [intOf]; omega
    · obtain rfl : k = s.size := by omega
      have hq := Lib.hid (qpre_end s)
      go_wp2_with (first
        | (at_builtin; refine wpList_append_own _ rfl (.tmp 52) (.tmp 53) 133 rfl w.heap.size 5 i0 (.int .u8 0) 1 1 Tryz.underlying133 hi hz0 hz1 hz2 rfl (by decide) _ (qpre s s.size).length (bc (qpre s s.size)) rfl (hown.alloc _) ⟨wr.heap.size, 0, none⟩ 1 1 [.int .u8 34] rfl rfl (new_cells _ _ _ _ rfl) (bc_one [34]) (by unfold maxLen; omega) (by omega) (by simp; omega) ?_; intro v' w1 hown' hgrow _; obtain ⟨g, cap, rfl, hconv⟩ := own_string (l := qpre s s.size ++ [34]) hown' (by simp) (by simp) (by simp [bc])))
      have R := own_app hown hbel (Nat.le_refl _) hBs hgrow
      go_ret
      exact ⟨by rw [← hq.out]; rfl, R.1⟩
end Go.Proofs.YtaibgnfjjbncpaaGreat
namespace Go.Proofs.YtaibgnfjjbncpaaGreat
set_option linter.unusedVariables false
set_option maxRecDepth 100000
open Go.ChangeShapes Go.WideShapes Go.ChangeAt Go.RowKit

def cat (xs : List ByteArray) : List UInt8 := (xs.map (·.data.toList)).flatten
theorem join_nil (xs : List (List UInt8)) : Lib.join xs [] = xs.flatten := by
  induction xs with
  | nil => rfl
  | cons x r ih =>
    cases r with
    | nil => simp [Lib.join, List.intercalate]
    | cons y t => rw [Lib.join_cons, List.flatten_cons]; congr 1; simp [Lib.joinTail]

theorem strs_new (w : World) (C : Array Value) (T : TypeId) (xs : List ByteArray) (h : C.toList = xs.map Value.string) : ∀ (j : Nat) x, xs[j]? = some x → (w.alloc (.cells C T)).cell? ⟨w.heap.size, 0 + j, none⟩ = some (.string x) := by
  intro j x hj
  rw [Nat.zero_add, World.cell?_alloc_new, ← Array.getElem?_toList, h, List.getElem?_map, hj]; rfl

theorem strs_at (w : World) (n : Nat) (C : Array Value) (T : TypeId) (xs : List ByteArray) (hn : n = w.heap.size) (h : C.toList = xs.map Value.string) : ∀ (j : Nat) x, xs[j]? = some x → (w.alloc (.cells C T)).cell? ⟨n, 0 + j, none⟩ = some (.string x) := by
  subst hn; exact strs_new w C T xs h
end Go.Proofs.YtaibgnfjjbncpaaGreat
namespace Go.Proofs.YtaibgnfjjbncpaaGreat
set_option linter.unusedVariables false
set_option maxRecDepth 100000
open Go.ChangeShapes Go.WideShapes Go.ChangeAt Go.RowKit

/-- Texts as strings. -/
def strs (P : List (List UInt8)) : List ByteArray := P.map fun l => ⟨l.toArray⟩
theorem strs_length (P : List (List UInt8)) : (strs P).length = P.length := by simp [strs]
theorem cat_strs (P : List (List UInt8)) : cat (strs P) = P.flatten := by
  unfold cat strs
  rw [List.map_map]
  congr 1
  exact (List.map_congr_left fun x _ => rfl).trans (List.map_id P)
/-- A literal of texts. -/
theorem lit_strs {W : World} {C : Array Value} {T : TypeId} {xs : List ByteArray} {n m : Nat} (hn : n = W.heap.size) (h : C.toList = xs.map Value.string) (hm : m = xs.length) (hs : ∀ x ∈ xs, x.size ≤ maxLen) (hl : xs.length ≤ maxLen) :
    RowRd 1 StrEl (W.alloc (.cells C T)) (.slice (some ⟨n, 0, none⟩) m m) xs := by
  subst hm
  refine RowRd.mk hl (Nat.le_refl _) fun h0 => ⟨n, 0, rfl, by simp [hn], fun i hi => ⟨?_, hs _ (List.getElem_mem hi)⟩⟩
  have := strs_at W n C T xs hn h i xs[i] (List.getElem?_eq_getElem hi)
  rw [Nat.mul_one]
  exact this
theorem lit_own {W : World} {B : Nat} {C : Array Value} {xs : List ByteArray} {n m : Nat} (hn : n = W.heap.size) (hB : B ≤ W.heap.size) (h : C.toList = sc xs) (hm : m = xs.length) (hl : xs.length ≤ maxLen) :
    (W.alloc (.cells C 9)).ownsRow B 9 1 (.slice (some ⟨n, 0, none⟩) m m) xs.length (sc xs) := by
  subst hn hm
  have hs : C.size = xs.length := by rw [← Array.length_toList, h, sc_length]
  rw [← h]
  exact World.ownsRow_lit W C xs.length hB hl (by rw [hs, Nat.mul_one])
theorem own_rds {B e : Nat} {w : World} {v : Value} {l : List ByteArray} (h : w.ownsRow B e 1 v l.length (sc l)) (hm : l.length ≤ maxLen) (hI : ∀ x ∈ l, x.size ≤ maxLen) : RowRd 1 StrEl w v l := by
  by_cases h0 : 0 < l.length
  · obtain ⟨g, cap, rfl, h1, h2, h3, h4, _⟩ := own_shape h h0
    refine .inr ⟨g, 0, cap, rfl, ⟨hm, h3⟩, h2, h0, fun i hi => ?_⟩
    have := h4 i hi
    rw [Nat.mul_one, Nat.zero_add]
    exact ⟨by rw [this]; simp [sc, hi], hI _ (List.getElem_mem hi)⟩
  · obtain rfl : l = [] := List.eq_nil_of_length_eq_zero (by omega)
    obtain ⟨hx, ⟨rfl, _⟩ | ⟨g, cap, cur, rfl, _⟩⟩ := h
    · exact .inl ⟨rfl, _, _, rfl⟩
    · exact .inl ⟨rfl, _, _, rfl⟩
theorem rd_sizes {w : World} {v : Value} {l : List ByteArray} (h : RowRd 1 StrEl w v l) : l.length ≤ maxLen ∧ ∀ x ∈ l, x.size ≤ maxLen := by
  obtain ⟨a, cap, _, hm, hR⟩ := h.form
  refine ⟨hm, fun x hx => ?_⟩
  obtain ⟨i, hi, rfl⟩ := List.getElem_of_mem hx
  obtain ⟨b, o, _, _, hc⟩ := hR (by omega)
  exact (hc i hi).2
theorem sz_ok (t : List UInt8) (h : t.length ≤ 100) : (⟨t.toArray⟩ : ByteArray).size ≤ maxLen := by
  have e : (⟨t.toArray⟩ : ByteArray).size = t.length := by show t.toArray.size = _; simp
  rw [e]; unfold maxLen; omega
theorem all1 {a : ByteArray} (h : a.size ≤ maxLen) : ∀ x ∈ [a], x.size ≤ maxLen := by simpa using h
theorem all2 {a b : ByteArray} (h : a.size ≤ maxLen) (h2 : b.size ≤ maxLen) : ∀ x ∈ [a, b], x.size ≤ maxLen := by
  intro x hx
  rcases List.mem_cons.1 hx with rfl | hx
  · exact h
  · exact all1 h2 x hx
theorem all3 {a b c : ByteArray} (h : a.size ≤ maxLen) (h2 : b.size ≤ maxLen) (h3 : c.size ≤ maxLen) : ∀ x ∈ [a, b, c], x.size ≤ maxLen := by
  intro x hx
  rcases List.mem_cons.1 hx with rfl | hx
  · exact h
  · exact all2 h2 h3 x hx
theorem enc_small (m : Nat) (h : m ≤ 25) : Utf8.encode (97 + (m : Int)) = ⟨#[97 + UInt8.ofNat m]⟩ := by
  have : ∀ k : Fin 26, Utf8.encode (97 + (k.val : Int)) = ⟨#[97 + UInt8.ofNat k.val]⟩ := by decide
  exact this ⟨m, by omega⟩
end Go.Proofs.YtaibgnfjjbncpaaGreat
namespace Go.Proofs.YtaibgnfjjbncpaaGreat
set_option linter.unusedVariables false
set_option maxRecDepth 100000
open Go.ChangeShapes Go.WideShapes Go.ChangeAt Go.RowKit

theorem info_strs : (Tryz.prog.info? 70).map (fun i => (i.zero, i.size, i.bytes)) = some (some (.slice none 0 0), 1, 24) := by kernel_rfl
theorem itemT_ok {x : TyI} (hx : itemB x = true) : ((itemT varL x).length : Int) = x.arity + 1 ∧ (itemT varL x).length ≤ 3 ∧ ∀ t ∈ itemT varL x, t.length ≤ 40 := by
  have hn := item_name hx
  have hv := item_var hx
  by_cases hn0 : x.name.toList = []
  · have := varL_len x.var (hv hn0).1 (hv hn0).2.1
    have := (hv hn0).2.2
    rw [itemT, if_pos hn0]
    simp; omega
  · rcases item_arity hx with h | h | h
    · rw [itemT, if_neg hn0, if_pos h]; simp; omega
    · rw [itemT, if_neg hn0, if_neg (by omega), if_pos h]; simp; omega
    · rw [itemT, if_neg hn0, if_neg (by omega), if_neg (by omega)]
      split <;> simp <;> omega
theorem own_down {B B2 e m n : Nat} {w : World} {v : Value} {xs : List Value} (h : w.ownsRow B e m v n xs) (hB : B2 ≤ B) : w.ownsRow B2 e m v n xs := by
  obtain ⟨h0, h1 | ⟨g, cap, cur, rfl, h1, h2⟩⟩ := h
  · exact ⟨h0, .inl h1⟩
  · exact ⟨h0, .inr ⟨g, cap, cur, rfl, Nat.le_trans hB h1, h2⟩⟩
theorem own_two' {w : World} {B e B2 e2 n m n2 m2 : Nat} {v v2 : Value} {xs xs2 : List Value} (h : w.ownsRow B e m v n xs) (h2 : w.ownsRow B2 e2 m2 v2 n2 xs2) (he : e ≠ e2) : v.ownBlock = none ∨ v.ownBlock ≠ v2.ownBlock := by
  obtain ⟨_, ⟨rfl, _⟩ | ⟨g', cap, cur, rfl, _, h3, _⟩⟩ := h
  · exact .inl rfl
  · right
    intro hg
    obtain ⟨_, ⟨rfl, _⟩ | ⟨g2, cap2, cur2, rfl, _, h4, _⟩⟩ := h2
    · cases hg
    · cases hg
      rw [h3] at h4
      injection h4 with h4
      injection h4 with _ h5
      exact he h5
/-- A row of rows of strings, read. -/
theorem own_rows {B e : Nat} {w : World} {v : Value} {us : List Value} {T : List (List ByteArray)} (h : w.ownsRow B e 1 v us.length us) (hl : us.length = T.length) (hm : T.length ≤ maxLen)
    (hin : ∀ j (h : j < us.length) (h2 : j < T.length), RowRd 1 StrEl w us[j] T[j]) : RowRd 1 (RowEl 1 StrEl) w v T := by
  by_cases h0 : 0 < us.length
  · obtain ⟨g, cap, rfl, h1, h2, h3, h4, _⟩ := own_shape h h0
    rw [hl] at h3 h4 ⊢
    refine .inr ⟨g, 0, cap, rfl, ⟨hm, h3⟩, h2, by omega, fun i hi => ?_⟩
    have := h4 i hi
    rw [Nat.mul_one, Nat.zero_add]
    exact ⟨us[i]'(by omega), by rw [this]; simp [hl, hi], hin i (by omega) hi⟩
  · obtain rfl : T = [] := List.eq_nil_of_length_eq_zero (by omega)
    have hz : us.length = 0 := by omega
    rw [hz] at h
    obtain ⟨hx, ⟨rfl, _⟩ | ⟨g, cap, cur, rfl, _⟩⟩ := h
    · exact .inl ⟨rfl, _, _, rfl⟩
    · exact .inl ⟨rfl, _, _, rfl⟩
end Go.Proofs.YtaibgnfjjbncpaaGreat
namespace Go.Proofs.YtaibgnfjjbncpaaGreat
set_option linter.unusedVariables false
set_option maxRecDepth 100000
open Go.ChangeShapes Go.WideShapes Go.ChangeAt Go.RowKit

theorem iter_len {σ : Type} (L : σ → Nat) (g : σ → Int → Int × σ) (V : σ → Nat → Int → Bool × σ) (hg : ∀ s n q, 0 ≤ n → (L s : Int) ≤ 2 * n + q → 0 ≤ (g s n).1 → (L (g s n).2 : Int) + 1 ≤ 2 * (g s n).1 + q) (hL : ∀ s d n, L (V s d n).2 ≤ L s + 1) :
    ∀ t d (n : Int) s (q : Int), 0 ≤ n → (L s : Int) + 1 ≤ 2 * n + q → 0 ≤ (iterS g V t d n s).1 → (L (iterS g V t d n s).2 : Int) + 1 ≤ 2 * (iterS g V t d n s).1 + q := by
  intro t
  induction t with
  | zero => intro d n s q h0 h h1; exact h
  | succ t ih =>
    intro d n s q h0 h h1
    rw [iterS] at h1 ⊢
    by_cases hn : (g s n).1 < 0
    · rw [if_pos hn] at h1; simp at h1
    · rw [if_neg hn] at h1 ⊢
      by_cases hv : (V (g s n).2 (d + 1) (g s n).1).1 = true
      · rw [if_pos hv] at h1 ⊢
        have h2 := hg s n (q - 1) h0 (by omega) (by omega)
        have h3 := hL (g s n).2 (d + 1) (g s n).1
        exact ih _ _ _ q (by omega) (by omega) h1
      · rw [if_neg hv] at h1; simp at h1
theorem walk_len {σ : Type} (L : σ → Nat) (V : σ → Nat → Nat → Int → Bool × σ) (hL : ∀ s a d n, L (V s a d n).2 ≤ L s + 1) (cs : List Int) :
    ∀ f s (a : Int) (q : Int), 0 ≤ a → (L s : Int) ≤ 2 * a + q → 0 ≤ (walkS V cs f s a).1 → (L (walkS V cs f s a).2 : Int) + 1 ≤ 2 * (walkS V cs f s a).1 + q := by
  intro f
  induction f with
  | zero => intro s a q h0 h h1; simp [walkS] at h1
  | succ f ih =>
    intro s a q h0 h h1
    by_cases hl : (cs.length : Int) ≤ a
    · rw [walkS_out _ _ _ _ _ hl] at h1; simp at h1
    · obtain ⟨n, rfl⟩ : ∃ n : Nat, a = n := ⟨a.toNat, by omega⟩
      rw [walkS_in _ _ _ _ _ (by omega)] at h1 ⊢
      by_cases hb : (V s n 0 ((n : Int) + 1)).1 = true
      · rw [if_pos hb] at h1 ⊢
        have h3 := hL s n 0 ((n : Int) + 1)
        exact iter_len L _ _ ih (fun s d m => hL s n d m) _ _ _ _ q (by omega) (by omega) h1
      · rw [if_neg hb] at h1; simp at h1
theorem iWalkB {σ : Type} (L : σ → Nat) (V : σ → Nat → Nat → Int → Bool × σ) (J : σ → World → Prop) (g : Nat) (lb : Array Value) (eg : ∀ args w, (callFunc g args).run Tryz.prog w = .ok (.enter g args) w) (cs : List Int) (v : Value) (hl : cs.length ≤ 1048576)
    (hL : ∀ s a d n, L (V s a d n).2 ≤ L s + 1)
    (hJ : ∀ s W, J s W → RowRd 1 IntEl W v cs)
    (hV : ∀ s W (a d : Nat) (n : Int) (h : a < cs.length), J s W → d ≤ cs[a].toNat → 0 ≤ n → n ≤ cs.length → (L s : Int) ≤ 2 * cs.length → Calls Tryz.prog g (#[.int .i64 a, .int .i64 d, .int .i64 n] ++ lb) W fun e w' => e = .returned (.bool (V s a d n).1) ∧ J (V s a d n).2 w') :
    ∀ (f : Nat) (s : σ) (a : Nat) (w : World) (q : Int) (hs : J s w) (ha : a ≤ cs.length) (hf : cs.length < a + f) (hq : q ≤ 0) (hLs : (L s : Int) ≤ 2 * a + q),
      Calls Tryz.prog 80 #[v, .int .i64 a, .func (.func g) #[] lb] w fun e w' => e = .returned (.int .i64 (walkS V cs f s a).1) ∧ J (walkS V cs f s a).2 w' := by
  intro f
  induction f with
  | zero => intro s a w q hs ha hf hq hLs; omega
  | succ f ih =>
    intro s a w q hs ha hf hq hLs
    have HL0 := Lib.hid hL
    have HLs := Lib.hid hLs
    have HQ := Lib.hid hq
    obtain ⟨p, cap, rfl, hm, hR⟩ := (hJ s w hs).form
    by_cases hlt : a < cs.length
    · obtain ⟨bp, op, rfl, _, hcs⟩ := hR (by omega)
      have hci := (hcs a hlt).2
      have HB := Lib.hid (walkS_in V cs f s a hlt)
      have hge : ¬ (cs.length : Int) ≤ (a : Int) := by omega
      have hv0 := hV s w a 0 ((a : Int) + 1) hlt hs (Nat.zero_le _) (by omega) (by omega) (by omega)
      obtain ⟨b, s1, hb⟩ : ∃ b s1, V s a 0 ((a : Int) + 1) = (b, s1) := ⟨_, _, rfl⟩
      have HL1 : Hid (L s1 ≤ L s + 1) := by have := hL s a 0 ((a : Int) + 1); rw [hb] at this; exact this
      clear hL hLs hq
      rw [hb] at hv0
      have HW := Lib.hid hb
      clear hb hR hcs
      cases b
      · go_enter Tryz.func80, Tryz.ntmps80
        go_wp2_with (go_at_fn g; refine hv0.mono ?_; rintro e w1 ⟨rfl, hj1⟩)
        go_ret
        rw [HB.out, HW.out]
        exact ⟨rfl, hj1⟩
      · have HF := Lib.hid (show walkS V cs (f + 1) s a = iterS (walkS V cs f) (fun s d n => V s a d n) cs[a].toNat 0 ((a : Int) + 1) s1 from by rw [HB.out, HW.out]; rfl)
        have hrd : ∀ W, J s1 W → W.cell? ⟨bp, op + a, none⟩ = some (.int .i64 cs[a]) := by
          intro W hj
          obtain ⟨p', cap', e1, _, h2⟩ := (hJ s1 W hj).form
          cases e1
          obtain ⟨b, o, e2, _, h3⟩ := h2 (by omega)
          cases e2
          have := (h3 a hlt).1
          rw [Nat.mul_one] at this
          exact this
        have HV := Lib.hid fun s W d n hj hd h0 h1 hb => hV s W a d n hlt hj hd h0 h1 hb
        clear HB HW
        generalize cs[a] = c at *
        obtain ⟨hc1, hc2⟩ := hci
        go_enter Tryz.func80, Tryz.ntmps80
        go_wp2_with (go_at_fn g; refine hv0.mono ?_; rintro e w1 ⟨rfl, hj1⟩; have hcell := hrd w1 hj1)
        go_loopw [7, 26] (fun nx i wr => ∃ (k m : Nat) (s' : σ), i = .int .i64 k ∧ nx = .int .i64 m ∧ k ≤ c.toNat ∧ a < m ∧ m ≤ cs.length ∧ J s' wr ∧ Hid ((L s' : Int) + 1 ≤ 2 * m + q) ∧ iterS (walkS V cs f) (fun s d n => V s a d n) (c.toNat - k) k m s' = iterS (walkS V cs f) (fun s d n => V s a d n) c.toNat 0 ((a : Int) + 1) s1) (fun _ i _ => c.toNat - (intOf i).toNat)
        case atStart => exact ⟨0, a + 1, s1, rfl, by go_num, Nat.zero_le _, by omega, by omega, hj1, Lib.hid (by have := HL1.out; have := HLs.out; omega), by simp⟩
        case round =>
          obtain ⟨k, m, s', rfl, rfl, hk, ham, hml, hj, hlm, hit⟩ := hrel
          have HI := Lib.hid hit
          clear hit hcell hrd hv0
          by_cases hlt2 : (k : Int) < c
          · have hg := walkS_gt V cs f s' (m : Int) (by omega)
            have ihc := ih s' m wr (q - 1) hj hml (by omega) (by have := HQ.out; omega) (by have := hlm.out; omega)
            have hwl := walk_len L V HL0.out cs f s' (m : Int) (q - 1) (by omega) (by have := hlm.out; omega)
            obtain ⟨r, s2, hr⟩ : ∃ r s2, walkS V cs f s' (m : Int) = (r, s2) := ⟨_, _, rfl⟩
            rw [hr] at ihc hg hwl
            simp only at ihc hg hwl
            have HW2 := Lib.hid hwl
            clear hwl
            obtain ⟨t, ht⟩ : ∃ t, c.toNat - k = t + 1 := ⟨c.toNat - k - 1, by omega⟩
            rw [ht] at HI
            have hkc : k + 1 ≤ c.toNat := by omega
            by_cases hneg : r < 0
            · have HN := Lib.hid (iterS_neg (V := fun s d n => V s a d n) (t := t) (d := k) hr hneg)
              have HR := Lib.hid hr
              clear hr
              go_wp2_with (go_at_call 80; refine ihc.mono ?_; rintro e w2 ⟨rfl, hj2⟩)
              go_ret
              rw [HF.out, ← HI.out, HN.out]
              exact ⟨rfl, hj2⟩
            · obtain ⟨n, rfl⟩ : ∃ n : Nat, r = n := ⟨r.toNat, by omega⟩
              have hv1 := fun W hj' => Lib.hid (HV.out s2 W (k + 1) (n : Int) hj' hkc (by omega) (by omega) (by have := HW2.out (by omega); have := HQ.out; omega))
              obtain ⟨b, s3, hb⟩ : ∃ b s3, V s2 a (k + 1) (n : Int) = (b, s3) := ⟨_, _, rfl⟩
              have HL3 : Hid (L s3 ≤ L s2 + 1) := by have := HL0.out s2 a (k + 1) (n : Int); rw [hb] at this; exact this
              rw [hb] at hv1
              have hnd : decide ((n : Int) < 0) = false := by simp
              cases b
              · have HN := Lib.hid (iterS_no (V := fun s d n => V s a d n) (t := t) (d := k) hr hneg hb)
                have HR := Lib.hid hr
                clear hr hb
                go_wp2_with (first
                  | (go_at_call 80; refine ihc.mono ?_; rintro e w2 ⟨rfl, hj2⟩; have hv2 := (hv1 w2 hj2).out)
                  | (go_at_fn g; refine hv2.mono ?_; rintro e w3 ⟨rfl, hj3⟩))
                go_ret
                rw [HF.out, ← HI.out, HN.out]
                exact ⟨rfl, hj3⟩
              · have HN := Lib.hid (iterS_yes (V := fun s d n => V s a d n) (t := t) (d := k) hr hneg hb)
                have HR := Lib.hid hr
                clear hr hb
                go_wp2_with (first
                  | (go_at_call 80; refine ihc.mono ?_; rintro e w2 ⟨rfl, hj2⟩; have hv2 := (hv1 w2 hj2).out)
                  | (go_at_fn g; refine hv2.mono ?_; rintro e w3 ⟨rfl, hj3⟩))
                go_roundw
                case rel => exact ⟨k + 1, n, s3, by go_num, rfl, by omega, by omega, by omega, hj3, Lib.hid (by have := HW2.out (by omega); have := HL3.out; omega), by rw [← HI.out, HN.out, show c.toNat - (k + 1) = t from by omega]⟩
                case measure => simp [intOf]; omega
          · go_wp2
            go_ret
            rw [HF.out, ← HI.out, show c.toNat - k = 0 from by omega]
            exact ⟨rfl, hj⟩
    · have HB := Lib.hid (walkS_out V cs (f + 1) s a (by omega))
      have hge : (cs.length : Int) ≤ (a : Int) := by omega
      clear hR
      go_enter Tryz.func80, Tryz.ntmps80
      go_wp2
      go_ret
      rw [HB.out]
      exact ⟨rfl, hs⟩
end Go.Proofs.YtaibgnfjjbncpaaGreat
namespace Go.Proofs.YtaibgnfjjbncpaaGreat
set_option linter.unusedVariables false
set_option maxRecDepth 100000
open Go.RowKit

theorem step_append_own {P : Program} {ops : Array Oper} {o : Oper} {a : Act} {w : World} {K : Act → World → Prop} {Q : Exit → Act → World → Prop} {E : Prop}
    (hg : o.guard = none) (s x : Operand) (t : TypeId) (ho : o.op = .call { callee := .builtin .append, args := #[s, x], argTypes := #[t, t] })
    (base : Nat) (e : TypeId) (i : TypeInfo) (z : Value) (size bytes : Nat) (ht : P.underlying t = some (.slice e)) (hi : P.info? e = some i) (hz : i.zero = some z)
    (hsize : i.size = size) (hby : i.bytes = bytes) (hzs : z.cells.size = size) (hsz : 0 < size)
    (v : Value) (n : Nat) (xs : List Value) (hs : a.eval s = v) (hown : w.ownsRow base e size v n xs)
    (ad : Addr) (m c : Nat) (news : List Value) (hx : a.eval x = .slice (some ad) m c) (hl : news.length = m * size) (hnews : ∀ j u, news[j]? = some u → w.cell? (ad.add j) = some u) (h1 : ∀ u ∈ news, u.oneCell' = true)
    (h63 : n + m ≤ maxLen) (hbytes : (n + m) * bytes ≤ 140737488355328) (hbase : base ≤ w.heap.size)
    (h : ∀ v' w', w'.ownsRow base e size v' (n + m) (xs ++ news) → w.grownBy w' v.ownBlock → (v' = .slice none 0 0 ↔ v = .slice none 0 0 ∧ m = 0) → K (a.put o.dst v') w') :
    if Region.wanted o (yielded ops a.tmps) = true then Oper.wp P o a w K Q else E := by
  have hw : Region.wanted o (yielded ops a.tmps) = true := by simp [Region.wanted, hg]
  rw [if_pos hw]
  exact wp_append_own w s x t ho base e i z size bytes ht hi hz hsize hby hzs hsz v n xs hs hown ad m c news hx hl hnews h1 h63 hbytes hbase h
end Go.Proofs.YtaibgnfjjbncpaaGreat
namespace Go.Proofs.YtaibgnfjjbncpaaGreat
set_option linter.unusedVariables false
set_option maxRecDepth 100000
open Go.ChangeShapes Go.WideShapes Go.ChangeAt Go.RowKit

theorem info_str' : (Tryz.prog.info? 9).map (fun i => (i.zero, i.size, i.bytes)) = some (some (.string ⟨#[]⟩), 1, 16) := by kernel_rfl
theorem pr_own_ne {w : World} {B e e2 n m g : Nat} {v : Value} {xs : List Value} {c : Array Value} {f : Nat × Nat} (h : w.ownsRow B e m v n xs) (h2 : w.heap[g]? = some (.cells c e2 f)) (he : e ≠ e2) : v.ownBlock ≠ some g := by
  intro hg
  obtain ⟨_, ⟨rfl, _⟩ | ⟨g', cap, cur, rfl, _, h3, _⟩⟩ := h
  · cases hg
  · cases hg
    rw [h2] at h3
    injection h3 with h3
    injection h3 with _ h4
    exact he h4.symm
theorem pr_own_set {w : World} {B e n m b o : Nat} {v u : Value} {xs : List Value} (h : w.ownsRow B e m v n xs) (hne : v.ownBlock ≠ some b) : (w.setCell ⟨b, o, none⟩ u).ownsRow B e m v n xs := by
  obtain ⟨h0, h1 | ⟨g, cap, cur, rfl, h1, h2, h3⟩⟩ := h
  · exact ⟨h0, .inl h1⟩
  · exact ⟨h0, .inr ⟨g, cap, cur, rfl, h1, by rw [Below.heap_setCell _ _ _ _ (fun e => hne (by show some g = some b; rw [e]))]; exact h2, h3⟩⟩
theorem pr_box_set {w : World} {b : Nat} {y u : Value} {T : TypeId} {f : Nat × Nat} (h : w.heap[b]? = some (.cells #[y] T f)) : (w.setCell ⟨b, 0, none⟩ u).heap[b]? = some (.cells #[u] T f) := by
  rw [Go.Sort.setCell_eq]
  simp [Go.Sort.mapBlock, Array.getElem?_modify, h, Go.Sort.onCells]
theorem pr_box_cell {w : World} {b : Nat} {y : Value} {T : TypeId} (h : w.heap[b]? = some (.cells #[y] T (0, 0))) : w.cell? ⟨b, 0, none⟩ = some y ∧ w.frozen? ⟨b, 0, none⟩ = false := by
  constructor
  · simp [World.cell?, h]
  · simp [World.frozen?, h]
theorem pr_own_lit0 {W : World} {base n sz : Nat} {e : TypeId} (hn : n = W.heap.size) (hb : base ≤ W.heap.size) : (W.alloc (.cells #[] e)).ownsRow base e sz (.slice (some ⟨n, 0, none⟩) 0 0) 0 [] := by
  subst hn; exact World.ownsRow_lit W #[] 0 hb (by decide) (by simp)
end Go.Proofs.YtaibgnfjjbncpaaGreat
namespace Go.Proofs.YtaibgnfjjbncpaaGreat
set_option linter.unusedVariables false
set_option maxRecDepth 100000
open Go.ChangeShapes Go.WideShapes Go.ChangeAt Go.RowKit

/-- The visitor that gathers, over rows of texts. -/
def vL (L : List (List (List UInt8))) (s : List (List UInt8)) (a d : Nat) (_ : Int) : Bool × List (List UInt8) := (true, s ++ [(L[a]?.getD [])[d]?.getD []])
theorem vL_vPr (vt : Int → List UInt8) (l : List TyI) : vL (l.map (itemT vt)) = vPr vt l := by
  funext s a d n
  unfold vL vPr
  rw [List.getElem?_map]
  cases l[a]? <;> simp
/-- What is gathered so far, in the world. -/
structure WI (B bp : Nat) (wb W : World) (S : List (List UInt8)) : Prop where
  ex : ∃ vp, W.heap[bp]? = some (.cells #[vp] 70 (0, 0)) ∧ W.ownsRow B 9 1 vp (strs S).length (sc (strs S))
  bel : Below B wb W
  sz : B ≤ W.heap.size
end Go.Proofs.YtaibgnfjjbncpaaGreat
