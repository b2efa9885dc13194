/- A region that draws its order, walked step by step: what may come up and yields under S is taken first, the frame laid out anew behind each take. -/
import Derived.WalkKit
import Derived.Deep.RegionHeld
import Derived.KernelRfl
namespace Go.Proofs.YtdhpmblhejcehaaDoor
set_option linter.unusedVariables false
open Go.RowKit

/-- Which of n operations have come up. -/
def msk (n : Nat) (ts : List Nat) : Array Bool := ((List.range n).map fun i => ts.contains i).toArray
theorem region_begin {P : Program} {ops : Array Oper} {Q : Exit → Act → World → Prop} {S : World → Prop} {id n : Nat} {a : Act} {w : World} (hm : P.follows .mixedOrders = true) (hn : ops.size = n)
    (hl : Array.replicate n false = msk n []) (hS : S w.drew) (h : S w.drew → wpAnyH P .any ops Q S n (msk n []) a w.drew) : (Code.region id ops true).wp P Q a w := by
  subst hn
  exact wp_region_held_drew hm hS (fun hs => by rw [hl]; exact h hs)
theorem take_next {P : Program} {md : Region.Mode} {ops : Array Oper} {Q : Exit → Act → World → Prop} {S : World → Prop} {i n d : Nat} {oi : Oper} {v : Value} {fuel : Nat} (ts : List Nat) {ts' : List Nat} {a a' : Act} {w : World} (hi : ops[i]? = some oi)
    (hs : Region.noSelect ops = true) (hf : Region.free md ops (msk n ts) i = true) (hr : (Region.ready md ops (msk n ts)).contains i = true)
    (hQ : ∀ c a w, Q (.panic c) (a.put oi.dst v) w → Q (.panic c) a w) (hy : YieldsIf P ops S oi v a) (hS : S w)
    (hl : (msk n ts).setIfInBounds i true = msk n ts') (hd : oi.dst = some d) (ha : a.put (some d) v = a')
    (h : wpAnyH P md ops Q S fuel (msk n ts') a' w) : wpAnyH P md ops Q S (fuel + 1) (msk n ts) a w := by
  subst ha
  rw [← hd] at h
  exact wpAnyH_take hi hs hf hr hQ hy hS (by rw [hl]; exact h)
theorem mask_is {P : Program} {md : Region.Mode} {ops : Array Oper} {Q : Exit → Act → World → Prop} {S : World → Prop} {n fuel : Nat} {up : Array Bool} {a : Act} {w : World} (ts' : List Nat) (hl : up = msk n ts')
    (h : wpAnyH P md ops Q S fuel (msk n ts') a w) : wpAnyH P md ops Q S fuel up a w := hl ▸ h
end Go.Proofs.YtdhpmblhejcehaaDoor
