/- Two boxes in one memory. -/
import Derived.Test.YtgpplekabohneaaWd
import Derived.Test.YtgpplekabohneaaZa
namespace Go.Proofs.Ytgpplekabohneaa
open Go.RowKit

/-- two boxes in one memory -/
structure Two (w W : World) (F1 F2 : Nat → Prop) (b1 b2 : Nat) (B1 B2 : List (Int × Tn)) : Prop where
  st1 : St w W F1 b1 B1
  st2 : St w W F2 b2 B2
  dis : ∀ k, F1 k → ¬ F2 k

theorem St.lt {w0 W : World} {F : Nat → Prop} {b : Nat} {B : List (Int × Tn)} (h : St w0 W F b B) : ∀ k, F k → k < W.heap.size := by
  obtain ⟨_, _, _, _, _, h4⟩ := h.box
  exact h4

theorem Two.new {w W w' : World} {F1 F2 : Nat → Prop} {b1 b2 : Nat} {B1 B2 : List (Int × Tn)} (h : Two w W F1 F2 b1 b2 B1 B2) (hb : Below W.heap.size W w') : Two w w' F1 F2 b1 b2 B1 B2 :=
  ⟨h.st1.new hb, h.st2.new hb, h.dis⟩

theorem Two.swap {w W : World} {F1 F2 : Nat → Prop} {b1 b2 : Nat} {B1 B2 : List (Int × Tn)} (h : Two w W F1 F2 b1 b2 B1 B2) : Two w W F2 F1 b2 b1 B2 B1 :=
  ⟨h.st2, h.st1, fun k h2 h1 => h.dis k h1 h2⟩

theorem Two.left {w W w' : World} {F1 F2 : Nat → Prop} {b1 b2 : Nat} {B1 B2 B1' : List (Int × Tn)} (h : Two w W F1 F2 b1 b2 B1 B2) (h1 : St w w' (grow F1 W w') b1 B1') (hF : Fr F1 W w') : Two w w' (grow F1 W w') F2 b1 b2 B1' B2 := by
  refine ⟨h1, ⟨h.st2.box.keep hF (fun k h2 h1 => h.dis k h1 h2), h.st2.base, h.st2.fr.trans' hF (fun k hk _ => h.st1.base k hk)⟩, ?_⟩
  rintro k (hk | hk) h2
  · exact h.dis k hk h2
  · have := h.st2.lt k h2
    omega

theorem Two.right {w W w' : World} {F1 F2 : Nat → Prop} {b1 b2 : Nat} {B1 B2 B2' : List (Int × Tn)} (h : Two w W F1 F2 b1 b2 B1 B2) (h2 : St w w' (grow F2 W w') b2 B2') (hF : Fr F2 W w') : Two w w' F1 (grow F2 W w') b1 b2 B1 B2' :=
  (h.swap.left h2 hF).swap

end Go.Proofs.Ytgpplekabohneaa
