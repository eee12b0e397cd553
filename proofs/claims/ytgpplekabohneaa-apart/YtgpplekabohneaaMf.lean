/- Two boxes beside one another, of which one tenant is the same. -/
import Derived.Test.YtgpplekabohneaaMa
namespace Go.Proofs.Ytgpplekabohneaa
open Go.RowKit

theorem inF_none {T : Tn} {p : Pk} (h : (inF T p).2.2 ≠ 0) : (inF T p).2.1 = pk0 := by
  unfold inF at h ⊢
  split at h
  · rename_i e
    rw [if_pos e]
    split at h
    · rfl
    · split at h
      · exact absurd rfl h
      · rename_i e2
        rw [if_neg e2]
  · rename_i e
    rw [if_neg e]

theorem outW_none {T : Tn} {m : Mp} {p : Pk} (h : (outW T m p).2.2 ≠ 0) : (outW T m p).2.1 = pk0 := by
  unfold outW at h ⊢
  split at h
  · rename_i e
    rw [if_pos e]
    exact inF_none h
  · exact absurd rfl h

theorem outF_none {T : Tn} {p : Pk} (h : (outF T p).2.2 ≠ 0) : (outF T p).2.1 = pk0 := by
  unfold outF at h ⊢
  split at h
  · exact outW_none h
  · split at h
    · rename_i e
      rw [if_pos e]
    · rename_i e
      rw [if_neg e]
      split at h
      · rfl
      · exact outW_none h

theorem errOutF_none {T : Tn} {p : Pk} (h : (errOutF T p).2 ≠ 0) : (errOutF T p).1 = pk0 := by
  unfold errOutF at h ⊢
  split at h
  · rfl
  · split at h
    · exact absurd rfl h
    · rename_i e
      rw [if_neg e]

theorem errInF_none {T : Tn} {p : Pk} (h : (errInF T p).2 ≠ 0) : (errInF T p).1 = pk0 := by
  unfold errInF at h ⊢
  split at h
  · rename_i e
    rw [if_pos e]
    split at h
    · rfl
    · split at h
      · rename_i e1
        rw [if_pos e1]
        split at h
        · exact absurd rfl h
        · rename_i e2
          rw [if_neg e2]
      · rename_i e1
        rw [if_neg e1]
  · rename_i e
    rw [if_neg e]

/-- what has not passed is no packet -/
theorem passF_none {T : Tn} {p : Pk} (h : (passF T p).2.2 ≠ 0) : (passF T p).2.1 = pk0 := by
  unfold passF at h ⊢
  split at h
  · rename_i e
    rw [if_pos e]
    split at h
    · rename_i e1
      rw [if_pos e1]
      exact errOutF_none h
    · rename_i e1
      rw [if_neg e1]
      exact errInF_none h
  · rename_i e
    rw [if_neg e]
    split at h
    · rename_i e1
      rw [if_pos e1]
      exact outF_none h
    · rename_i e1
      rw [if_neg e1]
      exact inF_none h

/-- two boxes in one memory -/
structure Two (w W : World) (F1 F2 : Nat → Prop) (b1 b2 : Nat) (B1 B2 : List (Int × Tn)) : Prop where
  st1 : St w W F1 b1 B1
  st2 : St w W F2 b2 B2
  dis : ∀ k, F1 k → ¬ F2 k

theorem St.lt {w0 W : World} {F : Nat → Prop} {b : Nat} {B : List (Int × Tn)} (h : St w0 W F b B) : ∀ k, F k → k < W.heap.size := by
  obtain ⟨_, _, _, _, _, h4⟩ := h.box
  exact h4

theorem Two.new {w W w' : World} {F1 F2 : Nat → Prop} {b1 b2 : Nat} {B1 B2 : List (Int × Tn)} (h : Two w W F1 F2 b1 b2 B1 B2) (hb : Below W.heap.size W w') : Two w w' F1 F2 b1 b2 B1 B2 :=
  ⟨h.st1.new hb, h.st2.new hb, h.dis⟩

theorem Two.swap {w W : World} {F1 F2 : Nat → Prop} {b1 b2 : Nat} {B1 B2 : List (Int × Tn)} (h : Two w W F1 F2 b1 b2 B1 B2) : Two w W F2 F1 b2 b1 B2 B1 :=
  ⟨h.st2, h.st1, fun k h2 h1 => h.dis k h1 h2⟩

theorem Two.left {w W w' : World} {F1 F2 : Nat → Prop} {b1 b2 : Nat} {B1 B2 B1' : List (Int × Tn)} (h : Two w W F1 F2 b1 b2 B1 B2) (h1 : St w w' (grow F1 W w') b1 B1') (hF : Fr F1 W w') : Two w w' (grow F1 W w') F2 b1 b2 B1' B2 := by
  refine ⟨h1, ⟨h.st2.box.keep hF (fun k h2 h1 => h.dis k h1 h2), h.st2.base, h.st2.fr.trans' hF (fun k hk _ => h.st1.base k hk)⟩, ?_⟩
  rintro k (hk | hk) h2
  · exact h.dis k hk h2
  · have := h.st2.lt k h2
    omega

theorem Two.right {w W w' : World} {F1 F2 : Nat → Prop} {b1 b2 : Nat} {B1 B2 B2' : List (Int × Tn)} (h : Two w W F1 F2 b1 b2 B1 B2) (h2 : St w w' (grow F2 W w') b2 B2') (hF : Fr F2 W w') : Two w w' F1 (grow F2 W w') b1 b2 B1 B2' :=
  (h.swap.left h2 hF).swap

/-- .. of which tenant 'tag' is the same -/
structure TwoT (tag s : Int) (B1 B2 : List (Int × Tn)) (T : Tn) : Prop where
  i1 : InvB s B1
  i2 : InvB s B2
  f1 : B1.find? (isT tag) = some (tag, T)
  f2 : B2.find? (isT tag) = some (tag, T)

theorem TwoT.start (tag s : Int) (h1 : 1 ≤ tag) (h3 : tag ≤ 3) : ∃ T, TwoT tag s (boxB (99 + s)) (boxB (99 + s)) T := by
  obtain ⟨T, hf, _⟩ := (InvB.start s).find h1 h3
  exact ⟨T, InvB.start s, InvB.start s, hf, hf⟩

theorem TwoT.tick {tag s : Int} {B1 B2 : List (Int × Tn)} {T : Tn} (h : TwoT tag s B1 B2 T) (n : Int) : TwoT tag s (tickB n B1) (tickB n B2) (tickF n T) :=
  ⟨h.i1.tick n, h.i2.tick n, find_tickB h.f1, find_tickB h.f2⟩

/-- a packet of another tenant -/
theorem TwoT.other {tag s : Int} {B1 B2 : List (Int × Tn)} {T : Tn} (h : TwoT tag s B1 B2 T) {p : Pk} (hp : PktOk p) (hne : p.tag ≠ tag) :
    ∃ B1' q v, passB B1 p = (B1', q, v, 0) ∧ (v ≠ 0 → q = pk0) ∧ TwoT tag s B1' B2 T := by
  obtain ⟨U, hf, hU⟩ := h.i1.find hp.tag.1 hp.tag.2
  have hi := h.i1.pass hp.good hp.tag (fun _ => hp.da)
  rw [passB_eq hp.good hf] at hi ⊢
  exact ⟨_, _, _, rfl, passF_none, hi, h.i2, (find_putT_ne (fun e => hne e.symm) B1).trans h.f1, h.f2⟩

/-- a packet of its own -/
theorem TwoT.own {tag s : Int} {B1 B2 : List (Int × Tn)} {T : Tn} (h : TwoT tag s B1 B2 T) {p : Pk} (hp : PktOk p) (he : p.tag = tag) :
    ∃ B1' B2' T' q v, passB B1 p = (B1', q, v, 0) ∧ passB B2 p = (B2', q, v, 0) ∧ (v ≠ 0 → q = pk0) ∧ TwoT tag s B1' B2' T' := by
  subst he
  have hi1 := h.i1.pass hp.good hp.tag (fun _ => hp.da)
  have hi2 := h.i2.pass hp.good hp.tag (fun _ => hp.da)
  rw [passB_eq hp.good h.f1] at hi1 ⊢
  rw [passB_eq hp.good h.f2] at hi2 ⊢
  exact ⟨_, _, _, _, _, rfl, rfl, passF_none, hi1, hi2, find_putT h.f1, find_putT h.f2⟩

theorem pkEq_self (p : Pk) : pkEq p p = true := by
  unfold pkEq
  simp

end Go.Proofs.Ytgpplekabohneaa
