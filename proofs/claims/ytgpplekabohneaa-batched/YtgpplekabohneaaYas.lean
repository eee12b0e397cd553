/- Who owns what in company. · The machine of a batch: where each goroutine stands. · The starter: all packets sent, it closes the queues, waits, and comes back. -/
import Derived.Test.YtgpplekabohneaaYah
import Derived.Test.YtgpplekabohneaaYao
import Derived.Test.YtgpplekabohneaaYan
import Derived.Conc.CrowdComm
import Derived.Conc.Token
import Derived.Test.YtgpplekabohneaaYar
namespace Go.Proofs.Ytgpplekabohneaa.Co
open Go Go.Conc Go.ConcN

/-- Two owners have nothing in common. -/
structure Dj (U V : Own) : Prop where
  B : ∀ b, U.B b → ¬ V.B b ∧ ∀ o, ¬ V.C b o
  C : ∀ b o, U.C b o → ¬ V.B b ∧ ¬ V.C b o

theorem Dj.symm {U V : Own} (h : Dj U V) : Dj V U :=
  ⟨fun b hb => ⟨fun hu => (h.B b hu).1 hb, fun o hu => (h.C b o hu).1 hb⟩, fun b o hb => ⟨fun hu => (h.B b hu).2 o hb, fun hu => (h.C b o hu).2 hb⟩⟩

/-- What an owner may turn to: what it had, and blocks that have come since. -/
structure Grows (O O' : Own) (B B' : Nat) : Prop where
  B : ∀ b, O'.B b → O.B b ∨ (B ≤ b ∧ b < B')
  C : ∀ b o, O'.C b o → O.C b o

theorem Guar.grows {O O' : Own} {w w' : World} (g : Guar O O' w w') : Grows O O' w.heap.size w'.heap.size := ⟨g.own, g.ownC⟩
theorem Grows.refl (O : Own) (B B' : Nat) : Grows O O B B' := ⟨fun _ h => .inl h, fun _ _ h => h⟩

/-- Owners A, what each owns, who may touch a place, blocks that are nobody's. -/
structure Owners (Sh Shun : Loc → Prop) (A : Nat → Prop) (Ow : Nat → Own) (Fb : Nat → Prop) (own : Loc → Nat) (B : Nat) : Prop where
  own : ∀ i, A i → ∀ l, OwnL (Ow i) l → ¬ Sh l → own l = i
  nosh : ∀ i, A i → NoSh Shun (Ow i)
  dj : ∀ i j, A i → A j → i ≠ j → Dj (Ow i) (Ow j)
  lies : ∀ i, A i → (∀ b, (Ow i).B b → b < B) ∧ ∀ b o, (Ow i).C b o → b < B
  fb : ∀ b, Fb b → b < B ∧ ∀ i, A i → ¬ (Ow i).B b ∧ ∀ o, ¬ (Ow i).C b o
  x : ∀ i, A i → ∀ b, (Ow i).X b → Fb b
  slow : ∀ l, Shun l → l.low B

open Classical
/-- New blocks are whose step has made them. -/
def ownUp (own : Loc → Nat) (B i : Nat) [(l : Loc) → Decidable (l.low B)] : Loc → Nat := fun l => if l.low B then own l else i

theorem ownUp_low {own : Loc → Nat} {B i : Nat} {l : Loc} (h : l.low B) : ownUp own B i l = own l := by unfold ownUp; rw [if_pos h]
theorem ownUp_high {own : Loc → Nat} {B i : Nat} {l : Loc} (h : ¬ l.low B) : ownUp own B i l = i := by unfold ownUp; rw [if_neg h]
theorem ownUp_or {own : Loc → Nat} {B i : Nat} (l : Loc) : ownUp own B i l = own l ∨ ¬ l.low B := by
  rcases Classical.em (l.low B) with h | h
  · exact .inl (ownUp_low h)
  · exact .inr h

section
variable {Sh Shun : Loc → Prop} {A : Nat → Prop} {Ow : Nat → Own} {Fb : Nat → Prop} {own : Loc → Nat} {B B' : Nat}

theorem lowL {O : Own} (h : (∀ b, O.B b → b < B) ∧ ∀ b o, O.C b o → b < B) {l : Loc} (hl : OwnL O l) : l.low B := by
  cases l with
  | cell a => exact hl.elim (h.1 _) (h.2 _ _)
  | obj b => exact h.1 _ hl
  | _ => exact hl.elim

theorem Grows.old {O O' : Own} (g : Grows O O' B B') {l : Loc} (hl : OwnL O' l) (h : l.low B) : OwnL O l := by
  cases l with
  | cell a =>
    have hb : a.block < B := h
    rcases hl with x | x
    · exact .inl ((g.B _ x).resolve_right (by omega))
    · exact .inr (g.C _ _ x)
  | obj b =>
    have hb : b < B := h
    exact (g.B _ hl).resolve_right (by omega)
  | _ => exact hl.elim

theorem Owners.far (h : Owners Sh Shun A Ow Fb own B) {i j : Nat} (hi : A i) (hj : A j) (hne : j ≠ i) {w : World} (hB : w.heap.size = B) : Far (Ow j) (Ow i) w := by
  have d := h.dj j i hj hi hne
  have l := h.lies j hj
  subst hB
  exact ⟨fun b hb => ⟨l.1 b hb, d.B b hb⟩, fun b o hb => ⟨l.2 b o hb, d.C b o hb⟩, fun b hb => ⟨(h.fb b (h.x j hj b hb)).1, (h.fb b (h.x j hj b hb)).2 i hi⟩⟩

/-- A step of owner i's. -/
theorem Owners.step (h : Owners Sh Shun A Ow Fb own B) {i : Nat} (hi : A i) {O' : Own} (g : Grows (Ow i) O' B B') (hB : B ≤ B') (hx : ∀ b, O'.X b → Fb b) : Owners Sh Shun A (upd Ow i O') Fb (ownUp own B i) B' := by
  have g0 : ∀ j, A j → Grows (Ow j) (upd Ow i O' j) B B' := fun j _ => by
    by_cases hji : j = i
    · subst hji; rw [upd_same]; exact g
    · rw [upd_ne _ _ hji]; exact Grows.refl _ _ _
  have gne : ∀ j, j ≠ i → upd Ow i O' j = Ow j := fun j hj => upd_ne _ _ hj
  have key : ∀ j, A j → j ≠ i → ∀ b, Dj (Ow j) (Ow i) → ((Ow j).B b → ¬ O'.B b) ∧ (∀ o, (Ow j).C b o → ¬ O'.B b) := by
    intro j hj _ b hd
    have l := h.lies j hj
    exact ⟨fun hb x => (g.B b x).elim (hd.B b hb).1 (fun y => by have := l.1 b hb; omega), fun o hb x => (g.B b x).elim (hd.C b o hb).1 (fun y => by have := l.2 b o hb; omega)⟩
  have djx : ∀ j, A j → j ≠ i → Dj (Ow j) O' := fun j hj hne => by
    have hd := h.dj j i hj hi hne
    exact ⟨fun b hb => ⟨(key j hj hne b hd).1 hb, fun o x => (hd.B b hb).2 o (g.C b o x)⟩, fun b o hb => ⟨(key j hj hne b hd).2 o hb, fun x => (hd.C b o hb).2 (g.C b o x)⟩⟩
  refine ⟨fun j hj l hl hs => ?_, fun j hj l hl hs => ?_, fun j k hj hk hne => ?_, fun j hj => ?_, fun b hb => ⟨Nat.lt_of_lt_of_le (h.fb b hb).1 hB, fun j hj => ?_⟩, fun j hj b hb => ?_, fun l hl => Loc.low_mono hB (h.slow l hl)⟩
  · rcases Classical.em (l.low B) with hlow | hlow
    · rw [ownUp_low hlow]
      exact h.own j hj l ((g0 j hj).old hl hlow) hs
    · rw [ownUp_high hlow]
      by_cases hji : j = i
      · exact hji.symm
      · rw [gne j hji] at hl
        exact absurd (lowL (h.lies j hj) hl) hlow
  · exact h.nosh j hj l ((g0 j hj).old hl (h.slow l hs)) hs
  · by_cases hji : j = i
    · subst hji
      rw [upd_same, gne k (Ne.symm hne)]
      exact (djx k hk (Ne.symm hne)).symm
    · rw [gne j hji]
      by_cases hki : k = i
      · subst hki
        rw [upd_same]
        exact djx j hj hji
      · rw [gne k hki]
        exact h.dj j k hj hk hne
  · refine ⟨fun b hb => ((g0 j hj).B b hb).elim (fun x => Nat.lt_of_lt_of_le ((h.lies j hj).1 b x) hB) (fun x => x.2), fun b o hb => Nat.lt_of_lt_of_le ((h.lies j hj).2 b o ((g0 j hj).C b o hb)) hB⟩
  · obtain ⟨h1, h2⟩ := h.fb b hb
    exact ⟨fun x => ((g0 j hj).B b x).elim (h2 j hj).1 (fun y => by omega), fun o x => (h2 j hj).2 o ((g0 j hj).C b o x)⟩
  · by_cases hji : j = i
    · subst hji; rw [upd_same] at hb; exact hx b hb
    · rw [gne j hji] at hb; exact h.x j hj b hb

/-- The world has grown by nobody's doing. -/
theorem Owners.wide (h : Owners Sh Shun A Ow Fb own B) (hB : B ≤ B') : Owners Sh Shun A Ow Fb own B' :=
  ⟨h.own, h.nosh, h.dj, fun i hi => ⟨fun b hb => Nat.lt_of_lt_of_le ((h.lies i hi).1 b hb) hB, fun b o hb => Nat.lt_of_lt_of_le ((h.lies i hi).2 b o hb) hB⟩, fun b hb => ⟨Nat.lt_of_lt_of_le (h.fb b hb).1 hB, (h.fb b hb).2⟩, h.x, fun l hl => Loc.low_mono hB (h.slow l hl)⟩

/-- What a block's owner gives to a newcomer. -/
structure Splits (O O' Oc : Own) (c : Nat) : Prop where
  sB : ∀ b, O'.B b → O.B b
  sC : ∀ b o, O'.C b o → O.C b o
  cB : ∀ b, Oc.B b → O.B b
  cC : ∀ b o, Oc.C b o → O.C b o
  dj : Dj O' Oc
  n1 : ¬ O'.B c ∧ ∀ o, ¬ O'.C c o
  n2 : ¬ Oc.B c ∧ ∀ o, ¬ Oc.C c o
  x1 : ∀ b, ¬ O'.X b
  x2 : ∀ b, ¬ Oc.X b

theorem OwnL.mono {O O' : Own} (hB : ∀ b, O'.B b → O.B b) (hC : ∀ b o, O'.C b o → O.C b o) {l : Loc} (h : OwnL O' l) : OwnL O l := by
  cases l with
  | cell a => exact h.imp (hB _) (hC _ _)
  | obj b => exact hB _ h
  | _ => exact h.elim

/-- A go statement: owner 0 gives to owner m; its channel c is nobody's. -/
def ownGo (own : Loc → Nat) (m : Nat) (Oc : Own) [(l : Loc) → Decidable (OwnL Oc l)] : Loc → Nat := fun l => if OwnL Oc l then m else own l

theorem Owners.spawn (h : Owners Sh Shun A Ow Fb own B) {m c : Nat} (h0 : A 0) (hm : ¬ A m) {O' Oc : Own} (s : Splits (Ow 0) O' Oc c) (hc : (Ow 0).B c) (hsh : ∀ l, OwnL Oc l → ¬ Sh l) :
    Owners Sh Shun (fun i => A i ∨ i = m) (upd (upd Ow 0 O') m Oc) (fun b => Fb b ∨ b = c) (ownGo own m Oc) B ∧ (∀ l, ownGo own m Oc l = own l ∨ (own l = 0 ∧ ownGo own m Oc l = m)) := by
  have hm0 : m ≠ 0 := fun e => hm (e ▸ h0)
  have e0 : upd (upd Ow 0 O') m Oc 0 = O' := by rw [upd_ne _ _ (Ne.symm hm0), upd_same]
  have em : upd (upd Ow 0 O') m Oc m = Oc := upd_same _ _ _
  have ej : ∀ j, j ≠ 0 → j ≠ m → upd (upd Ow 0 O') m Oc j = Ow j := fun j h1 h2 => by rw [upd_ne _ _ h2, upd_ne _ _ h1]
  have sub0 : ∀ {l}, OwnL O' l → OwnL (Ow 0) l := fun hl => hl.mono s.sB s.sC
  have subm : ∀ {l}, OwnL Oc l → OwnL (Ow 0) l := fun hl => hl.mono s.cB s.cC
  have dj0 : ∀ j, A j → j ≠ 0 → Dj (Ow j) O' ∧ Dj (Ow j) Oc := fun j hj hne => by
    have hd := h.dj j 0 hj h0 hne
    exact ⟨⟨fun b hb => ⟨fun x => (hd.B b hb).1 (s.sB b x), fun o x => (hd.B b hb).2 o (s.sC b o x)⟩, fun b o hb => ⟨fun x => (hd.C b o hb).1 (s.sB b x), fun x => (hd.C b o hb).2 (s.sC b o x)⟩⟩,
      ⟨fun b hb => ⟨fun x => (hd.B b hb).1 (s.cB b x), fun o x => (hd.B b hb).2 o (s.cC b o x)⟩, fun b o hb => ⟨fun x => (hd.C b o hb).1 (s.cB b x), fun x => (hd.C b o hb).2 (s.cC b o x)⟩⟩⟩
  have nl : ∀ {U V : Own} {l}, Dj U V → OwnL U l → ¬ OwnL V l := by
    intro U V l hd h1 h2
    cases l with
    | cell a =>
      rcases h1 with x | x <;> rcases h2 with y | y
      · exact (hd.B _ x).1 y
      · exact (hd.B _ x).2 _ y
      · exact (hd.C _ _ x).1 y
      · exact (hd.C _ _ x).2 y
    | obj b => exact (hd.B _ h1).1 h2
    | _ => exact h1.elim
  have cases3 : ∀ j, (A j ∨ j = m) → (j = 0 ∨ j = m ∨ (A j ∧ j ≠ 0 ∧ j ≠ m)) := by
    intro j hj
    by_cases h1 : j = 0
    · exact .inl h1
    · by_cases h2 : j = m
      · exact .inr (.inl h2)
      · exact .inr (.inr ⟨hj.resolve_right h2, h1, h2⟩)
  refine ⟨⟨fun j hj l hl hs => ?_, fun j hj l hl hs => ?_, fun j k hj hk hne => ?_, fun j hj => ?_, fun b hb => ?_, fun j hj b hb => ?_, h.slow⟩, fun l => ?_⟩
  · unfold ownGo
    rcases cases3 j hj with rfl | rfl | ⟨hA, h1, h2⟩
    · rw [e0] at hl
      rw [if_neg (nl s.dj hl)]
      exact h.own _ h0 l (sub0 hl) hs
    · rw [em] at hl
      rw [if_pos hl]
    · rw [ej j h1 h2] at hl
      rw [if_neg (nl (dj0 j hA h1).2 hl)]
      exact h.own j hA l hl hs
  · rcases cases3 j hj with rfl | rfl | ⟨hA, h1, h2⟩
    · rw [e0] at hl; exact h.nosh _ h0 l (sub0 hl) hs
    · rw [em] at hl; exact h.nosh _ h0 l (subm hl) hs
    · rw [ej j h1 h2] at hl; exact h.nosh j hA l hl hs
  · rcases cases3 j hj with rfl | rfl | ⟨hA, h1, h2⟩
    · rw [e0]
      rcases cases3 k hk with rfl | rfl | ⟨kA, k1, k2⟩
      · exact absurd rfl hne
      · rw [em]; exact s.dj
      · rw [ej k k1 k2]; exact (dj0 k kA k1).1.symm
    · rw [em]
      rcases cases3 k hk with rfl | rfl | ⟨kA, k1, k2⟩
      · rw [e0]; exact s.dj.symm
      · exact absurd rfl hne
      · rw [ej k k1 k2]; exact (dj0 k kA k1).2.symm
    · rw [ej j h1 h2]
      rcases cases3 k hk with rfl | rfl | ⟨kA, k1, k2⟩
      · rw [e0]; exact (dj0 j hA h1).1
      · rw [em]; exact (dj0 j hA h1).2
      · rw [ej k k1 k2]; exact h.dj j k hA kA hne
  · have l0 := h.lies 0 h0
    rcases cases3 j hj with rfl | rfl | ⟨hA, h1, h2⟩
    · rw [e0]; exact ⟨fun b x => l0.1 b (s.sB b x), fun b o x => l0.2 b o (s.sC b o x)⟩
    · rw [em]; exact ⟨fun b x => l0.1 b (s.cB b x), fun b o x => l0.2 b o (s.cC b o x)⟩
    · rw [ej j h1 h2]; exact h.lies j hA
  · rcases hb with hb | rfl
    · obtain ⟨f1, f2⟩ := h.fb b hb
      refine ⟨f1, fun j hj => ?_⟩
      rcases cases3 j hj with rfl | rfl | ⟨hA, h1, h2⟩
      · rw [e0]; exact ⟨fun x => (f2 0 h0).1 (s.sB b x), fun o x => (f2 0 h0).2 o (s.sC b o x)⟩
      · rw [em]; exact ⟨fun x => (f2 0 h0).1 (s.cB b x), fun o x => (f2 0 h0).2 o (s.cC b o x)⟩
      · rw [ej j h1 h2]; exact f2 j hA
    · refine ⟨(h.lies 0 h0).1 b hc, fun j hj => ?_⟩
      rcases cases3 j hj with rfl | rfl | ⟨hA, h1, h2⟩
      · rw [e0]; exact s.n1
      · rw [em]; exact s.n2
      · rw [ej j h1 h2]
        have hd := h.dj 0 j h0 hA (Ne.symm h1)
        exact hd.B b hc
  · rcases cases3 j hj with rfl | rfl | ⟨hA, h1, h2⟩
    · rw [e0] at hb; exact absurd hb (s.x1 b)
    · rw [em] at hb; exact absurd hb (s.x2 b)
    · rw [ej j h1 h2] at hb; exact .inl (h.x j hA b hb)
  · unfold ownGo
    by_cases hl : OwnL Oc l
    · rw [if_pos hl]
      exact .inr ⟨h.own 0 h0 l (subm hl) (hsh l hl), rfl⟩
    · rw [if_neg hl]; exact .inl rfl

/-- Owner 0 lets a block go: it is nobody's. -/
theorem Owners.free (h : Owners Sh Shun A Ow Fb own B) (h0 : A 0) {b : Nat} (hb : (Ow 0).B b) (hc : ∀ o, ¬ (Ow 0).C b o) {O' : Own} (sB : ∀ x, O'.B x → (Ow 0).B x ∧ x ≠ b) (sC : ∀ x o, O'.C x o → (Ow 0).C x o) (hx : ∀ x, O'.X x → Fb x ∨ x = b) : Owners Sh Shun A (upd Ow 0 O') (fun x => Fb x ∨ x = b) own B := by
  have e0 : upd Ow 0 O' 0 = O' := upd_same _ _ _
  have ej : ∀ j, j ≠ 0 → upd Ow 0 O' j = Ow j := fun j h1 => upd_ne _ _ h1
  have sub0 : ∀ {l}, OwnL O' l → OwnL (Ow 0) l := fun hl => hl.mono (fun x hx => (sB x hx).1) sC
  have dj0 : ∀ j, A j → j ≠ 0 → Dj (Ow j) O' := fun j hj hne => by
    have hd := h.dj j 0 hj h0 hne
    exact ⟨fun b hb => ⟨fun x => (hd.B b hb).1 (sB b x).1, fun o x => (hd.B b hb).2 o (sC b o x)⟩, fun b o hb => ⟨fun x => (hd.C b o hb).1 (sB b x).1, fun x => (hd.C b o hb).2 (sC b o x)⟩⟩
  refine ⟨fun j hj l hl hs => ?_, fun j hj l hl hs => ?_, fun j k hj hk hne => ?_, fun j hj => ?_, fun x hx' => ?_, fun j hj x hx' => ?_, h.slow⟩
  · by_cases h1 : j = 0
    · subst h1; rw [e0] at hl; exact h.own _ h0 l (sub0 hl) hs
    · rw [ej j h1] at hl; exact h.own j hj l hl hs
  · by_cases h1 : j = 0
    · subst h1; rw [e0] at hl; exact h.nosh _ h0 l (sub0 hl) hs
    · rw [ej j h1] at hl; exact h.nosh j hj l hl hs
  · by_cases h1 : j = 0
    · subst h1; rw [e0, ej k (Ne.symm hne)]; exact (dj0 k hk (Ne.symm hne)).symm
    · rw [ej j h1]
      by_cases h2 : k = 0
      · subst h2; rw [e0]; exact dj0 j hj h1
      · rw [ej k h2]; exact h.dj j k hj hk hne
  · by_cases h1 : j = 0
    · subst h1; rw [e0]; exact ⟨fun x hx => (h.lies 0 h0).1 x (sB x hx).1, fun x o hx => (h.lies 0 h0).2 x o (sC x o hx)⟩
    · rw [ej j h1]; exact h.lies j hj
  · rcases hx' with hx' | rfl
    · obtain ⟨f1, f2⟩ := h.fb x hx'
      refine ⟨f1, fun j hj => ?_⟩
      by_cases h1 : j = 0
      · subst h1; rw [e0]; exact ⟨fun y => (f2 0 h0).1 (sB x y).1, fun o y => (f2 0 h0).2 o (sC x o y)⟩
      · rw [ej j h1]; exact f2 j hj
    · refine ⟨(h.lies 0 h0).1 x hb, fun j hj => ?_⟩
      by_cases h1 : j = 0
      · subst h1; rw [e0]; exact ⟨fun y => (sB x y).2 rfl, fun o y => hc o (sC x o y)⟩
      · rw [ej j h1]; exact (h.dj 0 j h0 hj (Ne.symm h1)).B x hb
  · by_cases h1 : j = 0
    · subst h1; rw [e0] at hx'; exact hx x hx'
    · rw [ej j h1] at hx'; exact .inl (h.x j hj x hx')

end

end Go.Proofs.Ytgpplekabohneaa.Co

namespace Go.Proofs.Ytgpplekabohneaa.Co
open Go Go.Conc Go.ConcN
open Go.ConcR (KK WgAt stA smA rd wr)

/-- What the starter does: it starts the next worker; it sends v to worker number k. -/
abbrev Cmd := Option (Nat × Value)
abbrev Cmd.go : Cmd := none
abbrev Cmd.send (k : Nat) (v : Value) : Cmd := some (k, v)
theorem Cmd.cs {motive : Cmd → Prop} (c : Cmd) (go : motive .go) (send : ∀ k v, motive (.send k v)) : motive c :=
  match c with
  | none => go
  | some (k, v) => send k v

def valsOf (k : Nat) : List Cmd → List Value
  | [] => []
  | none :: s => valsOf k s
  | some (j, v) :: s => if j = k then v :: valsOf k s else valsOf k s
def goes : List Cmd → Nat
  | [] => 0
  | none :: s => goes s + 1
  | some (_, _) :: s => goes s

/-- What a worker's step may list; what the starter's may. -/
def EvWk (Wg : Nat) (O : Own) (e : Event) : Prop := (∀ x, (MemAct.ofEvent e).touch? = some x → (ShN Wg x.loc ∧ x.kind ≠ .plain ∧ x.kind ≠ .said) ∨ OwnL O x.loc) ∧ e.loc ≠ .mark (.release (stA Wg))
def EvMn (Wg : Nat) (O : Own) (e : Event) : Prop := (∀ x, (MemAct.ofEvent e).touch? = some x → (ShN Wg x.loc ∧ x.kind ≠ .plain) ∨ (¬ ShN Wg x.loc ∧ OwnL O x.loc)) ∧ e.loc ≠ .mark (.release (stA Wg))
def EvQt (_ : Own) (e : Event) : Prop := e = Go.ConcR.mk .disable

def Own.free (O : Own) (Wg : Nat) : Own := ⟨fun b => O.B b ∧ b ≠ Wg, O.C, fun b => b = Wg⟩

/-- The zero that stands beside what is sent. -/
def zS : Value := .tuple #[]

section defs
variable (P : Program) (Wg : Nat) (z : Value)

/-- A worker at its receive, 'l' being still to come. -/
def RStop (Q : Own → World → Prop) (c : Nat) : List Value → Pos → Prop
  | [], x => x.d = 0 ∧ x.g.status = .running ∧ (∀ w₁, stepG P false x.g w₁ = .comm x.g #[rcase c z] true (.recv true) w₁ #[]) ∧
      (Live Wg x.w → Run P false (EvWk Wg) (RelS P EvQt Q Wg) ⟨⟨x.O.B, x.O.C, fun b => b = Wg⟩, 0, Conc.served x.g (recvd true z false), x.w⟩)
  | v :: l, x => x.d = 0 ∧ x.g.status = .running ∧ (∀ w₁, stepG P false x.g w₁ = .comm x.g #[rcase c z] true (.recv true) w₁ #[]) ∧
      Run P false (EvWk Wg) (RStop Q c l) ⟨x.O, 0, Conc.served x.g (recvd true v true), x.w⟩

/-- The starter at a channel that it closes; 'op': those that are open. -/
def CStop (N : Nat) (Next : Pos → Prop) : Nat → List Nat → Pos → Prop
  | 0, _, x => W1Stop P (EvMn Wg) 125 Wg Next N x
  | n + 1, op, x => x.d = 0 ∧ x.g.status = .running ∧ mayWake P x.g = true ∧ ∃ c ∈ op, ∃ g', g'.status = .running ∧
      (∀ w₁ s, w₁.heap[c]? = some (.chan 0 #[] false s s false) → stepG P true x.g w₁ = .go g' (w₁.setChan c 0 #[] true s s false) (closeEvents c)) ∧
      Run P true (EvMn Wg) (CStop N Next n (op.erase c)) ⟨x.O, 0, g', x.w⟩

/-- The starter at what it does next. -/
def MStop (Q : Nat → Own → World → Prop) (Next : Pos → Prop) : List Cmd → List Nat → Pos → Prop
  | [], chs, x => x.d = 0 ∧ x.g.status = .running ∧ x.O.B Wg ∧ (∀ o, ¬ x.O.C Wg o) ∧ WgAt 125 Wg x.w ((chs.length : Int) * KK) 0 ∧
      Run P true (EvMn Wg) (CStop P Wg chs.length Next chs.length chs) ⟨x.O.free Wg, 0, x.g, x.w⟩
  | none :: s, chs, x => x.d = 0 ∧ x.g.status = .running ∧ ∃ c g' child O' Oc, (∀ w₁, stepG P true x.g w₁ = .spawn g' child w₁ #[]) ∧ x.O.B c ∧ c ≠ Wg ∧ x.w.heap[c]? = some (.chan 0 #[] false 0 0 false) ∧ Splits x.O O' Oc c ∧
      ¬ Oc.B Wg ∧ (∀ o, ¬ Oc.C Wg o) ∧ Run P true (EvMn Wg) (MStop Q Next s (chs ++ [c])) ⟨O', 0, g', x.w⟩ ∧ Run P false (EvWk Wg) (RStop P Wg z (Q chs.length) c (valsOf chs.length s)) ⟨Oc, 0, child, x.w⟩
  | some (k, v) :: s, chs, x => x.d = 0 ∧ x.g.status = .running ∧ ∃ c, chs[k]? = some c ∧ (∀ w₁, stepG P true x.g w₁ = .comm x.g #[scase c v zS] true .send w₁ #[]) ∧
      Run P true (EvMn Wg) (MStop Q Next s chs) ⟨x.O, 0, Conc.served x.g undef, x.w⟩
end defs

theorem RStop.running {P : Program} {Wg : Nat} {z : Value} {Q : Own → World → Prop} {c : Nat} {l : List Value} {x : Pos} (h : RStop P Wg z Q c l x) : x.d = 0 ∧ x.g.status = .running ∧ ∀ w₁, stepG P false x.g w₁ = .comm x.g #[rcase c z] true (.recv true) w₁ #[] := by
  cases l with
  | nil => exact ⟨h.1, h.2.1, h.2.2.1⟩
  | cons v l => exact ⟨h.1, h.2.1, h.2.2.1⟩

theorem W1Stop.running {P : Program} {Ev : Own → Event → Prop} {ty : TypeId} {Wg : Nat} {Next : Pos → Prop} {N : Nat} {x : Pos} (h : W1Stop P Ev ty Wg Next N x) : x.g.status = .running := by
  cases N with
  | zero => exact h.2.1
  | succ N => exact h.2.1

theorem CStop.running {P : Program} {Wg N : Nat} {Next : Pos → Prop} {n : Nat} {op : List Nat} {x : Pos} (h : CStop P Wg N Next n op x) : x.g.status = .running := by
  cases n with
  | zero => exact W1Stop.running h
  | succ n => exact h.2.1

theorem MStop.running {P : Program} {Wg : Nat} {z : Value} {Q : Nat → Own → World → Prop} {Next : Pos → Prop} {s : List Cmd} {chs : List Nat} {x : Pos} (h : MStop P Wg z Q Next s chs x) : x.g.status = .running := by
  cases s with
  | nil => exact h.2.1
  | cons k s => cases k <;> exact h.2.1

/-! ### situations -/
def Same (g g0 : Goroutine) : Prop := g.frame = g0.frame ∧ g.callers = g0.callers ∧ g.dying = g0.dying
theorem Same.refl (g : Goroutine) : Same g g := ⟨rfl, rfl, rfl⟩
theorem Same.step {P : Program} {main : Bool} {g g0 : Goroutine} (h : Same g g0) (w : World) : stepG P main g w = stepG P main g0 w := stepG_same h.1 h.2.1 h.2.2 w

/-- It runs towards a stop. -/
def RunSit (P : Program) (main : Bool) (Ev : Own → Event → Prop) (Stop : Pos → Prop) (T : Tree) (O : Own) (d : Nat) (w : World) (g : Goroutine) : Prop :=
  g.status = .running ∧ ∃ g0, Same g g0 ∧ Fits P main Ev Stop T ⟨O, d, g0, w⟩

abbrev WK := Option (Option (Option (Option (Option (Option (List Value))))))
abbrev WK.recv (l : List Value) : WK := some (some (some (some (some (some l)))))
abbrev WK.fin : WK := none
abbrev WK.rel : WK := some none
abbrev WK.d2 : WK := some (some none)
abbrev WK.d3 : WK := some (some (some none))
abbrev WK.d4 : WK := some (some (some (some none)))
abbrev WK.quit : WK := some (some (some (some (some none))))
theorem WK.cs {motive : WK → Prop} (k : WK) (recv : ∀ l, motive (.recv l)) (fin : motive .fin) (rel : motive .rel) (d2 : motive .d2) (d3 : motive .d3) (d4 : motive .d4) (quit : motive .quit) : motive k :=
  match k with
  | some (some (some (some (some (some l))))) => recv l
  | none => fin
  | some none => rel
  | some (some none) => d2
  | some (some (some none)) => d3
  | some (some (some (some none))) => d4
  | some (some (some (some (some none)))) => quit

structure WD where
  k : WK
  T : Tree
  q : Nat
  r : Nat

abbrev MK := Option (Option (Option (List Cmd ⊕ (Nat × List Nat) ⊕ Nat ⊕ (Nat × Nat))))
abbrev MK.script (s : List Cmd) : MK := some (some (some (.inl s)))
abbrev MK.shut (n : Nat) (op : List Nat) : MK := some (some (some (.inr (.inl (n, op)))))
abbrev MK.w1 (N : Nat) : MK := some (some (some (.inr (.inr (.inl N)))))
abbrev MK.w2 (n N : Nat) : MK := some (some (some (.inr (.inr (.inr (n, N))))))
abbrev MK.w3 : MK := none
abbrev MK.w4 : MK := some none
abbrev MK.acq : MK := some (some none)
theorem MK.cs {motive : MK → Prop} (k : MK) (script : ∀ s, motive (.script s)) (shut : ∀ n op, motive (.shut n op)) (w1 : ∀ N, motive (.w1 N)) (w2 : ∀ n N, motive (.w2 n N)) (w3 : motive .w3) (w4 : motive .w4) (acq : motive .acq) : motive k :=
  match k with
  | some (some (some (.inl s))) => script s
  | some (some (some (.inr (.inl (n, op))))) => shut n op
  | some (some (some (.inr (.inr (.inl N))))) => w1 N
  | some (some (some (.inr (.inr (.inr (n, N)))))) => w2 n N
  | none => w3
  | some none => w4
  | some (some none) => acq

section defs
variable (P : Program) (Wg : Nat) (z : Value)

def WSit (Q : Own → World → Prop) (c : Nat) (D : WD) (O : Own) (d : Nat) (w : World) (g : Goroutine) : Prop :=
  match D.k with
  | some (some (some (some (some (some l))))) => RunSit P false (EvWk Wg) (RStop P Wg z Q c l) D.T O d w g ∨ (D.T = .leaf ∧ ∃ g0, Fits P false (EvWk Wg) (RStop P Wg z Q c l) .leaf ⟨O, d, g0, w⟩ ∧ g = parked g0 #[rcase c z] (.recv true))
  | none => RunSit P false (EvWk Wg) (RelS P EvQt Q Wg) D.T O d w g
  | some none => RunSit P false EvQt (D1S P EvQt Q Wg) D.T O d w g
  | some (some none) => RunSit P false EvQt (D2S P EvQt Q Wg) D.T O d w g
  | some (some (some none)) => RunSit P false EvQt (D3S P EvQt Q Wg) D.T O d w g
  | some (some (some (some none))) => RunSit P false EvQt (D4S P Q Wg) D.T O d w g
  | some (some (some (some (some none)))) => QuitsD P D.q d g ∧ Q O w

variable (Q : Nat → Own → World → Prop) (Next : Pos → Prop)
def MSit (chs : List Nat) (M : MK) (T : Tree) (O : Own) (d : Nat) (w : World) (g : Goroutine) : Prop :=
  match M with
  | some (some (some (.inl s))) => RunSit P true (EvMn Wg) (MStop P Wg z Q Next s chs) T O d w g ∨ (T = .leaf ∧ ∃ g0 k v s' c, s = .send k v :: s' ∧ chs[k]? = some c ∧ Fits P true (EvMn Wg) (MStop P Wg z Q Next s chs) .leaf ⟨O, d, g0, w⟩ ∧ g = parked g0 #[scase c v zS] .send)
  | some (some (some (.inr (.inl (n, op))))) => RunSit P true (EvMn Wg) (CStop P Wg chs.length Next n op) T O d w g
  | some (some (some (.inr (.inr (.inl N))))) => RunSit P true (EvMn Wg) (W1Stop P (EvMn Wg) 125 Wg Next N) T O d w g
  | some (some (some (.inr (.inr (.inr (n, N)))))) => RunSit P true (EvMn Wg) (W2Stop P (EvMn Wg) 125 Wg Next n (W1Stop P (EvMn Wg) 125 Wg Next N)) T O d w g
  | none => RunSit P true (EvMn Wg) (W3Stop P (EvMn Wg) 125 Wg Next) T O d w g ∨ (T = .leaf ∧ ∃ g0, Fits P true (EvMn Wg) (W3Stop P (EvMn Wg) 125 Wg Next) .leaf ⟨O, d, g0, w⟩ ∧ g = { g0 with status := .blocked })
  | some none => RunSit P true (EvMn Wg) (W4Stop P (EvMn Wg) 125 Wg Next) T O d w g
  | some (some none) => RunSit P true (EvMn Wg) (AcqStop P (EvMn Wg) Wg Next) T O d w g
end defs

section
variable {P : Program} {Wg : Nat} {z : Value}

theorem RunSit.rely {main : Bool} {Ev : Own → Event → Prop} {Stop : Pos → Prop} {T : Tree} {O : Own} {d : Nat} {w w₁ : World} {g : Goroutine} (h : RunSit P main Ev Stop T O d w g) (hr : Rely O w w₁) : RunSit P main Ev Stop T O d w₁ g := by
  obtain ⟨h1, g0, h2, h3⟩ := h
  exact ⟨h1, g0, h2, h3.rely hr⟩

theorem RunSit.woken {main : Bool} {Ev : Own → Event → Prop} {Stop : Pos → Prop} {T : Tree} {O : Own} {d : Nat} {w : World} {g : Goroutine} (h : RunSit P main Ev Stop T O d w g) (x x' : Goroutine) (w' : World) : Conc.woken P x x' w' g = g := woken_run h.1

theorem WSit.rely {Q : Own → World → Prop} (hQ : Steady Q Wg) {c : Nat} {D : WD} {O : Own} {d : Nat} {w w₁ : World} {g : Goroutine} (h : WSit P Wg z Q c D O d w g) (hr : Rely O w w₁) : WSit P Wg z Q c D O d w₁ g := by
  obtain ⟨k, T, q, r⟩ := D
  cases k using WK.cs with
  | recv l =>
    rcases h with h | ⟨h1, g0, h2, h3⟩
    · exact .inl (RunSit.rely h hr)
    · exact .inr ⟨h1, g0, h2.rely hr, h3⟩
  | quit => exact ⟨h.1, hQ.rely _ _ _ h.2 hr⟩
  | _ => exact RunSit.rely h hr

theorem WSit.woken {Q : Own → World → Prop} {c : Nat} {D : WD} {O : Own} {d : Nat} {w : World} {g : Goroutine} (h : WSit P Wg z Q c D O d w g) (x x' : Goroutine) (w' : World) : WSit P Wg z Q c D O d w (Conc.woken P x x' w' g) := by
  obtain ⟨k, T, q, r⟩ := D
  cases k using WK.cs with
  | recv l =>
    rcases h with h | ⟨h1, g0, h2, h3⟩
    · rw [RunSit.woken h]; exact .inl h
    · subst h3
      unfold Conc.woken
      split
      · unfold Goroutine.again
        simp only [parked]
        split
        · refine .inl ⟨rfl, g0, ⟨rfl, rfl, rfl⟩, ?_⟩
          cases h1
          exact h2
        · exact .inr ⟨h1, g0, h2, rfl⟩
      · exact .inr ⟨h1, g0, h2, rfl⟩
  | quit => rw [woken_quitsD h.1]; exact h
  | fin => rw [RunSit.woken h]; exact h
  | rel => rw [RunSit.woken h]; exact h
  | d2 => rw [RunSit.woken h]; exact h
  | d3 => rw [RunSit.woken h]; exact h
  | d4 => rw [RunSit.woken h]; exact h

/-- Who isn't running waits to receive, or has ended. -/
theorem WSit.status {Q : Own → World → Prop} {c : Nat} {D : WD} {O : Own} {d : Nat} {w : World} {g : Goroutine} (h : WSit P Wg z Q c D O d w g) : g.status = .running ∨ (∃ l g0, D.k = .recv l ∧ g = parked g0 #[rcase c z] (.recv true)) ∨ (D.k = .quit ∧ g.status = .finished) := by
  obtain ⟨k, T, q, r⟩ := D
  cases k using WK.cs with
  | recv l =>
    rcases h with h | ⟨h1, g0, h2, h3⟩
    · exact .inl h.1
    · exact .inr (.inl ⟨l, g0, rfl, h3⟩)
  | quit => exact h.1.status.elim .inl fun x => .inr (.inr ⟨rfl, x⟩)
  | _ => exact .inl h.1

variable {Q : Nat → Own → World → Prop} {Next : Pos → Prop}
theorem MSit.rely {chs : List Nat} {M : MK} {T : Tree} {O : Own} {d : Nat} {w w₁ : World} {g : Goroutine} (h : MSit P Wg z Q Next chs M T O d w g) (hr : Rely O w w₁) : MSit P Wg z Q Next chs M T O d w₁ g := by
  cases M using MK.cs with
  | script s =>
    rcases h with h | ⟨h1, g0, k, v, s', c, h2, h3, h4, h5⟩
    · exact .inl (RunSit.rely h hr)
    · exact .inr ⟨h1, g0, k, v, s', c, h2, h3, h4.rely hr, h5⟩
  | w3 =>
    rcases h with h | ⟨h1, g0, h2, h3⟩
    · exact .inl (RunSit.rely h hr)
    · exact .inr ⟨h1, g0, h2.rely hr, h3⟩
  | _ => exact RunSit.rely h hr

theorem MSit.woken {chs : List Nat} {M : MK} {T : Tree} {O : Own} {d : Nat} {w : World} {g : Goroutine} (h : MSit P Wg z Q Next chs M T O d w g) (x x' : Goroutine) (w' : World) : MSit P Wg z Q Next chs M T O d w (Conc.woken P x x' w' g) := by
  cases M using MK.cs with
  | script s =>
    rcases h with h | ⟨h1, g0, k, v, s', c, h2, h3, h4, h5⟩
    · rw [RunSit.woken h]; exact .inl h
    · subst h5
      unfold Conc.woken
      split
      · unfold Goroutine.again
        simp only [parked]
        split
        · refine .inl ⟨rfl, g0, ⟨rfl, rfl, rfl⟩, ?_⟩
          cases h1
          exact h4
        · exact .inr ⟨h1, g0, k, v, s', c, h2, h3, h4, rfl⟩
      · exact .inr ⟨h1, g0, k, v, s', c, h2, h3, h4, rfl⟩
  | w3 =>
    rcases h with h | ⟨h1, g0, h2, h3⟩
    · rw [RunSit.woken h]; exact .inl h
    · subst h3
      unfold Conc.woken
      split
      · obtain ⟨_, hs, ho, _⟩ := h2 w (Rely.refl _ _)
        dsimp only at hs ho
        have e : ({ g0 with status := .blocked } : Goroutine).again w' = { g0 with status := .running } := by
          unfold Goroutine.again
          simp only [ho]
        rw [e]
        refine .inl ⟨rfl, g0, ⟨rfl, rfl, rfl⟩, ?_⟩
        cases h1
        exact h2
      · exact .inr ⟨h1, g0, h2, rfl⟩
  | shut n op => rw [RunSit.woken h]; exact h
  | w1 N => rw [RunSit.woken h]; exact h
  | w2 n N => rw [RunSit.woken h]; exact h
  | w4 => rw [RunSit.woken h]; exact h
  | acq => rw [RunSit.woken h]; exact h

theorem MSit.status {chs : List Nat} {M : MK} {T : Tree} {O : Own} {d : Nat} {w : World} {g : Goroutine} (h : MSit P Wg z Q Next chs M T O d w g) : g.status = .running ∨ (∃ k v s' c g0, M = .script (.send k v :: s') ∧ chs[k]? = some c ∧ g = parked g0 #[scase c v zS] .send) ∨ (M = .w3 ∧ g.status = .blocked ∧ g.offers = none) := by
  cases M using MK.cs with
  | script s =>
    rcases h with h | ⟨h1, g0, k, v, s', c, h2, h3, h4, h5⟩
    · exact .inl h.1
    · subst h2; exact .inr (.inl ⟨k, v, s', c, g0, rfl, h3, h5⟩)
  | w3 =>
    rcases h with h | ⟨h1, g0, h2, h3⟩
    · exact .inl h.1
    · obtain ⟨_, hs, ho, _⟩ := h2 w (Rely.refl _ _)
      subst h3
      exact .inr (.inr ⟨rfl, rfl, ho⟩)
  | _ => exact .inl h.1

/-- One idle step. -/
theorem RunSit.node {main : Bool} {Ev : Own → Event → Prop} {Stop : Pos → Prop} {f : World → Tree} {O : Own} {d : Nat} {w : World} {g : Goroutine} (hS : ∀ y, Stop y → y.g.status = .running) (h : RunSit P main Ev Stop (.node f) O d w g) :
    ∃ g' w' O' es, stepG P main g w = .go g' w' es ∧ Guar O O' w w' ∧ (∀ e ∈ es, Ev O' e) ∧ RunSit P main Ev Stop (f w) O' (deafBehind d es) w' g' := by
  obtain ⟨_, g0, hs, _, hf⟩ := h
  obtain ⟨⟨O', d', g', w'⟩, ⟨es, e1, e2, e3, e4⟩, hy⟩ := hf w (Rely.refl _ _)
  dsimp only at e1 e2 e3 e4
  subst e4
  refine ⟨g', w', O', es, by rw [hs.step]; exact e1, e2, e3, ?_, g', Same.refl _, hy⟩
  replace hy : Fits P main Ev Stop (f w) ⟨O', deafBehind d es, g', w'⟩ := hy
  generalize f w = T at hy
  cases T using Tree.cs with
  | leaf => exact hS _ (hy w' (Rely.refl _ _))
  | node f' => exact hy.1

theorem RunSit.leaf {main : Bool} {Ev : Own → Event → Prop} {Stop : Pos → Prop} {O : Own} {d : Nat} {w : World} {g : Goroutine} (h : RunSit P main Ev Stop .leaf O d w g) : ∃ g0, Same g g0 ∧ Stop ⟨O, d, g0, w⟩ := by
  obtain ⟨_, g0, hs, hf⟩ := h
  exact ⟨g0, hs, hf w (Rely.refl _ _)⟩

/-- A Run is a situation. -/
theorem Run.sit {main : Bool} {Ev : Own → Event → Prop} {Stop : Pos → Prop} {O : Own} {d : Nat} {w : World} {g : Goroutine} (h : Run P main Ev Stop ⟨O, d, g, w⟩) (hS : ∀ y, Stop y → y.g.status = .running) : ∃ T, RunSit P main Ev Stop T O d w g := by
  obtain ⟨T, hT⟩ := h.fits
  refine ⟨T, ?_, g, Same.refl _, hT⟩
  cases T using Tree.cs with
  | leaf => exact hS _ (hT w (Rely.refl _ _))
  | node f => exact hT.1
end

end Go.Proofs.Ytgpplekabohneaa.Co

namespace Go.Proofs.Ytgpplekabohneaa.Co
open Go Go.Conc Go.RowKit Go.ConcR.Gen Go.ConcN.Gen
open Go.ConcN (WgLive)
open Go.ConcR (DC0 KK WgAt)
open Go.ChangeMaps (setBlock)

def loopIn : Code → Code
  | .seq (.seq _ (.block _ (.loop b))) _ => b
  | x => x
/-- The body of the loop over the queues. -/
def cLoop (F : Func := Try.f32) : Code := loopIn (mRest F)
/-- At its head. -/
def MS.head2 (m : MS) (cs : List Frame) (j : Nat → Value) (F : Func := Try.f32) : Goroutine := G ((base 32).at ⟨m.tmps m.N j, []⟩ [.code (cLoop F), .inLoop (cLoop F), .inBlock 2, .code (restOf (mRest F))]) cs
def inner : Code → Code
  | .seq _ (.seq _ (.block _ (.seq _ r))) => r
  | x => x
/-- At the close. -/
def MS.atC (m : MS) (cs : List Frame) (j : Nat → Value) (F : Func := Try.f32) : Goroutine := G ((base 32).at ⟨m.tmps m.N j, []⟩ [.inRegion (opsIn (inner (cLoop F))) [1], .inBlock 3, .inLoop (cLoop F), .inBlock 2, .code (restOf (mRest F))]) cs

set_option maxRecDepth 100000 in
set_option maxHeartbeats 2000000 in
theorem head_end (m : MS) (cs : List Frame) (j : Nat → Value) {Ev : Own → Event → Prop} {Z : Nat → Prop} (hEo : LetsObj Ev Z) {Stop : Pos → Prop} {O : Own} {w : World} (hO : Lies O w) (hOq : O.B m.q) (hZq : ¬ Z m.q) {es : Array MapEntry} {c : Nat} (hq : w.heap[m.q]? = some (.map es c))
    (hn : ∀ w₁ it j', j' 66 = .pointer (some ⟨it, 0, none⟩) → w.heap.size ≤ it → w₁.heap[it]? = some (.mapIter (some m.q) c #[] c) → Rely O w w₁ → Run Try.prog true Ev Stop ⟨O.new it, 0, m.head2 cs j', w₁⟩) :
    Run Try.prog true Ev Stop ⟨O, 0, m.head cs m.N j, w⟩ := by
  unfold MS.head
  unfold MS.head2 at hn
  simp only [cLoop, loopIn, restOf, mLoop, firstLoop, mRest, behind, Try.f32, Option.getD_some, MS.tmps, MS.ps, MS.sl] at hn ⊢
  have hF : Rely O w w := Rely.refl _ _
  refine Run.of_goes (R := Rely O) (D := DC0) (S := fun g x => Run Try.prog true Ev Stop ⟨O, 0, g, x⟩) (n := 40) (fun _ _ h => h) dc0_ok (fun _ _ h => h) ?_
  u_c stepG_seq rl_trans hF
  u_reg rl_trans hF
  u_op rl_trans hF
  u_c stepG_region_end rl_trans hF
  u_c stepG_seq rl_trans hF
  u_cnd false rl_trans hF
  u_exit rl_trans hF
  u_c stepG_seq rl_trans hF
  u_c stepG_seq rl_trans hF
  u_reg rl_trans hF
  u_op rl_trans hF
  refine Goes.stop (fun w₁ h₁ => ?_)
  replace hF := rl_trans hF h₁
  clear h₁

  refine Run.oper rfl rfl (by k_ne) fun w₂ h₂ => ?_
  have hR2 := hF.trans h₂
  have hq2 := (hR2.blk m.q hOq).trans hq
  refine ⟨_, _, O.new w₂.heap.size, (op_range (r := m.q) rfl rfl hq2).1, guar_alloc O w₂ _, fun e he => ?_, ?_⟩
  · rw [(op_range (r := m.q) rfl rfl hq2).2] at he
    simp only [List.mem_toArray, List.mem_singleton] at he
    subst he
    exact ⟨hEo _ m.q false (.inl hOq) hZq, by simp [Plainly]⟩
  obtain ⟨it, hit⟩ : ∃ it, it = w₂.heap.size := ⟨_, rfl⟩
  have hsz : w.heap.size ≤ it := by rw [hit]; exact hR2.size
  have hO2 := hO.wide hR2.size
  have hR3 : Rely O w (w₂.alloc (.mapIter (some m.q) c #[] c)) := hR2.trans (rely_alloc w₂ _ hO2.B hO2.C hO2.X)
  have hi3 : (w₂.alloc (.mapIter (some m.q) c #[] c)).heap[it]? = some (.mapIter (some m.q) c #[] c) := by rw [hit]; exact heap_alloc_new w₂ _
  rw [← hit]
  generalize w₂.alloc (.mapIter (some m.q) c #[] c) = w₃ at hR3 hi3
  clear hF h₂ hR2 hit hO2 hq2
  have hF : Rely (O.new it) w₃ w₃ := Rely.refl _ _
  refine Run.of_goes (R := Rely (O.new it)) (D := DC0) (S := fun g x => Run Try.prog true Ev Stop ⟨(O.new it), 0, g, x⟩) (n := 30) (fun _ _ h => h) dc0_ok (fun _ _ h => h) ?_
  try walk_nrm
  u_c stepG_region_end rl_trans hF
  u_c stepG_block rl_trans hF
  u_c stepG_loop rl_trans hF
  refine Goes.stop (fun w₁ h₁ => ?_)
  replace hF := rl_trans hF h₁
  clear h₁

  have hk2 := fun (x2 x3 x8 x9 x10 x11 x12 x13 x14 x15 x16 x17 x18 x22 x23 x24 x25 x26 x27 x28 x29 x30 x31 x32 x33 x34 x35 x36 x37 x38 x39 x40 x41 x42 x43 x44 x45 x46 x47 x48 x49 x50 x51 x52 x53 x54 x55 x56 x57 x58 x59 x60 x61 x62 x63 x64 x65 x66 x67 x68 x69 x70 x71 x72 x73 : Value) (e66 : x66 = .pointer (some ⟨it, 0, none⟩)) => (hn w₁ it (fun n => match n with | 2 => x2 | 3 => x3 | 8 => x8 | 9 => x9 | 10 => x10 | 11 => x11 | 12 => x12 | 13 => x13 | 14 => x14 | 15 => x15 | 16 => x16 | 17 => x17 | 18 => x18 | 22 => x22 | 23 => x23 | 24 => x24 | 25 => x25 | 26 => x26 | 27 => x27 | 28 => x28 | 29 => x29 | 30 => x30 | 31 => x31 | 32 => x32 | 33 => x33 | 34 => x34 | 35 => x35 | 36 => x36 | 37 => x37 | 38 => x38 | 39 => x39 | 40 => x40 | 41 => x41 | 42 => x42 | 43 => x43 | 44 => x44 | 45 => x45 | 46 => x46 | 47 => x47 | 48 => x48 | 49 => x49 | 50 => x50 | 51 => x51 | 52 => x52 | 53 => x53 | 54 => x54 | 55 => x55 | 56 => x56 | 57 => x57 | 58 => x58 | 59 => x59 | 60 => x60 | 61 => x61 | 62 => x62 | 63 => x63 | 64 => x64 | 65 => x65 | 66 => x66 | 67 => x67 | 68 => x68 | 69 => x69 | 70 => x70 | 71 => x71 | 72 => x72 | 73 => x73 | _ => undef) e66 hsz ((hF.blk it (.inr rfl)).trans hi3) (hR3.trans (hF.less (fun _ x => .inl x) (fun _ _ x => x) (fun _ x => x))))
  exact hk2 _ _ _ _ _ _ _ _ _ _ _ _ _ _ _ _ _ _ _ _ _ _ _ _ _ _ _ _ _ _ _ _ _ _ _ _ _ _ _ _ _ _ _ _ _ _ _ _ _ _ _ _ _ _ _ _ _ _ _ _ _ _ _ _ _ rfl

set_option maxRecDepth 100000 in
set_option maxHeartbeats 2000000 in
/-- One queue. -/
theorem head2_some (m : MS) (cs : List Frame) (j : Nat → Value) {Ev : Own → Event → Prop} {Z : Nat → Prop} (hEo : LetsObj Ev Z) {Stop : Pos → Prop} {O : Own} {w : World} {it since c0 clock : Nat} {seen : Array Nat} {es : Array MapEntry} (h66 : j 66 = .pointer (some ⟨it, 0, none⟩)) (hI : Iter m.q O w it since c0 clock seen es) (hZi : ¬ Z it) (hZq : ¬ Z m.q)
    (hold : ∀ x ∈ es.toList, x.born < since) (hcl : since ≤ clock) (hnd : (es.toList.map (·.born)).Nodup) (hval : ∀ x ∈ es.toList, ∃ c, x.val = .chan (some c)) (hne : (leftOf es seen).size ≠ 0)
    (hn : ∀ w₁ j' e c, e ∈ (leftOf es seen).toList → e.val = .chan (some c) → j' 66 = .pointer (some ⟨it, 0, none⟩) → j' 71 = .chan (some c) → Iter m.q O w₁ it since clock clock (seen.push e.born) es → Rely (O.but it) w w₁ → Run Try.prog true Ev Stop ⟨O, 0, m.atC cs j', w₁⟩) :
    Run Try.prog true Ev Stop ⟨O, 0, m.head2 cs j, w⟩ := by
  unfold MS.head2
  unfold MS.atC at hn
  simp only [cLoop, loopIn, restOf, inner, opsIn, mRest, behind, Try.f32, Option.getD_some, MS.tmps, MS.ps, MS.sl, h66] at hn ⊢
  have hF : Rely O w w := Rely.refl _ _
  refine Run.of_goes (R := Rely O) (D := DC0) (S := fun g x => Run Try.prog true Ev Stop ⟨O, 0, g, x⟩) (n := 20) (fun _ _ h => h) dc0_ok (fun _ _ h => h) ?_
  u_c stepG_seq rl_trans hF
  u_reg rl_trans hF
  refine Goes.stop (fun w₁ h₁ => ?_)
  replace hF := rl_trans hF h₁
  clear h₁

  refine Run.nextM hEo rfl rfl (by k_ne) rfl rfl (hI.rely hF) hZi hZq hold hcl (fun h => absurd h hne) (fun e w₂ w₃ he h₂ hI3 h₃ => ?_)
  have heE : e ∈ es.toList := by
    unfold leftOf at he
    simp at he ⊢
    exact he.1
  obtain ⟨c, hc⟩ := hval e heE
  have hR3 : Rely (O.but it) w w₃ := ((hF.trans h₂).less (U := O.but it) (fun _ x => x.1) (fun _ _ x => x.1) (fun _ x => x.1)).trans h₃
  clear hF h₂ h₃ hI
  have hF : Rely O w₃ w₃ := Rely.refl _ _
  obtain ⟨ek, ev, eb⟩ := e
  dsimp only at hc
  subst hc
  refine Run.of_goes (R := Rely O) (D := DC0) (S := fun g x => Run Try.prog true Ev Stop ⟨O, 0, g, x⟩) (n := 30) (fun _ _ h => h) dc0_ok (fun _ _ h => h) ?_
  try walk_nrm
  u_op rl_trans hF
  u_c stepG_region_end rl_trans hF
  u_c stepG_seq rl_trans hF
  u_cnd true rl_trans hF
  u_c stepG_skip rl_trans hF
  u_c stepG_block rl_trans hF
  u_c stepG_seq rl_trans hF
  u_reg rl_trans hF
  refine Goes.stop (fun w₁ h₁ => ?_)
  replace hF := rl_trans hF h₁
  clear h₁

  refine Run.entryM hEo rfl rfl (by k_ne) rfl rfl (hI3.rely hF) hZi hZq heE hnd (fun w₄ h₄ => ?_)
  have hR4 := hF.trans h₄
  clear hF h₄
  have hF : Rely O w₃ w₄ := hR4
  refine Run.of_goes (R := Rely O) (D := DC0) (S := fun g x => Run Try.prog true Ev Stop ⟨O, 0, g, x⟩) (n := 30) (fun _ _ h => h) dc0_ok (fun _ _ h => h) ?_
  try walk_nrm
  u_op rl_trans hF
  u_op rl_trans hF
  u_c stepG_region_end rl_trans hF
  u_reg rl_trans hF
  u_op rl_trans hF
  refine Goes.stop (fun w₁ h₁ => ?_)
  replace hF := rl_trans hF h₁
  clear h₁

  have hk2 := fun (x2 x3 x8 x9 x10 x11 x12 x13 x14 x15 x16 x17 x18 x22 x23 x24 x25 x26 x27 x28 x29 x30 x31 x32 x33 x34 x35 x36 x37 x38 x39 x40 x41 x42 x43 x44 x45 x46 x47 x48 x49 x50 x51 x52 x53 x54 x55 x56 x57 x58 x59 x60 x61 x62 x63 x64 x65 x66 x67 x68 x69 x70 x71 x72 x73 : Value) (e66 : x66 = .pointer (some ⟨it, 0, none⟩)) (e71 : x71 = .chan (some c)) => (hn w₁ (fun n => match n with | 2 => x2 | 3 => x3 | 8 => x8 | 9 => x9 | 10 => x10 | 11 => x11 | 12 => x12 | 13 => x13 | 14 => x14 | 15 => x15 | 16 => x16 | 17 => x17 | 18 => x18 | 22 => x22 | 23 => x23 | 24 => x24 | 25 => x25 | 26 => x26 | 27 => x27 | 28 => x28 | 29 => x29 | 30 => x30 | 31 => x31 | 32 => x32 | 33 => x33 | 34 => x34 | 35 => x35 | 36 => x36 | 37 => x37 | 38 => x38 | 39 => x39 | 40 => x40 | 41 => x41 | 42 => x42 | 43 => x43 | 44 => x44 | 45 => x45 | 46 => x46 | 47 => x47 | 48 => x48 | 49 => x49 | 50 => x50 | 51 => x51 | 52 => x52 | 53 => x53 | 54 => x54 | 55 => x55 | 56 => x56 | 57 => x57 | 58 => x58 | 59 => x59 | 60 => x60 | 61 => x61 | 62 => x62 | 63 => x63 | 64 => x64 | 65 => x65 | 66 => x66 | 67 => x67 | 68 => x68 | 69 => x69 | 70 => x70 | 71 => x71 | 72 => x72 | 73 => x73 | _ => undef) ⟨ek, .chan (some c), eb⟩ c he rfl e66 e71 (hI3.rely hF) (hR3.trans (hF.less (fun _ x => x.1) (fun _ _ x => x.1) (fun _ x => x.1))))
  exact hk2 _ _ _ _ _ _ _ _ _ _ _ _ _ _ _ _ _ _ _ _ _ _ _ _ _ _ _ _ _ _ _ _ _ _ _ _ _ _ _ _ _ _ _ _ _ _ _ _ _ _ _ _ _ _ _ _ _ _ _ _ _ _ _ _ _ rfl rfl

set_option maxRecDepth 100000 in
/-- The close itself. -/
theorem atC_close (m : MS) (cs : List Frame) (j : Nat → Value) {c : Nat} (h71 : j 71 = .chan (some c)) : mayWake Try.prog (m.atC cs j) = true ∧
    ∃ g', g'.status = .running ∧ (∀ w₁ s, w₁.heap[c]? = some (.chan 0 #[] false s s false) → stepG Try.prog true (m.atC cs j) w₁ = .go g' (w₁.setChan c 0 #[] true s s false) (closeEvents c)) ∧
      ∀ {Ev : Own → Event → Prop} {Stop : Pos → Prop} {O : Own} {w : World}, Run Try.prog true Ev Stop ⟨O, 0, m.head2 cs j, w⟩ → Run Try.prog true Ev Stop ⟨O, 0, g', w⟩ := by
  refine ⟨?_, G ((base 32).at ⟨m.tmps m.N j, []⟩ [.inRegion (opsIn (inner cLoop)) [], .inBlock 3, .inLoop cLoop, .inBlock 2, .code (restOf mRest)]) cs, rfl, fun w₁ s hc => ?_, fun hk => ?_⟩
  · unfold MS.atC
    simp only [cLoop, loopIn, restOf, inner, opsIn, mRest, behind, Try.f32, Option.getD_some, MS.tmps, MS.ps, MS.sl]
    rfl
  · unfold MS.atC
    have h := stepG_close (P := Try.prog) (main := true) (w := w₁) (b := base 32) (cs := cs) (i := 1) (rest := []) (ops := opsIn (inner cLoop)) (o := (opsIn (inner cLoop))[1]!) (a := ⟨m.tmps m.N j, []⟩) (kk := [.inBlock 3, .inLoop cLoop, .inBlock 2, .code (restOf mRest)]) (x := .tmp 71) (ats := #[126]) (c := c) (cap := 0) (buf := #[]) (s := s) (r := s) (tm := false)
      (by simp only [cLoop, loopIn, inner, opsIn, mRest, behind, Try.f32, Option.getD_some]; rfl) (by simp only [cLoop, loopIn, inner, opsIn, mRest, behind, Try.f32, Option.getD_some]; rfl) (by k_ne) (by simp only [cLoop, loopIn, inner, opsIn, mRest, behind, Try.f32, Option.getD_some]; rfl) (by simp [Act.eval, MS.tmps, h71]) hc (by simp [base, Try.func32, Try.f32])
    rw [h]
    simp only [cLoop, loopIn, inner, opsIn, mRest, behind, Try.f32, Option.getD_some]
    rfl
  · unfold MS.head2 at hk
    refine Run.ctl rfl (fun _ => stepG_region_end) ?_
    refine Run.ctl rfl (fun _ => stepG_inBlock) ?_
    refine Run.ctl rfl (fun _ => stepG_inLoop) ?_
    exact hk

/-- The starter is back. -/
def MNext (m : MS) (c : Frame) (cs : List Frame) (F : Own → World → Prop) (x : Pos) : Prop := x.d = 0 ∧ x.g = G (c.finish m.sl) cs ∧ F x.O x.w

set_option maxRecDepth 100000 in
set_option maxHeartbeats 2000000 in
/-- ALL QUEUES ARE CLOSED: it waits, and comes back. -/
theorem head2_none (m : MS) (c : Frame) (cs : List Frame) (j : Nat → Value) {Ev : Own → Event → Prop} {Z : Nat → Prop} (hEo : LetsObj Ev Z) (hEg : GEv Ev m.Wg) (hSW : ∀ O, Ev O (Go.ConcR.mk (.write (Go.ConcR.smA m.Wg)))) {O : Own} {w : World} {it since c0 clock : Nat} {seen : Array Nat} {es : Array MapEntry} (h66 : j 66 = .pointer (some ⟨it, 0, none⟩)) (hI : Iter m.q O w it since c0 clock seen es) (hZi : ¬ Z it) (hZq : ¬ Z m.q)
    (hold : ∀ x ∈ es.toList, x.born < since) (hcl : since ≤ clock) (hne : (leftOf es seen).size = 0) (N : Nat) (hN : N < 2147483648) (hX : O.X m.Wg) (hl : Live m.Wg w) {F : Own → World → Prop} (hFr : ∀ w₁, Rely O w w₁ → F O w₁) :
    Run Try.prog true Ev (W1Stop Try.prog Ev 125 m.Wg (MNext m c cs F) N) ⟨O, 0, m.head2 (c :: cs) j, w⟩ := by
  obtain ⟨Stop, hStop⟩ : ∃ Stop, Stop = W1Stop Try.prog Ev 125 m.Wg (MNext m c cs F) N := ⟨_, rfl⟩
  rw [← hStop]
  unfold MS.head2
  simp only [cLoop, loopIn, restOf, mRest, behind, Try.f32, Option.getD_some, MS.tmps, MS.ps, MS.sl, h66]
  have hF : Rely O w w := Rely.refl _ _
  refine Run.of_goes (R := Rely O) (D := DC0) (S := fun g x => Run Try.prog true Ev Stop ⟨O, 0, g, x⟩) (n := 20) (fun _ _ h => h) dc0_ok (fun _ _ h => h) ?_
  u_c stepG_seq rl_trans hF
  u_reg rl_trans hF
  refine Goes.stop (fun w₁ h₁ => ?_)
  replace hF := rl_trans hF h₁
  clear h₁

  refine Run.nextM hEo rfl rfl (by k_ne) rfl rfl (hI.rely hF) hZi hZq hold hcl (fun _ w₂ h₂ => ?_) (fun e w₂ w₃ he h₂ hI3 h₃ => ?_)
  · have hR2 := hF.trans h₂
    clear hF h₂
    have hF : Rely O w w₂ := hR2
    refine Run.of_goes (R := Rely O) (D := DC0) (S := fun g x => Run Try.prog true Ev Stop ⟨O, 0, g, x⟩) (n := 30) (fun _ _ h => h) dc0_ok (fun _ _ h => h) ?_
    try walk_nrm
    u_op rl_trans hF
    u_c stepG_region_end rl_trans hF
    u_c stepG_seq rl_trans hF
    u_cnd false rl_trans hF
    u_exit rl_trans hF
    u_c stepG_seq rl_trans hF
    u_reg rl_trans hF
    refine Goes.stop (fun w₁ h₁ => ?_)
    replace hF := rl_trans hF h₁
    clear h₁

    rw [hStop]
    refine run_wait rfl rfl (by k_ne) rfl (by simp [Act.eval]) hEg hSW N hN (fun a b h ⟨st, sm, x⟩ => by obtain ⟨st', sm', y⟩ := h.live m.Wg hX ⟨st, sm, x⟩; exact ⟨st', sm', y⟩) (by obtain ⟨st, sm, y⟩ := hF.live m.Wg hX hl; exact ⟨st, sm, y⟩) (fun w₃ h₃ => ?_)
    have hR3 := hF.trans h₃
    clear hStop hF
    obtain ⟨Stop, hStop⟩ : ∃ Stop, Stop = MNext m c cs F := ⟨_, rfl⟩
    rw [← hStop]
    have hF : Rely O w₃ w₃ := Rely.refl _ _
    refine Run.of_goes (R := Rely O) (D := DC0) (S := fun g x => Run Try.prog true Ev Stop ⟨O, 0, g, x⟩) (n := 30) (fun _ _ h => h) dc0_ok (fun _ _ h => h) ?_
    try walk_nrm
    u_c stepG_region_end rl_trans hF
    u_c stepG_seq rl_trans hF
    u_reg rl_trans hF
    u_op rl_trans hF
    u_op rl_trans hF
    u_c stepG_region_end rl_trans hF
    u_c stepG_ret' rl_trans hF
    refine Goes.stop (fun w₁ h₁ => ?_)
    replace hF := rl_trans hF h₁
    clear h₁

    refine Run.ctl rfl (fun w₄ => stepG_leave rfl rfl Try.func32 (results_tmp rfl _ _ _) (events_results_tmp rfl _ _)) ?_
    refine Run.here fun w₄ h₄ => ?_
    rw [hStop]
    exact ⟨rfl, rfl, hFr _ (hR3.trans (hF.trans h₄))⟩
  · exfalso
    have : (leftOf es seen).toList = [] := List.eq_nil_of_length_eq_zero (by simpa using hne)
    rw [this] at he
    cases he

end Go.Proofs.Ytgpplekabohneaa.Co
