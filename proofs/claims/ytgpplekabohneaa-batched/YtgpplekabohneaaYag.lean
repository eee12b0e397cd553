/- A goroutine in company that owns blocks and cells: what the others may turn meanwhile, what it may turn itself; 'Run': whatever the others do, it comes to a stop. · The trace's law where every place has one owner at a time: a starter's places pass to its children; places that nobody has touched may pass to anybody. · What falls: trees of steps, one a goroutine; at each own step one of them becomes one of its branches. -/
import Derived.Test.YtgpplekabohneaaYac
import Derived.Conc.QuitsD
import Derived.Conc.Beside
import Derived.Conc.CrowdTrace
namespace Go.Proofs.Ytgpplekabohneaa.Co
open Go Go.Conc

/-- What a goroutine owns: whole blocks, and cells of blocks that are nobody's; and what it leans on: groups that stay groups. -/
structure Own where
  B : Nat → Prop
  C : Nat → Nat → Prop
  X : Nat → Prop

/-- A group lies there. -/
def Live (b : Nat) (w : World) : Prop := ∃ st sm : Int, w.heap[b]? = some (.cells #[.int .u64 st, .int .u32 sm] 125)

/-- What the others may do. -/
structure Rely (O : Own) (w w₁ : World) : Prop where
  size : w.heap.size ≤ w₁.heap.size
  tape : w₁.tape = w.tape
  os : w₁.os = w.os
  output : w₁.output = w.output
  blk : ∀ b, O.B b → w₁.heap[b]? = w.heap[b]?
  cell : ∀ b o, O.C b o → w₁.cell? ⟨b, o, none⟩ = w.cell? ⟨b, o, none⟩
  shape : Shaped w w₁
  live : ∀ b, O.X b → Live b w → Live b w₁

theorem Rely.refl (O : Own) (w : World) : Rely O w w := ⟨Nat.le_refl _, rfl, rfl, rfl, fun _ _ => rfl, fun _ _ _ => rfl, Shaped.refl w, fun _ _ h => h⟩
theorem Rely.trans {O : Own} {a b c : World} (h : Rely O a b) (k : Rely O b c) : Rely O a c :=
  ⟨Nat.le_trans h.size k.size, k.tape.trans h.tape, k.os.trans h.os, k.output.trans h.output, fun x hx => (k.blk x hx).trans (h.blk x hx), fun x o hx => (k.cell x o hx).trans (h.cell x o hx), h.shape.trans k.shape, fun b x y => k.live b x (h.live b x y)⟩
theorem Rely.at {O : Own} {w w₁ : World} (h : Rely O w w₁) (d : Nat) : Rely O w (w₁.at d) := ⟨h.size, h.tape, h.os, h.output, h.blk, h.cell, h.shape, h.live⟩

def OwnL (O : Own) : Loc → Prop
  | .cell a => O.B a.block ∨ O.C a.block a.off
  | .obj b => O.B b
  | _ => False

/-- What a step does. -/
structure Guar (O O' : Own) (w w' : World) : Prop where
  size : w.heap.size ≤ w'.heap.size
  tape : w'.tape = w.tape
  os : w'.os = w.os
  output : w'.output = w.output
  own : ∀ b, O'.B b → O.B b ∨ (w.heap.size ≤ b ∧ b < w'.heap.size)
  ownC : ∀ b o, O'.C b o → O.C b o
  ownX : ∀ b, O'.X b → O.X b
  blk : ∀ b, b < w.heap.size → ¬ O.B b → (∀ o, ¬ O.C b o) → w'.heap[b]? = w.heap[b]?
  cell : ∀ b o, b < w.heap.size → ¬ O.B b → ¬ O.C b o → w'.cell? ⟨b, o, none⟩ = w.cell? ⟨b, o, none⟩
  shape : Shaped w w'

theorem Guar.refl (O : Own) (w : World) : Guar O O w w := ⟨Nat.le_refl _, rfl, rfl, rfl, fun _ h => .inl h, fun _ _ h => h, fun _ h => h, fun _ _ _ _ => rfl, fun _ _ _ _ _ => rfl, Shaped.refl w⟩
theorem Guar.at (O : Own) (w : World) (d : Nat) : Guar O O w (w.at d) := ⟨Nat.le_refl _, rfl, rfl, rfl, fun _ h => .inl h, fun _ _ h => h, fun _ h => h, fun _ _ _ _ => rfl, fun _ _ _ _ _ => rfl, Shaped.refl w⟩

/-- What one does is what another may suffer. -/
theorem Guar.rely {O O' U : Own} {w w' : World} (h : Guar O O' w w') (hb : ∀ b, U.B b → b < w.heap.size ∧ ¬ O.B b ∧ ∀ o, ¬ O.C b o) (hc : ∀ b o, U.C b o → b < w.heap.size ∧ ¬ O.B b ∧ ¬ O.C b o) (hx : ∀ b, U.X b → b < w.heap.size ∧ ¬ O.B b ∧ ∀ o, ¬ O.C b o) : Rely U w w' :=
  ⟨h.size, h.tape, h.os, h.output, fun b x => h.blk b (hb b x).1 (hb b x).2.1 (hb b x).2.2, fun b o x => h.cell b o (hc b o x).1 (hc b o x).2.1 (hc b o x).2.2, h.shape, fun b x ⟨st, sm, y⟩ => ⟨st, sm, (h.blk b (hx b x).1 (hx b x).2.1 (hx b x).2.2).trans y⟩⟩

/-- Where a goroutine stands: what it owns, how deaf it is, its record, the world. -/
structure Pos where
  O : Own
  d : Nat
  g : Goroutine
  w : World

/-- One own step in company. -/
structure Hop (P : Program) (main : Bool) (Ev : Own → Event → Prop) (x : Pos) (w₁ : World) (y : Pos) : Prop where
  out : ∃ es, stepG P main x.g w₁ = .go y.g y.w es ∧ Guar x.O y.O w₁ y.w ∧ (∀ e ∈ es, Ev y.O e) ∧ y.d = deafBehind x.d es

structure Run.Cl (P : Program) (main : Bool) (Ev : Own → Event → Prop) (Stop : Pos → Prop) (M : Pos → Prop) : Prop where
  all ::
  stop : ∀ {x : Pos}, (∀ w₁, Rely x.O x.w w₁ → Stop ⟨x.O, x.d, x.g, w₁⟩) → M x
  step : ∀ {x : Pos} (next : World → Pos), x.g.status = .running → (∀ w₁, Rely x.O x.w w₁ → Hop P main Ev x w₁ (next w₁)) → (∀ w₁, Rely x.O x.w w₁ → M (next w₁)) → M x
/-- WHATEVER THE OTHERS DO, IT COMES TO A STOP. -/
def Run (P : Program) (main : Bool) (Ev : Own → Event → Prop) (Stop : Pos → Prop) (x : Pos) : Prop := ∀ M : Pos → Prop, Run.Cl P main Ev Stop M → M x
theorem Run.stop {P : Program} {main : Bool} {Ev : Own → Event → Prop} {Stop : Pos → Prop} {x : Pos} (h1 : (∀ w₁, Rely x.O x.w w₁ → Stop ⟨x.O, x.d, x.g, w₁⟩)) : Run P main Ev Stop x := fun _ cl => cl.stop h1
theorem Run.step {P : Program} {main : Bool} {Ev : Own → Event → Prop} {Stop : Pos → Prop} {x : Pos} (next : World → Pos) (h1 : x.g.status = .running) (h2 : (∀ w₁, Rely x.O x.w w₁ → Hop P main Ev x w₁ (next w₁))) (h3 : (∀ w₁, Rely x.O x.w w₁ → Run P main Ev Stop (next w₁))) : Run P main Ev Stop x := fun M cl => cl.step next h1 h2 (fun y0 y1 => h3 y0 y1 M cl)
theorem Run.ind {P : Program} {main : Bool} {Ev : Own → Event → Prop} {Stop : Pos → Prop} {motive : (x : Pos) → Run P main Ev Stop x → Prop} (stop : ∀ {x : Pos} (h1 : (∀ w₁, Rely x.O x.w w₁ → Stop ⟨x.O, x.d, x.g, w₁⟩)), motive x (Run.stop h1))
    (step : ∀ {x : Pos} (next : World → Pos) (h1 : x.g.status = .running) (h2 : (∀ w₁, Rely x.O x.w w₁ → Hop P main Ev x w₁ (next w₁))) (h3 : (∀ w₁, Rely x.O x.w w₁ → Run P main Ev Stop (next w₁))), (∀ w₁, ∀ (q0 : Rely x.O x.w w₁), motive (next w₁) (h3 w₁ q0)) → motive x (Run.step next h1 h2 h3)) {x : Pos} (t : Run P main Ev Stop x) : motive x t :=
  (t (fun x => Run P main Ev Stop x ∧ ∀ h : Run P main Ev Stop x, motive x h) ⟨fun h1 => ⟨Run.stop h1, fun _ => stop h1⟩,
    fun next h1 h2 h3 => ⟨Run.step next h1 h2 (fun y0 y1 => (h3 y0 y1).1), fun _ => step next h1 h2 (fun y0 y1 => (h3 y0 y1).1) (fun y0 y1 => (h3 y0 y1).2 _)⟩⟩).2 t
theorem Run.cs {P : Program} {main : Bool} {Ev : Own → Event → Prop} {Stop : Pos → Prop} {motive : (x : Pos) → Run P main Ev Stop x → Prop} {x : Pos} (t : Run P main Ev Stop x) (stop : ∀ {x : Pos} (h1 : (∀ w₁, Rely x.O x.w w₁ → Stop ⟨x.O, x.d, x.g, w₁⟩)), motive x (Run.stop h1))
    (step : ∀ {x : Pos} (next : World → Pos) (h1 : x.g.status = .running) (h2 : (∀ w₁, Rely x.O x.w w₁ → Hop P main Ev x w₁ (next w₁))) (h3 : (∀ w₁, Rely x.O x.w w₁ → Run P main Ev Stop (next w₁))), motive x (Run.step next h1 h2 h3)) : motive x t :=
  Run.ind (motive := motive) (fun h1 => stop h1) (fun next h1 h2 h3 _ => step next h1 h2 h3) t

section
variable {P : Program} {main : Bool} {Ev : Own → Event → Prop} {Stop Stop' : Pos → Prop}

theorem Run.rely {x : Pos} (h : Run P main Ev Stop x) {w₁ : World} (hr : Rely x.O x.w w₁) : Run P main Ev Stop ⟨x.O, x.d, x.g, w₁⟩ := by
  cases h using Run.cs with
  | stop h => exact .stop fun w₂ h₂ => h w₂ (hr.trans h₂)
  | step next hs h1 h2 => exact .step next hs (fun w₂ h₂ => ⟨(h1 w₂ (hr.trans h₂)).out⟩) (fun w₂ h₂ => h2 w₂ (hr.trans h₂))

theorem Run.bind {x : Pos} (h : Run P main Ev Stop x) (hk : ∀ y, Stop y → Run P main Ev Stop' y) : Run P main Ev Stop' x := by
  induction h using Run.ind with
  | @stop x h =>
    have h0 := hk _ (h x.w (Rely.refl _ _))
    exact h0
  | @step x next hs h1 _ ih => exact .step next hs h1 ih

/-- One step, given for every world. -/
theorem Run.one {x : Pos} (hs : x.g.status = .running) (h : ∀ w₁, Rely x.O x.w w₁ → ∃ y, Hop P main Ev x w₁ y ∧ Run P main Ev Stop y) : Run P main Ev Stop x := by
  have pick : ∀ w₁, ∃ y, Rely x.O x.w w₁ → Hop P main Ev x w₁ y ∧ Run P main Ev Stop y := by
    intro w₁
    rcases Classical.em (Rely x.O x.w w₁) with hr | hr
    · obtain ⟨y, hy⟩ := h w₁ hr
      exact ⟨y, fun _ => hy⟩
    · exact ⟨x, fun h => absurd h hr⟩
  exact .step (fun w₁ => Classical.choose (pick w₁)) hs (fun w₁ hr => (Classical.choose_spec (pick w₁) hr).1) (fun w₁ hr => (Classical.choose_spec (pick w₁) hr).2)

/-- At a stop at once. -/
theorem Run.here {x : Pos} (h : ∀ w₁, Rely x.O x.w w₁ → Stop ⟨x.O, x.d, x.g, w₁⟩) : Run P main Ev Stop x := .stop h

/-- A walk of the library's, whose rely this one meets, and whose guarantee is enough. -/
theorem Run.of_goes {R : World → World → Prop} {D : World → World → Array Event → Prop} {S : Goroutine → World → Prop} {O : Own} {d : Nat} (hR : ∀ w w₁, Rely O w w₁ → R w w₁)
    (hD : ∀ w w' es, D w w' es → Guar O O w w' ∧ (∀ e ∈ es, Ev O e) ∧ deafBehind d es = d) (hS : ∀ g w, S g w → Run P main Ev Stop ⟨O, d, g, w⟩) :
    ∀ {n : Nat} {g : Goroutine} {w : World}, Goes P main R D S n g w → Run P main Ev Stop ⟨O, d, g, w⟩ := by
  intro n
  induction n with
  | zero => intro g w h; exact hS g w (h w (hR _ _ (Rely.refl _ _)))
  | succ n ih =>
    intro g w h
    rcases h with h | ⟨hs, h⟩
    · exact hS g w (h w (hR _ _ (Rely.refl _ _)))
    · refine Run.one hs fun w₁ h₁ => ?_
      have := h w₁ (hR _ _ h₁)
      cases hst : stepG P main g w₁ with
      | go g' w' es =>
        rw [hst, goes_go] at this
        obtain ⟨hd, hg⟩ := this
        obtain ⟨h1, h2, h3⟩ := hD _ _ _ hd
        exact ⟨⟨O, d, g', w'⟩, ⟨es, hst, h1, h2, h3.symm⟩, ih hg⟩
      | _ => rw [hst] at this; exact this.elim
end

end Go.Proofs.Ytgpplekabohneaa.Co

namespace Go.Proofs.Ytgpplekabohneaa.Co
open Go Go.Conc Go.ConcN

/-- 'own l': who may touch the place l; Sh: shared places, never touched plainly; Shun: places of elder calls, touched no more; n: how many goroutines there are. -/
structure OT (Sh Shun : Loc → Prop) (own : Loc → Nat) (n : Nat) (t : Trace) : Prop where
  quiet : Quiet Sh t
  perm : ∀ l, ¬ Sh l → ¬ Shun l → Perm t (own l) l
  nr : ∀ said, ¬ Race said t
  gs : ∀ (i : Nat) (op : MemOp), t[i]? = some op → op.g < n

/-- What goroutine g may do. -/
def OkO (Sh Shun : Loc → Prop) (own : Loc → Nat) (g : Nat) (op : MemOp) : Prop :=
  op.g = g ∧ ∀ x, op.act.touch? = some x → (Sh x.loc ∧ x.kind ≠ .plain ∧ (x.kind = .said → g = 0)) ∨ (¬ Sh x.loc ∧ ¬ Shun x.loc ∧ own x.loc = g)

section
variable {Sh Shun : Loc → Prop} {own : Loc → Nat} {n : Nat} {t u : Trace}

theorem OT.app (h : OT Sh Shun own n t) {g : Nat} (hg : g < n) (hu : ∀ op ∈ u, OkO Sh Shun own g op) : OT Sh Shun own n (t ++ u) := by
  refine ⟨h.quiet.app fun op hop x hx hs => ?_, fun l h1 h2 => (h.perm l h1 h2).app fun op hop b hb e => ?_, fun said => ?_, fun i op hi => ?_⟩
  · rcases (hu op hop).2 x hx with ⟨_, hk, hsd⟩ | ⟨hn, _⟩
    · exact ⟨hk, fun e => (hu op hop).1.trans (hsd e)⟩
    · exact absurd hs hn
  · rcases (hu op hop).2 b hb with ⟨hs, _⟩ | ⟨_, _, ho⟩
    · exact absurd (e ▸ hs) h1
    · rw [(hu op hop).1, ← e, ho]
  · refine noRace_append (h.nr said) (fun op hop => (hu op hop).1) (fun i a ha op hop b hb hc => ?_)
    rcases (hu op hop).2 b hb with ⟨hs, hk, hsd⟩ | ⟨hs, hn, ho⟩
    · exact h.quiet.known hs hk hsd i a ha hc
    · have := h.perm b.loc hs hn i a ha hc.1
      rwa [ho] at this
  · rcases getElem?_append_cases hi with ⟨_, hi'⟩ | ⟨_, hiu⟩
    · exact h.gs i op hi'
    · rw [(hu op hiu).1]; exact hg

/-- What nobody has touched may be anybody's. -/
theorem OT.reown (h : OT Sh Shun own n t) (own' : Loc → Nat) (hs : ∀ l, own' l = own l ∨ ∀ i a, touchAt t i = some a → a.loc ≠ l) : OT Sh Shun own' n t := by
  refine ⟨h.quiet, fun l h1 h2 => ?_, h.nr, h.gs⟩
  rcases hs l with e | e
  · rw [e]; exact h.perm l h1 h2
  · exact fun i a ha hl => absurd hl (e i a ha)

/-- A go STATEMENT. -/
theorem OT.fork (h : OT Sh Shun own n t) (hn : 0 < n) {x y : MemOp} (hx : x.g = 0 ∧ x.act = .go n) (hy : y.g = n ∧ y.act = .start) (h0 : Deaf t 0 = 0) (own' : Loc → Nat) (ho : ∀ l, own' l = own l ∨ (own l = 0 ∧ own' l = n)) : OT Sh Shun own' (n + 1) (t ++ #[x, y]) := by
  have hk : Deaf t n = 0 := Deaf_absent fun i op hi e => by have := h.gs i op hi; omega
  have hnt : ∀ op ∈ #[x, y], ∀ b, op.act.touch? = some b → False := by
    intro op hop b hb
    simp only [List.mem_toArray, List.mem_cons, List.not_mem_nil, or_false] at hop
    rcases hop with rfl | rfl
    · rw [hx.2] at hb; cases hb
    · rw [hy.2] at hb; cases hb
  have old : ∀ {i : Nat} {a : Touch}, touchAt (t ++ #[x, y]) i = some a → touchAt t i = some a := by
    intro i a ha
    obtain ⟨z, hz, hza⟩ := touch_of ha
    rcases getElem?_append_cases hz with ⟨_, hz'⟩ | ⟨_, hzu⟩
    · rw [touchAt_of hz']; exact hza
    · exact (hnt z hzu a hza).elim
  refine ⟨h.quiet.app fun op hop b hb _ => (hnt op hop b hb).elim, fun l h1 h2 => ?_, fun said => ?_, fun i op hi => ?_⟩
  · rcases ho l with e | ⟨e0, e⟩
    · rw [e]
      exact (h.perm l h1 h2).app fun op hop b hb _ => (hnt op hop b hb).elim
    · rw [e]
      exact fun i a ha hl => fork_knows hx hy h0 hk (by have := h.perm l h1 h2 i a (old ha) hl; rwa [e0] at this)
  · have e : t ++ #[x, y] = (t ++ #[x]) ++ #[y] := by apply Array.ext'; simp
    rw [e]
    refine noRace_append (g := n) (noRace_append (g := 0) (h.nr said) (fun op hop => by simp at hop; rw [hop]; exact hx.1) (fun i a _ op hop b hb _ => (hnt op (by simp at hop ⊢; exact .inl hop) b hb).elim))
      (fun op hop => by simp at hop; rw [hop]; exact hy.1) (fun i a _ op hop b hb _ => (hnt op (by simp at hop ⊢; exact .inr hop) b hb).elim)
  · rcases getElem?_append_cases hi with ⟨_, hi'⟩ | ⟨_, hiu⟩
    · exact Nat.lt_succ_of_lt (h.gs i op hi')
    · simp only [List.mem_toArray, List.mem_cons, List.not_mem_nil, or_false] at hiu
      rcases hiu with rfl | rfl
      · rw [hx.1]; omega
      · rw [hy.1]; omega

/-- Operations that touch nothing: a communication's. -/
theorem OT.mute (h : OT Sh Shun own n t) (hu : ∀ op ∈ u, op.g < n ∧ op.act.touch? = none) : OT Sh Shun own n (t ++ u) := by
  obtain ⟨l⟩ := u
  induction l generalizing t with
  | nil => simpa using h
  | cons x l ih =>
    have e : t ++ (⟨x :: l⟩ : Array MemOp) = (t ++ #[x]) ++ ⟨l⟩ := by apply Array.ext'; simp
    rw [e]
    refine ih (h.app (g := x.g) (hu x (by simp)).1 fun op hop => ?_) fun op hop => hu op (by simp at hop ⊢; exact .inr hop)
    simp only [List.mem_toArray, List.mem_singleton] at hop
    subst hop
    exact ⟨rfl, fun y hy => by rw [(hu op (by simp)).2] at hy; cases hy⟩

/-- At the beginning: goroutine 0 knows whatever has been touched, but for shunned places. -/
theorem OT.begin {B : Nat} (h : Past Shun B t) (hn : ∀ (i : Nat) (op : MemOp), t[i]? = some op → op.g < n) (hsh : ∀ i a, touchAt t i = some a → ¬ Sh a.loc) (hmem : ∀ i a, touchAt t i = some a → a.loc.isMemory = true) : OT Sh Shun (fun _ => 0) n t := by
  refine ⟨fun i op x hi hx hs => absurd hs (hsh i x (by rw [touchAt_of hi]; exact hx)), fun l h1 h2 i a ha hl => ?_, h.clean, hn⟩
  rcases h.known i a ha (hmem i a ha) with hk | ⟨hs, _⟩
  · exact hk
  · exact absurd (hl ▸ hs) h2
end

end Go.Proofs.Ytgpplekabohneaa.Co

namespace Go.Proofs.Ytgpplekabohneaa.Co
open Go Go.Conc

/-- How far it is to a stop. -/
structure Tree where
  isNode : Bool
  sub : isNode = true → World → Tree

abbrev Tree.leaf : Tree := ⟨false, fun h => (Bool.false_ne_true h).elim⟩
abbrev Tree.node (f : World → Tree) : Tree := ⟨true, fun _ => f⟩
theorem Tree.cs {motive : Tree → Prop} (t : Tree) (leaf : motive .leaf) (node : ∀ f, motive (.node f)) : motive t := by
  obtain ⟨b, s⟩ := t
  cases b with
  | false =>
    obtain rfl : s = fun h => (Bool.false_ne_true h).elim := funext fun h => (Bool.false_ne_true h).elim
    exact leaf
  | true => exact node (s rfl)

def Tree.Below (s t : Tree) : Prop := ∃ (h : t.isNode = true) (w : World), s = t.sub h w

theorem tree_wf : WellFounded Tree.Below := by
  refine ⟨fun t => ?_⟩
  induction t with
  | mk b f ih =>
    refine ⟨_, fun s ⟨h, w, hs⟩ => ?_⟩
    subst hs
    exact ih h w

/-- It is as far as the tree says. -/
def Fits (P : Program) (main : Bool) (Ev : Own → Event → Prop) (Stop : Pos → Prop) : Tree → Pos → Prop
  | ⟨false, _⟩, x => ∀ w₁, Rely x.O x.w w₁ → Stop ⟨x.O, x.d, x.g, w₁⟩
  | ⟨true, f⟩, x => x.g.status = .running ∧ ∀ w₁, Rely x.O x.w w₁ → ∃ y, Hop P main Ev x w₁ y ∧ Fits P main Ev Stop (f rfl w₁) y

theorem Run.fits {P : Program} {main : Bool} {Ev : Own → Event → Prop} {Stop : Pos → Prop} {x : Pos} (h : Run P main Ev Stop x) : ∃ t, Fits P main Ev Stop t x := by
  induction h using Run.ind with
  | stop h => exact ⟨.leaf, h⟩
  | @step x next hs h1 _ ih =>
    have pick : ∀ w₁, ∃ t, Rely x.O x.w w₁ → Fits P main Ev Stop t (next w₁) := by
      intro w₁
      rcases Classical.em (Rely x.O x.w w₁) with hr | hr
      · obtain ⟨t, ht⟩ := ih w₁ hr
        exact ⟨t, fun _ => ht⟩
      · exact ⟨.leaf, fun y => absurd y hr⟩
    exact ⟨.node fun w₁ => Classical.choose (pick w₁), hs, fun w₁ hr => ⟨next w₁, h1 w₁ hr, Classical.choose_spec (pick w₁) hr⟩⟩

theorem Fits.rely {P : Program} {main : Bool} {Ev : Own → Event → Prop} {Stop : Pos → Prop} {t : Tree} {x : Pos} (h : Fits P main Ev Stop t x) {w₁ : World} (hr : Rely x.O x.w w₁) : Fits P main Ev Stop t ⟨x.O, x.d, x.g, w₁⟩ := by
  cases t using Tree.cs with
  | leaf => exact fun w₂ h₂ => h w₂ (hr.trans h₂)
  | node f => exact ⟨h.1, fun w₂ h₂ => by obtain ⟨y, h1, h2⟩ := h.2 w₂ (hr.trans h₂); exact ⟨y, ⟨h1.out⟩, h2⟩⟩

/-! ### rows of trees -/
/-- One element of the row has become one beneath it. -/
def StepL {α : Type} (r : α → α → Prop) (l' l : List α) : Prop := ∃ i x y, l[i]? = some x ∧ r y x ∧ l' = l.set i y

theorem acc_cons {α : Type} {r : α → α → Prop} {a : α} (ha : Acc r a) : ∀ {l : List α}, Acc (StepL r) l → Acc (StepL r) (a :: l) := by
  induction ha with
  | intro a _ iha =>
    intro l hl
    induction hl with
    | intro l hl ihl =>
      refine ⟨_, ?_⟩
      rintro l' ⟨i, x, y, hi, hr, rfl⟩
      cases i with
      | zero =>
        simp only [List.getElem?_cons_zero, Option.some.injEq] at hi
        subst hi
        exact iha y hr ⟨l, hl⟩
      | succ i =>
        exact ihl _ ⟨i, x, y, by simpa using hi, hr, rfl⟩

theorem stepL_wf {α : Type} {r : α → α → Prop} (h : WellFounded r) : WellFounded (StepL r) := by
  refine ⟨fun l => ?_⟩
  induction l with
  | nil => exact ⟨_, by rintro l' ⟨i, x, y, hi, _⟩; simp at hi⟩
  | cons a l ih => exact acc_cons (h.apply a) ih

end Go.Proofs.Ytgpplekabohneaa.Co
