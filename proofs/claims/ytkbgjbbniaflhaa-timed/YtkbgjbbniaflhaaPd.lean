/- Mappings in memory; 'takeMarks', 'slices.Index', 'slices.Contains', 'hasPeer'. -/
import Derived.Test.YtkbgjbbniaflhaaPc
import Derived.Deep.LoopGhost
import Derived.Deep.AppendLies
import Derived.WalkMore
import Derived.ScopeJumps
namespace Go.Proofs.Ytkbgjbbniaflhaa
open Go.RowKit

/-- of what lay in w nothing has turned in w' but blocks of X -/
structure Fr (X : Nat → Prop) (w w' : World) : Prop where
  os : w'.os = w.os
  tape : w'.tape = w.tape
  output : w'.output = w.output
  size : w.heap.size ≤ w'.heap.size
  block : ∀ k, k < w.heap.size → ¬ X k → w'.heap[k]? = w.heap[k]?

theorem Fr.refl (X : Nat → Prop) (w : World) : Fr X w w := ⟨rfl, rfl, rfl, Nat.le_refl _, fun _ _ _ => rfl⟩

theorem Fr.trans {X : Nat → Prop} {a b c : World} (h : Fr X a b) (k : Fr X b c) : Fr X a c :=
  ⟨k.os.trans h.os, k.tape.trans h.tape, k.output.trans h.output, Nat.le_trans h.size k.size, fun i hi hn => (k.block i (Nat.lt_of_lt_of_le hi h.size) hn).trans (h.block i hi hn)⟩

/-- .. where what the second step may turn is new, or may turn anyway -/
theorem Fr.trans' {X Y : Nat → Prop} {a b c : World} (h : Fr X a b) (k : Fr Y b c) (hY : ∀ i, Y i → i < a.heap.size → X i) : Fr X a c :=
  ⟨k.os.trans h.os, k.tape.trans h.tape, k.output.trans h.output, Nat.le_trans h.size k.size, fun i hi hn => (k.block i (Nat.lt_of_lt_of_le hi h.size) (fun y => hn (hY i y hi))).trans (h.block i hi hn)⟩

theorem Fr.mono {X Y : Nat → Prop} {a b : World} (h : Fr X a b) (hY : ∀ i, X i → i < a.heap.size → Y i) : Fr Y a b :=
  ⟨h.os, h.tape, h.output, h.size, fun i hi hn => h.block i hi (fun x => hn (hY i x hi))⟩

theorem Fr.of_below {X : Nat → Prop} {a b : World} (h : Below a.heap.size a b) : Fr X a b := ⟨h.os, h.tape, h.output, h.size, fun i hi _ => h.block i hi⟩

theorem Fr.of_grown {X : Nat → Prop} {a b : World} {row : Option Nat} (h : a.grownBy b row) (hr : ∀ k, row = some k → k < a.heap.size → X k) : Fr X a b :=
  ⟨h.os, h.tape, h.output, h.size, fun i hi hn => h.block i hi (fun e => hn (hr i e.symm hi))⟩

theorem Fr.alloc {X : Nat → Prop} {a b : World} (h : Fr X a b) (o : Obj) : Fr X a (b.alloc o) :=
  h.trans' (Y := fun _ => False) (Fr.of_below ((Below.refl _ _).alloc (Nat.le_refl _) o)) (fun _ f _ => f.elim)

theorem Fr.drew {X : Nat → Prop} {a b : World} (h : Fr X a b) : Fr X a b.drew := ⟨h.os, h.tape, h.output, h.size, h.block⟩

theorem Fr.setCell {X : Nat → Prop} {a b : World} (h : Fr X a b) {p : Addr} (u : Value) (hX : p.block < a.heap.size → X p.block) : Fr X a (b.setCell p u) :=
  h.trans' (Y := fun k => k = p.block) ⟨rfl, rfl, rfl, by simp [World.setCell], fun k _ hk => Below.heap_setCell b p u k hk⟩ (fun i hi hl => by subst hi; exact hX hl)

theorem Fr.cell {X : Nat → Prop} {a b : World} (h : Fr X a b) {k o : Nat} (hk : k < a.heap.size) (hX : ¬ X k) : b.cell? ⟨k, o, none⟩ = a.cell? ⟨k, o, none⟩ := World.cell?_of_block (w := a) (h.block k hk hX)

theorem Fr.some {X : Nat → Prop} {a b : World} (h : Fr X a b) {k : Nat} {o : Obj} (hk : a.heap[k]? = some o) (hX : ¬ X k) : b.heap[k]? = some o := (h.block k (Array.getElem?_eq_some_iff.1 hk).1 hX).trans hk

/-- a store into a block -/
theorem setB {w : World} {g : Nat} {cs : Array Value} {e : TypeId} {fz : Nat × Nat} (h : w.heap[g]? = some (.cells cs e fz)) (i : Nat) (v : Value) :
    (w.setCell ⟨g, i, none⟩ v).heap[g]? = some (.cells (cs.setIfInBounds i v) e fz) := by
  have hlt : g < w.heap.size := (Array.getElem?_eq_some_iff.1 h).1
  simp [World.setCell, Array.getElem?_modify, h]

/-- a mapping: what the document tells of it -/
structure Mp where
  proto : Int
  ia : Int
  ip : Int
  port : Int
  peers : List Int
  st : Int
  idle : Int
  fo : Bool
  fi : Bool

def mpC (m : Mp) (sv : Value) : Array Value := #[.int .i64 m.proto, .int .i64 m.ia, .int .i64 m.ip, .int .i64 m.port, sv, .int .i64 m.st, .int .i64 m.idle, .bool m.fo, .bool m.fi]

def intsV (l : List Int) : List Value := l.map (Value.int .i64)

/-- a mapping in memory: its block g, its list of peers sv -/
def Mem (w : World) (g : Nat) (sv : Value) (m : Mp) : Prop :=
  w.heap[g]? = some (.cells (mpC m sv) 105 (0, 0)) ∧ w.ownsRow 0 3 1 sv m.peers.length (intsV m.peers)

/-- the marks of a stream's packet -/
def marksF (m : Mp) (out syn fin rst : Bool) : Mp :=
  let m1 := if out && syn && m.st == 3 then { m with st := 1, fo := false, fi := false } else if !out && m.st == 1 then { m with st := 2 } else m
  let m2 := if fin then (if out then { m1 with fo := true } else { m1 with fi := true }) else m1
  if (fin && m2.fo && m2.fi) || rst then { m2 with st := 3 } else m2

theorem marksF_peers (m : Mp) (a b c d : Bool) : (marksF m a b c d).peers = m.peers := by
  unfold marksF
  dsimp only
  repeat' split
  all_goals rfl

/-- a scope in which the run may jump on, once, to a label further down -/
theorem wp_scope_fwd {P : Program} {a : Act} {w : World} {Q : Exit → Act → World → Prop} {c rest : Code} (l : Nat) (hf : findLabel c l = some rest)
    (h : c.wp P (Exit.jump l (fun a' w' => rest.wp P (Exit.noGoto Q) a' w') Q) a w) : (Code.scope c).wp P Q a w :=
  wp_scope_jumps l _ (fun _ _ => 0) hf h (fun _ _ hJ => wp_mono hJ (by
    intro e a w h
    cases e <;> first | exact h | exact h.elim))

end Go.Proofs.Ytkbgjbbniaflhaa
