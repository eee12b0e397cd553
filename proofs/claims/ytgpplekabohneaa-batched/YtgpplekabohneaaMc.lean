/- The list of events, as it is handed in. -/
import Derived.Test.YtgpplekabohneaaRows
import Derived.Test.YtgpplekabohneaaZa
import Derived.ProofKit
import Derived.OpenShut
import Derived.SizedLaws
import Derived.Deep.Slices
namespace Go.Proofs.Ytgpplekabohneaa
open Go.ChangeShapes Go.WideShapes Go.ChangeAt Go.RowKit Go.Deep

structure Ev where
  k : Int
  t : Int
  a : Int
  b : Int
  c : Int

/-- the i-th event of a row from cell 'off' of block b on -/
def EvAt (w : World) (b off : Nat) (l : List Ev) : Prop :=
  ∀ i (h : i < l.length), (w.cell? ⟨b, off + i * 5, none⟩ = some (.int .i64 l[i].k) ∧ w.cell? ⟨b, off + i * 5 + 1, none⟩ = some (.int .i64 l[i].t) ∧ w.cell? ⟨b, off + i * 5 + 2, none⟩ = some (.int .i64 l[i].a) ∧ w.cell? ⟨b, off + i * 5 + 3, none⟩ = some (.int .i64 l[i].b) ∧ w.cell? ⟨b, off + i * 5 + 4, none⟩ = some (.int .i64 l[i].c)) ∧ R64 l[i].k ∧ R64 l[i].t ∧ R64 l[i].a ∧ R64 l[i].b ∧ R64 l[i].c

theorem EvAt.below {w w' : World} {b off : Nat} {l : List Ev} (h : EvAt w b off l) {B : Nat} (hb : Below B w w') (hB : b < B) : EvAt w' b off l := by
  intro i hi
  obtain ⟨⟨h0, h1, h2, h3, h4⟩, hr⟩ := h i hi
  exact ⟨⟨(hb.cell (p := ⟨b, _, none⟩) hB).trans h0, (hb.cell (p := ⟨b, _, none⟩) hB).trans h1, (hb.cell (p := ⟨b, _, none⟩) hB).trans h2, (hb.cell (p := ⟨b, _, none⟩) hB).trans h3, (hb.cell (p := ⟨b, _, none⟩) hB).trans h4⟩, hr⟩

def EvArg (w : World) (a : Option Addr) (n cap : Nat) (l : List Ev) : Prop :=
  n = l.length ∧ n ≤ cap ∧ cap ≤ maxLen ∧ (0 < n → ∃ b off, a = some ⟨b, off, none⟩ ∧ b < w.heap.size ∧ EvAt w b off l)

theorem cells30 : Try.prog.cellsOf 30 = 5 := by kernel_rfl
theorem cells3 : Try.prog.cellsOf 3 = 1 := by kernel_rfl

/-- one function for all the places, from a value for each -/
theorem choose_at {α : Type} (d : α) {n : Nat} {p : Nat → α → Prop} (h : ∀ i, i < n → ∃ x, p i x) : ∃ f : Nat → α, ∀ i, i < n → p i (f i) :=
  have : Inhabited α := ⟨d⟩
  choose_lt h

theorem some_of_len {α : Type} {xs : List α} {n i : Nat} (h : xs.length = n) (hi : i < n) : ∃ y, xs[i]? = some y :=
  ⟨xs[i]'(by omega), List.getElem?_eq_getElem (by omega)⟩

theorem five {cs : List Value} (h : cs.length = 5) : ∃ a b c d e, cs = [a, b, c, d, e] := by
  match cs, h with
  | [a, b, c, d, e], _ => exact ⟨a, b, c, d, e, rfl⟩

theorem wf_R64 {a : Int} (h : (Lit.int .i64 a).wf = true) : R64 a := by
  simp [Lit.wf, IntKind.min, IntKind.max, IntKind.signed, IntKind.bits] at h
  unfold R64
  omega

section
variable {H : Type} {enc : TypeId × Value → H} {w : World} {sp : Nat → Bool} {held : Bool}

theorem open_int3 {n : Nat} {c : Value} {y : DataW H × List MemPlace} (h : DataW.trod enc Try.prog w 0 sp held n 3 [c] = some y) : ∃ i : Int, c = .int .i64 i ∧ R64 i := by
  obtain ⟨i, h1, _, h3⟩ := DataW.trod_int Try.underlying3 h
  exact ⟨i, by simpa using h1, wf_R64 h3⟩

theorem open_ev {n : Nat} {cs : List Value} {x : DataW H × List MemPlace} (h : DataW.trod enc Try.prog w 0 sp held n 30 cs = some x) :
    ∃ t : Ev, cs = [.int .i64 t.k, .int .i64 t.t, .int .i64 t.a, .int .i64 t.b, .int .i64 t.c] ∧ R64 t.k ∧ R64 t.t ∧ R64 t.a ∧ R64 t.b ∧ R64 t.c := by
  obtain ⟨xs, m, _, _, hl, hlen, hf⟩ := DataW.trod_struct Try.underlying30 h
  rw [cells30] at hl
  obtain ⟨a, b, c, d, e, rfl⟩ := five hl
  have hlen' : xs.length = 5 := hlen
  obtain ⟨y0, e0⟩ := some_of_len hlen' (i := 0) (by omega)
  obtain ⟨y1, e1⟩ := some_of_len hlen' (i := 1) (by omega)
  obtain ⟨y2, e2⟩ := some_of_len hlen' (i := 2) (by omega)
  obtain ⟨y3, e3⟩ := some_of_len hlen' (i := 3) (by omega)
  obtain ⟨y4, e4⟩ := some_of_len hlen' (i := 4) (by omega)
  have f0 : DataW.trod enc Try.prog w 0 sp held m 3 [a] = some y0 := by have := (hf 0 _ rfl).trans e0; simpa [cells3] using this
  have f1 : DataW.trod enc Try.prog w 0 sp held m 3 [b] = some y1 := by have := (hf 1 _ rfl).trans e1; simpa [cells3] using this
  have f2 : DataW.trod enc Try.prog w 0 sp held m 3 [c] = some y2 := by have := (hf 2 _ rfl).trans e2; simpa [cells3] using this
  have f3 : DataW.trod enc Try.prog w 0 sp held m 3 [d] = some y3 := by have := (hf 3 _ rfl).trans e3; simpa [cells3] using this
  have f4 : DataW.trod enc Try.prog w 0 sp held m 3 [e] = some y4 := by have := (hf 4 _ rfl).trans e4; simpa [cells3] using this
  obtain ⟨i0, rfl, r0⟩ := open_int3 (c := a) f0
  obtain ⟨i1, rfl, r1⟩ := open_int3 (c := b) f1
  obtain ⟨i2, rfl, r2⟩ := open_int3 (c := c) f2
  obtain ⟨i3, rfl, r3⟩ := open_int3 (c := d) f3
  obtain ⟨i4, rfl, r4⟩ := open_int3 (c := e) f4
  exact ⟨⟨i0, i1, i2, i3, i4⟩, rfl, r0, r1, r2, r3, r4⟩

/-- a row's address is plain, if it has an element -/
theorem plain_of_cells {a : Addr} {n : Nat} {cs : List Value} (h : w.cells? 0 (a.add 0) n = some cs) (hn : 0 < n) : ∃ b off, a = ⟨b, off, none⟩ ∧ b < w.heap.size := by
  obtain ⟨_, hl, hc⟩ := World.cells?_some h
  obtain ⟨b, off, spot⟩ := a
  obtain ⟨v0, hv0⟩ := some_of_len hl hn
  have h0 := (hc 0 hn).trans hv0
  have e : ((⟨b, off, spot⟩ : Addr).add 0).add 0 = ⟨b, off, spot⟩ := by simp [Addr.add]
  rw [e] at h0
  have hs : spot = none := World.cell?_spot h0
  subst hs
  exact ⟨b, off, rfl, World.block_lt_of_cell? w _ h0⟩

theorem cells_plain {b off k n : Nat} {cs : List Value} (h : w.cells? 0 ((⟨b, off, none⟩ : Addr).add k) n = some cs) : ∀ j v, j < n → cs[j]? = some v → w.cell? ⟨b, off + k + j, none⟩ = some v := by
  obtain ⟨_, hl, hc⟩ := World.cells?_some h
  intro j v hj hv
  have := (hc j hj).trans hv
  rwa [Go.WideShapes.add_plain, Go.WideShapes.add_plain] at this

theorem open_events {n : Nat} {c : Value} {x : DataW H × List MemPlace} (hsp : ∀ b, sp b = true) (h : DataW.trod enc Try.prog w 0 sp held n 25 [c] = some x) :
    ∃ a m cap l, c = .slice a m cap ∧ EvArg w a m cap l := by
  rcases open_slice Try.underlying25 h with ⟨h1, _⟩ | ⟨a, len, cap, m, n', D, Pl, h1, hb, hl, hm, hmm, hx, hel⟩
  · exact ⟨none, 0, 0, [], by simpa using h1, rfl, Nat.le_refl _, Nat.zero_le _, fun h => absurd h (by omega)⟩
  · have hc : c = .slice (some a) len cap := by simpa using h1
    rw [hsp, if_pos rfl] at hmm
    subst hmm
    rw [cells30] at hel
    obtain ⟨f, hf⟩ := choose_at (⟨0, 0, 0, 0, 0⟩ : Ev) (p := fun i t => w.cells? 0 (a.add (i * 5)) 5 = some [.int .i64 t.k, .int .i64 t.t, .int .i64 t.a, .int .i64 t.b, .int .i64 t.c] ∧ R64 t.k ∧ R64 t.t ∧ R64 t.a ∧ R64 t.b ∧ R64 t.c) (fun i (hi : i < m) => by
      obtain ⟨cs', h2, h3⟩ := hel i hi
      obtain ⟨t, rfl, hr⟩ := open_ev h3
      exact ⟨t, h2, hr⟩)
    refine ⟨some a, len, m, (List.range len).map f, hc, by simp, hl, hm, fun h0 => ?_⟩
    have hz := (hf 0 (by omega)).1
    rw [Nat.zero_mul] at hz
    obtain ⟨b, off, rfl, hbl⟩ := plain_of_cells hz (by omega)
    refine ⟨b, off, rfl, hbl, fun i hi => ?_⟩
    have hi' : i < len := by simpa using hi
    obtain ⟨g, hr⟩ := hf i (by omega)
    have hcell := cells_plain g
    simp only [List.getElem_map, List.getElem_range]
    exact ⟨⟨hcell 0 _ (by omega) rfl, hcell 1 _ (by omega) rfl, hcell 2 _ (by omega) rfl, hcell 3 _ (by omega) rfl, hcell 4 _ (by omega) rfl⟩, hr⟩

end

theorem ownK : ownKnob Try.prog.godebug = none := by kernel_rfl
theorem laidK : laidOutB Try.prog = true := by kernel_rfl

end Go.Proofs.Ytgpplekabohneaa
