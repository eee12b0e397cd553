/-
  PROVED HERE: 'masquelaw.Passes' answers true whatever script of steps it is given (every New, Table, Tick and Pass of the program at commit 6ffb4a01e7d42954be1140cf727b5cbebf20da7d answers as the document's own answer does, also at packets that went on and are sent back; lists that are handed in or come out are neither changed nor shared), and the script reads behind the call as it read before.
  ITS CONDITION: the script, with all that it leads to, holds at most 1048576 values (the statement's own second form, 'PassesUptoSaid'). No other.
-/
import Derived.Test.YtgpplekabohneaaRows
import Derived.Test.YtgpplekabohneaaXn
import Derived.Test.YtgpplekabohneaaXo
import Derived.ProofKit
import Derived.OpenShut
import Derived.JoinedCond
import Derived.Deep.Slices
namespace Go.Proofs.Ytgpplekabohneaa
open Go.ChangeShapes Go.WideShapes Go.ChangeAt Go.RowKit Go.Deep

theorem cells76 : Try.prog.cellsOf 76 = 6 := by kernel_rfl
theorem cells73 : Try.prog.cellsOf 73 = 4 := by kernel_rfl
theorem cells38 : Try.prog.cellsOf 38 = 15 := by kernel_rfl
theorem cells36 : Try.prog.cellsOf 36 = 4 := by kernel_rfl
theorem cells34 : Try.prog.cellsOf 34 = 2 := by kernel_rfl
theorem cells3 : Try.prog.cellsOf 3 = 1 := by kernel_rfl
theorem cells4 : Try.prog.cellsOf 4 = 1 := by kernel_rfl
theorem cells74 : Try.prog.cellsOf 74 = 1 := by kernel_rfl
theorem cells57 : Try.prog.cellsOf 57 = 1 := by kernel_rfl

/-- one function for all the places, from a value for each -/
theorem choose_at {α : Type} (d : α) {n : Nat} {p : Nat → α → Prop} (h : ∀ i, i < n → ∃ x, p i x) : ∃ f : Nat → α, ∀ i, i < n → p i (f i) :=
  have : Inhabited α := ⟨d⟩
  choose_lt h

/-- what a value is made of is counted in it -/
theorem bulk_mem {H : Type} : ∀ {l : List (DataW H)} {d : DataW H}, d ∈ l → Rows.uptoBulk d ≤ Rows.uptoBulkAll l
  | x :: r, d, h => by
    unfold Rows.uptoBulkAll
    rcases List.mem_cons.1 h with rfl | h
    · omega
    · have := bulk_mem h
      omega

theorem bulk_pos {H : Type} (d : DataW H) : 0 < Rows.uptoBulk d := by
  cases d with
  | lit l => cases l <;> (unfold Rows.uptoBulk; omega)
  | nil => unfold Rows.uptoBulk; omega
  | ptr d => unfold Rows.uptoBulk; omega
  | slice e s => unfold Rows.uptoBulk; omega
  | agg p => unfold Rows.uptoBulk; omega
  | iface t d => unfold Rows.uptoBulk; omega
  | map e => unfold Rows.uptoBulk; omega
  | held h => unfold Rows.uptoBulk; omega

theorem bulk_len {H : Type} : ∀ (l : List (DataW H)), l.length ≤ Rows.uptoBulkAll l
  | [] => Nat.zero_le _
  | x :: r => by
    have h1 := bulk_pos x
    have h2 := bulk_len r
    unfold Rows.uptoBulkAll
    rw [List.length_cons]
    omega

theorem bulk_slice {H : Type} (es sp : List (DataW H)) : Rows.uptoBulkAll es ≤ Rows.uptoBulk (.slice es sp) := by
  unfold Rows.uptoBulk
  omega

section
variable {H : Type} {enc : TypeId × Value → H} {w : World} {sp : Nat → Bool} {held : Bool}

theorem some_of_len {α : Type} {xs : List α} {n i : Nat} (h : xs.length = n) (hi : i < n) : ∃ y, xs[i]? = some y :=
  ⟨xs[i]'(by omega), List.getElem?_eq_getElem (by omega)⟩

theorem two {cs : List Value} (h : cs.length = 2) : ∃ a b, cs = [a, b] := by
  match cs, h with
  | [a, b], _ => exact ⟨a, b, rfl⟩

theorem four {cs : List Value} (h : cs.length = 4) : ∃ a b c d, cs = [a, b, c, d] := by
  match cs, h with
  | [a, b, c, d], _ => exact ⟨a, b, c, d, rfl⟩

theorem six {cs : List Value} (h : cs.length = 6) : ∃ a b c d e f, cs = [a, b, c, d, e, f] := by
  match cs, h with
  | [a, b, c, d, e, f], _ => exact ⟨a, b, c, d, e, f, rfl⟩

theorem fifteen {cs : List Value} (h : cs.length = 15) : ∃ a b c d e f g i j k l m n o p, cs = [a, b, c, d, e, f, g, i, j, k, l, m, n, o, p] := by
  match cs, h with
  | [a, b, c, d, e, f, g, i, j, k, l, m, n, o, p], _ => exact ⟨a, b, c, d, e, f, g, i, j, k, l, m, n, o, p, rfl⟩

theorem open_int3 {n : Nat} {c : Value} {y : DataW H × List MemPlace} (h : DataW.trod enc Try.prog w 0 sp held n 3 [c] = some y) : ∃ i : Int, c = .int .i64 i ∧ (Lit.int .i64 i).wf = true := by
  obtain ⟨i, h1, _, h3⟩ := DataW.trod_int Try.underlying3 h
  exact ⟨i, by simpa using h1, h3⟩

theorem open_bool4 {n : Nat} {c : Value} {y : DataW H × List MemPlace} (h : DataW.trod enc Try.prog w 0 sp held n 4 [c] = some y) : ∃ b : Bool, c = .bool b := by
  obtain ⟨b, h1, _⟩ := DataW.trod_bool Try.underlying4 h
  exact ⟨b, by simpa using h1⟩

theorem open_end {n : Nat} {a b : Value} {y : DataW H × List MemPlace} (h : DataW.trod enc Try.prog w 0 sp held n 34 [a, b] = some y) : ∃ i j : Int, a = .int .i64 i ∧ b = .int .i64 j := by
  obtain ⟨xs, m, _, _, hl, hlen, hf⟩ := DataW.trod_struct Try.underlying34 h
  have hlen' : xs.length = 2 := hlen
  obtain ⟨y0, e0⟩ := some_of_len hlen' (i := 0) (by omega)
  obtain ⟨y1, e1⟩ := some_of_len hlen' (i := 1) (by omega)
  have f0 : DataW.trod enc Try.prog w 0 sp held m 3 [a] = some y0 := by have := (hf 0 _ rfl).trans e0; simpa [cells3] using this
  have f1 : DataW.trod enc Try.prog w 0 sp held m 3 [b] = some y1 := by have := (hf 1 _ rfl).trans e1; simpa [cells3] using this
  obtain ⟨i0, rfl, _⟩ := open_int3 (c := a) f0
  obtain ⟨i1, rfl, _⟩ := open_int3 (c := b) f1
  exact ⟨i0, i1, rfl, rfl⟩

theorem open_quote {n : Nat} {a b c d : Value} {y : DataW H × List MemPlace} (h : DataW.trod enc Try.prog w 0 sp held n 36 [a, b, c, d] = some y) : ∃ i j k l : Int, a = .int .i64 i ∧ b = .int .i64 j ∧ c = .int .i64 k ∧ d = .int .i64 l := by
  obtain ⟨xs, m, _, _, hl, hlen, hf⟩ := DataW.trod_struct Try.underlying36 h
  have hlen' : xs.length = 2 := hlen
  obtain ⟨y0, e0⟩ := some_of_len hlen' (i := 0) (by omega)
  obtain ⟨y1, e1⟩ := some_of_len hlen' (i := 1) (by omega)
  have f0 : DataW.trod enc Try.prog w 0 sp held m 34 [a, b] = some y0 := by have := (hf 0 _ rfl).trans e0; simpa [cells34] using this
  have f1 : DataW.trod enc Try.prog w 0 sp held m 34 [c, d] = some y1 := by have := (hf 1 _ rfl).trans e1; simpa [cells34] using this
  obtain ⟨i0, i1, rfl, rfl⟩ := open_end f0
  obtain ⟨i2, i3, rfl, rfl⟩ := open_end f1
  exact ⟨i0, i1, i2, i3, rfl, rfl, rfl, rfl⟩

theorem open_pk {n : Nat} {cs : List Value} {x : DataW H × List MemPlace} (h : DataW.trod enc Try.prog w 0 sp held n 38 cs = some x) : ∃ p : Pk, cs = (pkC p).toList := by
  obtain ⟨xs, m, _, _, hl, hlen, hf⟩ := DataW.trod_struct Try.underlying38 h
  rw [cells38] at hl
  obtain ⟨a, b, c, d, e, f, g, i, j, k, l, o, p, q, r, rfl⟩ := fifteen hl
  have hlen' : xs.length = 10 := hlen
  obtain ⟨y0, e0⟩ := some_of_len hlen' (i := 0) (by omega)
  obtain ⟨y1, e1⟩ := some_of_len hlen' (i := 1) (by omega)
  obtain ⟨y2, e2⟩ := some_of_len hlen' (i := 2) (by omega)
  obtain ⟨y3, e3⟩ := some_of_len hlen' (i := 3) (by omega)
  obtain ⟨y4, e4⟩ := some_of_len hlen' (i := 4) (by omega)
  obtain ⟨y5, e5⟩ := some_of_len hlen' (i := 5) (by omega)
  obtain ⟨y6, e6⟩ := some_of_len hlen' (i := 6) (by omega)
  obtain ⟨y7, e7⟩ := some_of_len hlen' (i := 7) (by omega)
  obtain ⟨y8, e8⟩ := some_of_len hlen' (i := 8) (by omega)
  obtain ⟨y9, e9⟩ := some_of_len hlen' (i := 9) (by omega)
  have f0 : DataW.trod enc Try.prog w 0 sp held m 3 [a] = some y0 := by have := (hf 0 _ rfl).trans e0; simpa [cells3, cells4, cells34, cells36] using this
  have f1 : DataW.trod enc Try.prog w 0 sp held m 3 [b] = some y1 := by have := (hf 1 _ rfl).trans e1; simpa [cells3, cells4, cells34, cells36] using this
  have f2 : DataW.trod enc Try.prog w 0 sp held m 4 [c] = some y2 := by have := (hf 2 _ rfl).trans e2; simpa [cells3, cells4, cells34, cells36] using this
  have f3 : DataW.trod enc Try.prog w 0 sp held m 34 [d, e] = some y3 := by have := (hf 3 _ rfl).trans e3; simpa [cells3, cells4, cells34, cells36] using this
  have f4 : DataW.trod enc Try.prog w 0 sp held m 34 [f, g] = some y4 := by have := (hf 4 _ rfl).trans e4; simpa [cells3, cells4, cells34, cells36] using this
  have f5 : DataW.trod enc Try.prog w 0 sp held m 4 [i] = some y5 := by have := (hf 5 _ rfl).trans e5; simpa [cells3, cells4, cells34, cells36] using this
  have f6 : DataW.trod enc Try.prog w 0 sp held m 4 [j] = some y6 := by have := (hf 6 _ rfl).trans e6; simpa [cells3, cells4, cells34, cells36] using this
  have f7 : DataW.trod enc Try.prog w 0 sp held m 4 [k] = some y7 := by have := (hf 7 _ rfl).trans e7; simpa [cells3, cells4, cells34, cells36] using this
  have f8 : DataW.trod enc Try.prog w 0 sp held m 4 [l] = some y8 := by have := (hf 8 _ rfl).trans e8; simpa [cells3, cells4, cells34, cells36] using this
  have f9 : DataW.trod enc Try.prog w 0 sp held m 36 [o, p, q, r] = some y9 := by have := (hf 9 _ rfl).trans e9; simpa [cells3, cells4, cells34, cells36] using this
  obtain ⟨i0, rfl, _⟩ := open_int3 (c := a) f0
  obtain ⟨i1, rfl, _⟩ := open_int3 (c := b) f1
  obtain ⟨i2, rfl⟩ := open_bool4 f2
  obtain ⟨i3, i4, rfl, rfl⟩ := open_end f3
  obtain ⟨i5, i6, rfl, rfl⟩ := open_end f4
  obtain ⟨i7, rfl⟩ := open_bool4 f5
  obtain ⟨i8, rfl⟩ := open_bool4 f6
  obtain ⟨i9, rfl⟩ := open_bool4 f7
  obtain ⟨i10, rfl⟩ := open_bool4 f8
  obtain ⟨i11, i12, i13, i14, rfl, rfl, rfl, rfl⟩ := open_quote f9
  exact ⟨⟨i0, i1, i2, i3, i4, i5, i6, i7, i8, i9, i10, i11, i12, i13, i14⟩, rfl⟩

theorem open_ten {n : Nat} {cs : List Value} {x : DataW H × List MemPlace} (h : DataW.trod enc Try.prog w 0 sp held n 73 cs = some x) :
    ∃ t : Ten, cs = [.int .i64 t.tag, .int .i64 t.outer, .int .i64 t.low, .int .i64 t.high] := by
  obtain ⟨xs, m, _, _, hl, hlen, hf⟩ := DataW.trod_struct Try.underlying73 h
  rw [cells73] at hl
  obtain ⟨a, b, c, d, rfl⟩ := four hl
  have hlen' : xs.length = 4 := hlen
  obtain ⟨y0, e0⟩ := some_of_len hlen' (i := 0) (by omega)
  obtain ⟨y1, e1⟩ := some_of_len hlen' (i := 1) (by omega)
  obtain ⟨y2, e2⟩ := some_of_len hlen' (i := 2) (by omega)
  obtain ⟨y3, e3⟩ := some_of_len hlen' (i := 3) (by omega)
  have f0 : DataW.trod enc Try.prog w 0 sp held m 3 [a] = some y0 := by have := (hf 0 _ rfl).trans e0; simpa [cells3] using this
  have f1 : DataW.trod enc Try.prog w 0 sp held m 3 [b] = some y1 := by have := (hf 1 _ rfl).trans e1; simpa [cells3] using this
  have f2 : DataW.trod enc Try.prog w 0 sp held m 3 [c] = some y2 := by have := (hf 2 _ rfl).trans e2; simpa [cells3] using this
  have f3 : DataW.trod enc Try.prog w 0 sp held m 3 [d] = some y3 := by have := (hf 3 _ rfl).trans e3; simpa [cells3] using this
  obtain ⟨i0, rfl, _⟩ := open_int3 (c := a) f0
  obtain ⟨i1, rfl, _⟩ := open_int3 (c := b) f1
  obtain ⟨i2, rfl, _⟩ := open_int3 (c := c) f2
  obtain ⟨i3, rfl, _⟩ := open_int3 (c := d) f3
  exact ⟨⟨i0, i1, i2, i3⟩, rfl⟩

/-- a row's address is plain, if it has an element -/
theorem plain_of_cells {a : Addr} {n : Nat} {cs : List Value} (h : w.cells? 0 (a.add 0) n = some cs) (hn : 0 < n) : ∃ b off, a = ⟨b, off, none⟩ ∧ b < w.heap.size := by
  obtain ⟨_, hl, hc⟩ := World.cells?_some h
  obtain ⟨b, off, spot⟩ := a
  obtain ⟨v0, hv0⟩ := some_of_len hl hn
  have h0 := (hc 0 hn).trans hv0
  have e : ((⟨b, off, spot⟩ : Addr).add 0).add 0 = ⟨b, off, spot⟩ := by simp [Addr.add]
  rw [e] at h0
  have hs : spot = none := World.cell?_spot h0
  subst hs
  exact ⟨b, off, rfl, World.block_lt_of_cell? w _ h0⟩

theorem cells_plain {b off k n : Nat} {cs : List Value} (h : w.cells? 0 ((⟨b, off, none⟩ : Addr).add k) n = some cs) : ∀ j v, j < n → cs[j]? = some v → w.cell? ⟨b, off + k + j, none⟩ = some v := by
  obtain ⟨_, hl, hc⟩ := World.cells?_some h
  intro j v hj hv
  have := (hc j hj).trans hv
  rwa [Go.WideShapes.add_plain, Go.WideShapes.add_plain] at this

theorem open_tens {n : Nat} {c : Value} {x : DataW H × List MemPlace} (hsp : ∀ b, sp b = true) (h : DataW.trod enc Try.prog w 0 sp held n 74 [c] = some x) :
    ∃ tp m tc ts, c = .slice tp m tc ∧ B0.TenArg w (.slice tp m tc) ts ∧ m = ts.length ∧ m ≤ Rows.uptoBulk x.1 := by
  rcases open_slice Try.underlying74 h with ⟨h1, _⟩ | ⟨a, len, cap, m, n', D, Pl, h1, hb, hl, hm, hmm, hx, hel⟩
  · refine ⟨none, 0, 0, [], by simpa using h1, .inl (.inl ⟨rfl, rfl⟩), rfl, Nat.zero_le _⟩
  · have hc : c = .slice (some a) len cap := by simpa using h1
    rw [hsp, if_pos rfl] at hmm
    subst hmm
    have hbulk : len ≤ Rows.uptoBulk x.1 := by
      rw [hx]
      have h1 := bulk_slice ((List.range len).map D) ((List.range (m - len)).map fun j => D (len + j))
      have h2 := bulk_len ((List.range len).map D)
      rw [List.length_map, List.length_range] at h2
      exact Nat.le_trans h2 h1
    rw [cells73] at hel
    obtain ⟨f, hf⟩ := choose_at (⟨0, 0, 0, 0⟩ : Ten) (p := fun i t => w.cells? 0 (a.add (i * 4)) 4 = some [.int .i64 t.tag, .int .i64 t.outer, .int .i64 t.low, .int .i64 t.high]) (fun i (hi : i < m) => by
      obtain ⟨cs', h2, h3⟩ := hel i hi
      obtain ⟨t, rfl⟩ := open_ten h3
      exact ⟨t, h2⟩)
    refine ⟨some a, len, m, (List.range len).map f, hc, ?_, by simp, hbulk⟩
    by_cases h0 : len = 0
    · subst h0
      exact .inr ⟨a, m, rfl, rfl⟩
    · have hz := hf 0 (by omega)
      rw [Nat.zero_mul] at hz
      obtain ⟨b, off, rfl, hbl⟩ := plain_of_cells hz (by omega)
      refine .inl (.inr ⟨b, off, m, by simp, trivial, by simpa using hl, hm, hbl, fun i hi => ?_⟩)
      have hi' : i < len := by simpa using hi
      have hcell := cells_plain (hf i (by omega))
      have g0 := hcell 0 _ (by omega) rfl
      have g1 := hcell 1 _ (by omega) rfl
      have g2 := hcell 2 _ (by omega) rfl
      have g3 := hcell 3 _ (by omega) rfl
      simp only [List.getElem_map, List.getElem_range]
      exact ⟨g0, g1, g2, g3⟩

theorem open_pks {n : Nat} {c : Value} {x : DataW H × List MemPlace} (hsp : ∀ b, sp b = true) (h : DataW.trod enc Try.prog w 0 sp held n 57 [c] = some x) :
    ∃ pp pn pc l, c = .slice pp pn pc ∧ PkArg w (fun _ => 0) (.slice pp pn pc) l := by
  rcases open_slice Try.underlying57 h with ⟨h1, _⟩ | ⟨a, len, cap, m, n', D, Pl, h1, hb, hl, hm, hmm, hx, hel⟩
  · exact ⟨none, 0, 0, [], by simpa using h1, none, 0, rfl, Nat.le_refl _, Nat.zero_le _, fun h0 => absurd h0 (by simp)⟩
  · have hc : c = .slice (some a) len cap := by simpa using h1
    rw [hsp, if_pos rfl] at hmm
    subst hmm
    rw [cells38] at hel
    obtain ⟨f, hf⟩ := choose_at pk0 (p := fun i p => w.cells? 0 (a.add (i * 15)) 15 = some (pkC p).toList) (fun i (hi : i < m) => by
      obtain ⟨cs', h2, h3⟩ := hel i hi
      obtain ⟨t, rfl⟩ := open_pk h3
      exact ⟨t, h2⟩)
    refine ⟨some a, len, m, (List.range len).map f, hc, some a, m, by simp, by simpa using hl, hm, fun h0 => ?_⟩
    have h0' : 0 < len := by simpa using h0
    have hz := hf 0 (by omega)
    rw [Nat.zero_mul] at hz
    obtain ⟨b, off, rfl, hbl⟩ := plain_of_cells hz (by omega)
    refine ⟨b, off, rfl, hbl, rfl, fun i hi o v hv => ?_⟩
    have hi' : i < len := by simpa using hi
    simp only [List.getElem_map, List.getElem_range] at hv
    refine cells_plain (hf i (by omega)) o v ?_ hv
    have := (List.getElem?_eq_some_iff.1 hv).1
    exact this

theorem open_op {n : Nat} {cs : List Value} {x : DataW H × List MemPlace} (hsp : ∀ b, sp b = true) (h : DataW.trod enc Try.prog w 0 sp held n 76 cs = some x) :
    ∃ o : OpP, cs = [.int .i64 o.kd, .int .i64 o.on, .int .i64 o.a, .int .i64 o.b, .slice o.tp o.n o.tc, .slice o.pp o.pn o.pc] ∧ (-9223372036854775808 ≤ o.on ∧ o.on ≤ 9223372036854775807) ∧ (-9223372036854775808 ≤ o.b ∧ o.b ≤ 9223372036854775807) ∧ B0.TenArg w (.slice o.tp o.n o.tc) o.ts ∧ o.n = o.ts.length ∧ o.n ≤ Rows.uptoBulk x.1 ∧ PkArg w (fun _ => 0) (.slice o.pp o.pn o.pc) o.ps := by
  obtain ⟨xs, m, _, hx, hl, hlen, hf⟩ := DataW.trod_struct Try.underlying76 h
  rw [cells76] at hl
  obtain ⟨a, b, c, d, e, f, rfl⟩ := six hl
  have hlen' : xs.length = 6 := hlen
  obtain ⟨y0, e0⟩ := some_of_len hlen' (i := 0) (by omega)
  obtain ⟨y1, e1⟩ := some_of_len hlen' (i := 1) (by omega)
  obtain ⟨y2, e2⟩ := some_of_len hlen' (i := 2) (by omega)
  obtain ⟨y3, e3⟩ := some_of_len hlen' (i := 3) (by omega)
  obtain ⟨y4, e4⟩ := some_of_len hlen' (i := 4) (by omega)
  obtain ⟨y5, e5⟩ := some_of_len hlen' (i := 5) (by omega)
  have f0 : DataW.trod enc Try.prog w 0 sp held m 3 [a] = some y0 := by have := (hf 0 _ rfl).trans e0; simpa [cells3] using this
  have f1 : DataW.trod enc Try.prog w 0 sp held m 3 [b] = some y1 := by have := (hf 1 _ rfl).trans e1; simpa [cells3] using this
  have f2 : DataW.trod enc Try.prog w 0 sp held m 3 [c] = some y2 := by have := (hf 2 _ rfl).trans e2; simpa [cells3] using this
  have f3 : DataW.trod enc Try.prog w 0 sp held m 3 [d] = some y3 := by have := (hf 3 _ rfl).trans e3; simpa [cells3] using this
  have f4 : DataW.trod enc Try.prog w 0 sp held m 74 [e] = some y4 := by have := (hf 4 _ rfl).trans e4; simpa [cells3, cells74] using this
  have f5 : DataW.trod enc Try.prog w 0 sp held m 57 [f] = some y5 := by have := (hf 5 _ rfl).trans e5; simpa [cells3, cells74, cells57] using this
  obtain ⟨i0, rfl, _⟩ := open_int3 (c := a) f0
  obtain ⟨i1, rfl, w1⟩ := open_int3 (c := b) f1
  obtain ⟨i2, rfl, _⟩ := open_int3 (c := c) f2
  obtain ⟨i3, rfl, w3⟩ := open_int3 (c := d) f3
  obtain ⟨tp, k, tc, ts, rfl, hT, hk, hbulk⟩ := open_tens hsp f4
  obtain ⟨pp, pn, pc, l, rfl, hP⟩ := open_pks hsp f5
  refine ⟨⟨i0, i1, i2, i3, tp, k, tc, pp, pn, pc, ts, l⟩, rfl, bounds_i64 w1, bounds_i64 w3, hT, hk, ?_, hP⟩
  have hy : y4.1 ∈ xs.map (·.1) := List.mem_map.2 ⟨y4, List.mem_of_getElem? e4, rfl⟩
  have hle := bulk_mem hy
  rw [hx]
  simp only [Rows.uptoBulk]
  show k ≤ _
  omega

theorem open_script {n : Nat} {c : Value} {x : DataW H × List MemPlace} (hsp : ∀ b, sp b = true) (h : DataW.trod enc Try.prog w 0 sp held n 22 [c] = some x) (hk : Rows.uptoBulk x.1 ≤ 1048576) :
    (∃ tp tc, c = .slice tp 0 tc) ∨ ∃ sb off m cap l, c = .slice (some ⟨sb, off, none⟩) m cap ∧ m = l.length ∧ m ≤ cap ∧ cap ≤ maxLen ∧ m ≤ 1100000 ∧ sb < w.heap.size ∧ OpsP w sb off l := by
  rcases open_slice Try.underlying22 h with ⟨h1, _⟩ | ⟨a, len, cap, m, n', D, Pl, h1, hb, hl, hm, hmm, hx, hel⟩
  · exact .inl ⟨none, 0, by simpa using h1⟩
  · have hc : c = .slice (some a) len cap := by simpa using h1
    rw [hsp, if_pos rfl] at hmm
    subst hmm
    by_cases h0 : len = 0
    · subst h0
      exact .inl ⟨some a, m, hc⟩
    · right
      rw [hx] at hk
      have hb2 := bulk_slice ((List.range len).map D) ((List.range (m - len)).map fun j => D (len + j))
      have hb1 := bulk_len ((List.range len).map D)
      simp only at hk
      rw [cells76] at hel
      obtain ⟨f, hf⟩ := choose_at (⟨0, 0, 0, 0, none, 0, 0, none, 0, 0, [], []⟩ : OpP) (p := fun i o => w.cells? 0 (a.add (i * 6)) 6 = some [.int .i64 o.kd, .int .i64 o.on, .int .i64 o.a, .int .i64 o.b, .slice o.tp o.n o.tc, .slice o.pp o.pn o.pc] ∧ (-9223372036854775808 ≤ o.on ∧ o.on ≤ 9223372036854775807) ∧ (-9223372036854775808 ≤ o.b ∧ o.b ≤ 9223372036854775807) ∧ B0.TenArg w (.slice o.tp o.n o.tc) o.ts ∧ o.n = o.ts.length ∧ o.n ≤ Rows.uptoBulk (D i) ∧ PkArg w (fun _ => 0) (.slice o.pp o.pn o.pc) o.ps) (fun i (hi : i < m) => by
        obtain ⟨cs', h2, h3⟩ := hel i hi
        obtain ⟨o, rfl, h4⟩ := open_op hsp h3
        exact ⟨o, h2, h4⟩)
      have hz := (hf 0 (by omega)).1
      rw [Nat.zero_mul] at hz
      obtain ⟨b, off, rfl, hbl⟩ := plain_of_cells hz (by omega)
      have hlen2 : ((List.range len).map D).length = len := by simp
      refine ⟨b, off, len, m, (List.range len).map f, hc, by simp, hl, hm, by omega, hbl, fun i hi => ?_⟩
      have hi' : i < len := by simpa using hi
      obtain ⟨g, hon, hbb, hT, hn, hbk, hP⟩ := hf i (by omega)
      have hcell := cells_plain g
      have hD : D i ∈ (List.range len).map D := List.mem_map.2 ⟨i, by simpa using hi', rfl⟩
      have hp := bulk_mem hD
      simp only [List.getElem_map, List.getElem_range]
      exact ⟨hcell 0 _ (by omega) rfl, hcell 1 _ (by omega) rfl, hcell 2 _ (by omega) rfl, hcell 3 _ (by omega) rfl, hcell 4 _ (by omega) rfl, hcell 5 _ (by omega) rfl, hon, hbb, hT, hn, by omega, hP⟩

end

theorem own : ownKnob Try.prog.godebug = none := by kernel_rfl
theorem laid : laidOutB Try.prog = true := by kernel_rfl

set_option maxRecDepth 100000 in
theorem passes_contract (H : Type) (enc : TypeId × Value → H) (W : World) (base : Nat) (args : Array Value) (ds gs : List (DataW H)) (before : List MemPlace)
    (hval : ∀ (j : Nat) t v, Try.f4.params[j]? = some t → args[j]? = some v → Value.okWide Try.prog W .any base t v)
    (hW : DataW.Whole enc Try.prog Try.f4.params.toList Rows.passesSpec.vars false W args.toList ds gs before) (hk : Rows.uptoSmall H (ds ++ gs) = true) :
    Calls Try.prog 4 args W fun e W' => ∃ v, e = .returned v ∧ Rows.passesSpec.post enc Try.prog Try.f4 false true false false W args v W' := by
  have hW' := hW
  obtain ⟨p, q, hA0, hV, rfl, hfz, hnd⟩ := hW
  have hA : DataW.TrodAll enc Try.prog W 0 (fun _ => true) true Try.f4.params.toList args.toList ds p := hA0
  rw [Try.params4] at hA hval
  obtain ⟨v0, vs0, d0, ds0, p0, q0, hargs, rfl, rfl, h0, r0⟩ := trodAll_cons hA
  obtain ⟨rfl, rfl, rfl⟩ := trodAll_nil r0
  obtain rfl : args = #[v0] := by cases args; simp_all
  obtain ⟨rfl, rfl⟩ := trodVars_none hV
  clear hA0
  simp only [List.append_nil] at hW' hk
  have hbulk : Rows.uptoBulk d0 ≤ 1048576 := by
    have h : Rows.uptoBulkAll [d0] ≤ 1048576 := of_decide_eq_true hk
    simp only [Rows.uptoBulkAll] at h
    omega
  have hlt : ∀ x ∈ p0, x.block < W.heap.size := fun x hx => by simpa using hW'.lt x hx
  obtain ⟨a0, len, cap, rfl⟩ := okWide_slice Try.underlying22 (hval 0 22 v0 rfl rfl)
  have fin : ∀ W', Below W.heap.size W W' → ∃ v, Ending.returned (.bool true) = .returned v ∧ Rows.passesSpec.post enc Try.prog Try.f4 false true false false W #[.slice a0 len cap] v W' := by
    intro W' bel
    refine ⟨_, rfl, _, _, _, [], p0 ++ [], [], hW', ?_, ?_, rfl, bel.frame _, fun h => by cases h⟩
    · exact trodAll_cons_mk (shut_bool Try.underlying4 _) trodAll_mk0
    · exact trodAll_cons_mk (Below.trod laid (by kernel_rfl) (of_decide_eq_true (by kernel_rfl)) h0 bel hlt) trodAll_mk0
  obtain ⟨fuel, hf⟩ := h0
  rcases open_script (c := .slice a0 len cap) (fun _ => rfl) hf hbulk with ⟨tp, tc, hc⟩ | ⟨sb, off, m, cap', l, hc, hm, hcap, hcm, hm2, hsb, hO⟩
  · rw [hc]
    rw [hc] at fin
    refine (passes_nil tp tc W).mono ?_
    rintro e W' ⟨rfl, hb⟩
    exact fin W' hb
  · rw [hc]
    rw [hc] at fin
    refine (passes_some W sb off m cap' l hm hcap hcm hm2 hsb hO).mono ?_
    rintro e W' ⟨rfl, hb⟩
    exact fin W' hb

set_option maxRecDepth 100000 in
theorem passes_lifted (os : Os) (started : os.Started) (H : Type) (enc : TypeId × Value → H) (F : Stop.Interp) :
    ReturnsInHanded {} Try.checked os 4 .any ((Rows.OpenSpec.upto Rows.passesSpec).pre6 enc Try.prog Try.f4 Rows.passesUptoRow.domain false) (((Rows.OpenSpec.upto Rows.passesSpec).at F).post enc Try.prog Try.f4 false true false false) := by
  refine returnsInHanded_of_cond (C := Try.checked) (s := Rows.OpenSpec.upto Rows.passesSpec) (k := Rows.uptoSmall) rfl own started (by kernel_rfl) Try.func4
    (OpenSpec.witness (enc := enc) (C := Try.checked) (s := Rows.OpenSpec.upto Rows.passesSpec) (k := Rows.uptoSmall) rfl false ⟨#[], #[.slice none 0 0], []⟩ 8 (by kernel_rfl) (by kernel_rfl) (by kernel_rfl)
      (x := ([.nil], [], [])) (by kernel_rfl) rfl (by kernel_rfl)) ?_
  intro W base args ds gs before hval hW _ hk _
  exact passes_contract H enc W base args ds gs before hval hW hk

theorem passesUpto_holds : Rows.PassesUptoSaid :=
  leaving_of_cond 4 Try.f4 rfl rfl rfl rfl rfl rfl rfl ⟨rfl, rfl, rfl, rfl, rfl⟩ rfl rfl rfl rfl rfl (by kernel_rfl) Try.func4 (by kernel_rfl)
    (of_decide_eq_true (by kernel_rfl)) (by unfold Func.isWrapper; first | (rw [if_pos (by decide +kernel)]; kernel_rfl) | (rw [if_neg (by decide +kernel)]; exact ⟨rfl, rfl⟩))
    (fun os started H enc _ F => leaving_of_handed (passes_lifted os started H enc F))

end Go.Proofs.Ytgpplekabohneaa
