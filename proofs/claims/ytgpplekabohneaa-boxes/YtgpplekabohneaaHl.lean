/-
  PROVED HERE: 'masquelaw.Boxes' answers true whatever script of steps it is given (every New, Table and Tick of the program at commit 6ffb4a01e7d42954be1140cf727b5cbebf20da7d answers as the document's own answer does, lists that are handed in or come out are neither changed nor shared), and the script reads behind the call as it read before.
  ITS CONDITIONS: none beyond the form's own reach (each slice that is read takes at most 2^47 - 4096 bytes).
-/
import Derived.Test.YtgpplekabohneaaRows
import Derived.Test.YtgpplekabohneaaHk
import Derived.Test.YtgpplekabohneaaLa
import Derived.ProofKit
import Derived.OpenShut
import Derived.SizedLaws
import Derived.Deep.Slices
namespace Go.Proofs.Ytgpplekabohneaa.B0
open Go.ChangeShapes Go.WideShapes Go.ChangeAt Go.RowKit Go.Deep

theorem cells76 : Try.prog.cellsOf 76 = 6 := by kernel_rfl
theorem cells73 : Try.prog.cellsOf 73 = 4 := by kernel_rfl
theorem cells3 : Try.prog.cellsOf 3 = 1 := by kernel_rfl
theorem cells74 : Try.prog.cellsOf 74 = 1 := by kernel_rfl
theorem cells57 : Try.prog.cellsOf 57 = 1 := by kernel_rfl

/-- one function for all the places, from a value for each -/
theorem choose_at {α : Type} (d : α) {n : Nat} {p : Nat → α → Prop} (h : ∀ i, i < n → ∃ x, p i x) : ∃ f : Nat → α, ∀ i, i < n → p i (f i) :=
  have : Inhabited α := ⟨d⟩
  choose_lt h

theorem bytes76 : Try.prog.bytesOf 76 = 80 := by kernel_rfl
theorem bytes73 : Try.prog.bytesOf 73 = 32 := by kernel_rfl

/-- what an element weighs its list weighs -/
theorem weigh_mem {H : Type} {e : TypeId} : ∀ {l : List (DataW H)} {d : DataW H}, d ∈ l → ∀ n ∈ d.weights Try.prog e, n ∈ DataW.weightsAll Try.prog e l
  | x :: r, d, h, n, hn => by
    unfold DataW.weightsAll
    rcases List.mem_cons.1 h with rfl | h
    · exact List.mem_append.2 (.inl hn)
    · exact List.mem_append.2 (.inr (weigh_mem h n hn))

section
variable {H : Type} {enc : TypeId × Value → H} {w : World} {sp : Nat → Bool} {held : Bool}

theorem some_of_len {α : Type} {xs : List α} {n i : Nat} (h : xs.length = n) (hi : i < n) : ∃ y, xs[i]? = some y :=
  ⟨xs[i]'(by omega), List.getElem?_eq_getElem (by omega)⟩

theorem four {cs : List Value} (h : cs.length = 4) : ∃ a b c d, cs = [a, b, c, d] := by
  match cs, h with
  | [a, b, c, d], _ => exact ⟨a, b, c, d, rfl⟩

theorem six {cs : List Value} (h : cs.length = 6) : ∃ a b c d e f, cs = [a, b, c, d, e, f] := by
  match cs, h with
  | [a, b, c, d, e, f], _ => exact ⟨a, b, c, d, e, f, rfl⟩

theorem open_int3 {n : Nat} {c : Value} {y : DataW H × List MemPlace} (h : DataW.trod enc Try.prog w 0 sp held n 3 [c] = some y) : ∃ i : Int, c = .int .i64 i ∧ (Lit.int .i64 i).wf = true := by
  obtain ⟨i, h1, _, h3⟩ := DataW.trod_int Try.underlying3 h
  exact ⟨i, by simpa using h1, h3⟩

theorem open_ten {n : Nat} {cs : List Value} {x : DataW H × List MemPlace} (h : DataW.trod enc Try.prog w 0 sp held n 73 cs = some x) :
    ∃ t : Ten, cs = [.int .i64 t.tag, .int .i64 t.outer, .int .i64 t.low, .int .i64 t.high] := by
  obtain ⟨xs, m, _, _, hl, hlen, hf⟩ := DataW.trod_struct Try.underlying73 h
  rw [cells73] at hl
  obtain ⟨a, b, c, d, rfl⟩ := four hl
  have hlen' : xs.length = 4 := hlen
  obtain ⟨y0, e0⟩ := some_of_len hlen' (i := 0) (by omega)
  obtain ⟨y1, e1⟩ := some_of_len hlen' (i := 1) (by omega)
  obtain ⟨y2, e2⟩ := some_of_len hlen' (i := 2) (by omega)
  obtain ⟨y3, e3⟩ := some_of_len hlen' (i := 3) (by omega)
  have f0 : DataW.trod enc Try.prog w 0 sp held m 3 [a] = some y0 := by have := (hf 0 _ rfl).trans e0; simpa [cells3] using this
  have f1 : DataW.trod enc Try.prog w 0 sp held m 3 [b] = some y1 := by have := (hf 1 _ rfl).trans e1; simpa [cells3] using this
  have f2 : DataW.trod enc Try.prog w 0 sp held m 3 [c] = some y2 := by have := (hf 2 _ rfl).trans e2; simpa [cells3] using this
  have f3 : DataW.trod enc Try.prog w 0 sp held m 3 [d] = some y3 := by have := (hf 3 _ rfl).trans e3; simpa [cells3] using this
  obtain ⟨i0, rfl, _⟩ := open_int3 (c := a) f0
  obtain ⟨i1, rfl, _⟩ := open_int3 (c := b) f1
  obtain ⟨i2, rfl, _⟩ := open_int3 (c := c) f2
  obtain ⟨i3, rfl, _⟩ := open_int3 (c := d) f3
  exact ⟨⟨i0, i1, i2, i3⟩, rfl⟩

/-- a row's address is plain, if it has an element -/
theorem plain_of_cells {a : Addr} {n : Nat} {cs : List Value} (h : w.cells? 0 (a.add 0) n = some cs) (hn : 0 < n) : ∃ b off, a = ⟨b, off, none⟩ ∧ b < w.heap.size := by
  obtain ⟨_, hl, hc⟩ := World.cells?_some h
  obtain ⟨b, off, spot⟩ := a
  obtain ⟨v0, hv0⟩ := some_of_len hl hn
  have h0 := (hc 0 hn).trans hv0
  have e : ((⟨b, off, spot⟩ : Addr).add 0).add 0 = ⟨b, off, spot⟩ := by simp [Addr.add]
  rw [e] at h0
  have hs : spot = none := World.cell?_spot h0
  subst hs
  exact ⟨b, off, rfl, World.block_lt_of_cell? w _ h0⟩

theorem cells_plain {b off k n : Nat} {cs : List Value} (h : w.cells? 0 ((⟨b, off, none⟩ : Addr).add k) n = some cs) : ∀ j v, j < n → cs[j]? = some v → w.cell? ⟨b, off + k + j, none⟩ = some v := by
  obtain ⟨_, hl, hc⟩ := World.cells?_some h
  intro j v hj hv
  have := (hc j hj).trans hv
  rwa [Go.WideShapes.add_plain, Go.WideShapes.add_plain] at this

theorem open_tens {n : Nat} {c : Value} {x : DataW H × List MemPlace} (hsp : ∀ b, sp b = true) (h : DataW.trod enc Try.prog w 0 sp held n 74 [c] = some x) (hw : ∀ k ∈ x.1.weights Try.prog 74, k ≤ reachBytes) :
    ∃ tp m tc ts, c = .slice tp m tc ∧ TenArg w (.slice tp m tc) ts ∧ m = ts.length ∧ m ≤ 4398046511104 := by
  rcases open_slice Try.underlying74 h with ⟨h1, _⟩ | ⟨a, len, cap, m, n', D, Pl, h1, hb, hl, hm, hmm, hx, hel⟩
  · refine ⟨none, 0, 0, [], by simpa using h1, .inl (.inl ⟨rfl, rfl⟩), rfl, Nat.zero_le _⟩
  · have hc : c = .slice (some a) len cap := by simpa using h1
    rw [hsp, if_pos rfl] at hmm
    subst hmm
    have hbulk : len ≤ 4398046511104 := by
      rw [hx] at hw
      have h1 := hw (((List.range len).map D).length + ((List.range (m - len)).map fun j => D (len + j)).length |> (· * Try.prog.bytesOf 73)) (by simp [DataW.weights, Try.underlying74])
      rw [bytes73] at h1
      simp only [List.length_map, List.length_range] at h1
      have h2 : reachBytes ≤ 140737488355328 := Nat.le_of_lt reachBytes_lt
      omega
    rw [cells73] at hel
    obtain ⟨f, hf⟩ := choose_at (⟨0, 0, 0, 0⟩ : Ten) (p := fun i t => w.cells? 0 (a.add (i * 4)) 4 = some [.int .i64 t.tag, .int .i64 t.outer, .int .i64 t.low, .int .i64 t.high]) (fun i (hi : i < m) => by
      obtain ⟨cs', h2, h3⟩ := hel i hi
      obtain ⟨t, rfl⟩ := open_ten h3
      exact ⟨t, h2⟩)
    refine ⟨some a, len, m, (List.range len).map f, hc, ?_, by simp, hbulk⟩
    by_cases h0 : len = 0
    · subst h0
      exact .inr ⟨a, m, rfl, rfl⟩
    · have hz := hf 0 (by omega)
      rw [Nat.zero_mul] at hz
      obtain ⟨b, off, rfl, hbl⟩ := plain_of_cells hz (by omega)
      refine .inl (.inr ⟨b, off, m, by simp, trivial, by simpa using hl, hm, hbl, fun i hi => ?_⟩)
      have hi' : i < len := by simpa using hi
      have hcell := cells_plain (hf i (by omega))
      have g0 := hcell 0 _ (by omega) rfl
      have g1 := hcell 1 _ (by omega) rfl
      have g2 := hcell 2 _ (by omega) rfl
      have g3 := hcell 3 _ (by omega) rfl
      simp only [List.getElem_map, List.getElem_range]
      exact ⟨g0, g1, g2, g3⟩

theorem open_op {n : Nat} {cs : List Value} {x : DataW H × List MemPlace} (hsp : ∀ b, sp b = true) (h : DataW.trod enc Try.prog w 0 sp held n 76 cs = some x) (hw : ∀ k ∈ x.1.weights Try.prog 76, k ≤ reachBytes) :
    ∃ o : OpD, cs = [.int .i64 o.kd, .int .i64 o.on, .int .i64 o.a, .int .i64 o.b, .slice o.tp o.n o.tc, .slice o.pp o.pn o.pc] ∧ (-9223372036854775808 ≤ o.on ∧ o.on ≤ 9223372036854775807) ∧ TenArg w (.slice o.tp o.n o.tc) o.ts ∧ o.n = o.ts.length ∧ o.n ≤ 4398046511104 := by
  obtain ⟨xs, m, _, hx, hl, hlen, hf⟩ := DataW.trod_struct Try.underlying76 h
  rw [cells76] at hl
  obtain ⟨a, b, c, d, e, f, rfl⟩ := six hl
  have hlen' : xs.length = 6 := hlen
  obtain ⟨y0, e0⟩ := some_of_len hlen' (i := 0) (by omega)
  obtain ⟨y1, e1⟩ := some_of_len hlen' (i := 1) (by omega)
  obtain ⟨y2, e2⟩ := some_of_len hlen' (i := 2) (by omega)
  obtain ⟨y3, e3⟩ := some_of_len hlen' (i := 3) (by omega)
  obtain ⟨y4, e4⟩ := some_of_len hlen' (i := 4) (by omega)
  obtain ⟨y5, e5⟩ := some_of_len hlen' (i := 5) (by omega)
  have f0 : DataW.trod enc Try.prog w 0 sp held m 3 [a] = some y0 := by have := (hf 0 _ rfl).trans e0; simpa [cells3] using this
  have f1 : DataW.trod enc Try.prog w 0 sp held m 3 [b] = some y1 := by have := (hf 1 _ rfl).trans e1; simpa [cells3] using this
  have f2 : DataW.trod enc Try.prog w 0 sp held m 3 [c] = some y2 := by have := (hf 2 _ rfl).trans e2; simpa [cells3] using this
  have f3 : DataW.trod enc Try.prog w 0 sp held m 3 [d] = some y3 := by have := (hf 3 _ rfl).trans e3; simpa [cells3] using this
  have f4 : DataW.trod enc Try.prog w 0 sp held m 74 [e] = some y4 := by have := (hf 4 _ rfl).trans e4; simpa [cells74] using this
  have f5 : DataW.trod enc Try.prog w 0 sp held m 57 [f] = some y5 := by have := (hf 5 _ rfl).trans e5; simpa [cells57] using this
  obtain ⟨i0, rfl, _⟩ := open_int3 (c := a) f0
  obtain ⟨i1, rfl, w1⟩ := open_int3 (c := b) f1
  obtain ⟨i2, rfl, _⟩ := open_int3 (c := c) f2
  obtain ⟨i3, rfl, _⟩ := open_int3 (c := d) f3
  have hw4 : ∀ k ∈ y4.1.weights Try.prog 74, k ≤ reachBytes := by
    intro k hk
    refine hw k ?_
    rw [hx]
    unfold DataW.weights
    rw [Try.underlying76]
    exact DataW.weights_mem_each (j := 4) (t := 74) (d := y4.1) rfl (by rw [List.getElem?_map, e4]; rfl) k hk
  obtain ⟨tp, k, tc, ts, rfl, hT, hk, hbulk⟩ := open_tens hsp f4 hw4
  have hp : ∃ pp pn pc, f = .slice pp pn pc := by
    rcases open_slice Try.underlying57 f5 with ⟨h1, _⟩ | ⟨a, len, cap, m, n', D, Pl, h1, _⟩
    · exact ⟨none, 0, 0, by simpa using h1⟩
    · exact ⟨some a, len, cap, by simpa using h1⟩
  obtain ⟨pp, pn, pc, rfl⟩ := hp
  exact ⟨⟨i0, i1, i2, i3, tp, k, tc, pp, pn, pc, ts⟩, rfl, bounds_i64 w1, hT, hk, hbulk⟩

theorem open_script {n : Nat} {c : Value} {x : DataW H × List MemPlace} (hsp : ∀ b, sp b = true) (h : DataW.trod enc Try.prog w 0 sp held n 22 [c] = some x) (hw : ∀ k ∈ x.1.weights Try.prog 22, k ≤ reachBytes) :
    (∃ tp tc, c = .slice tp 0 tc) ∨ ∃ sb off m cap l, c = .slice (some ⟨sb, off, none⟩) m cap ∧ m = l.length ∧ m ≤ cap ∧ cap ≤ maxLen ∧ m ≤ 1759218604441 ∧ sb < w.heap.size ∧ OpsAt w sb off l := by
  rcases open_slice Try.underlying22 h with ⟨h1, _⟩ | ⟨a, len, cap, m, n', D, Pl, h1, hb, hl, hm, hmm, hx, hel⟩
  · exact .inl ⟨none, 0, by simpa using h1⟩
  · have hc : c = .slice (some a) len cap := by simpa using h1
    rw [hsp, if_pos rfl] at hmm
    subst hmm
    by_cases h0 : len = 0
    · subst h0
      exact .inl ⟨some a, m, hc⟩
    · right
      rw [hx] at hw
      have hw2 : ∀ k ∈ (((List.range len).map D).length + ((List.range (m - len)).map fun j => D (len + j)).length) * Try.prog.bytesOf 76 :: (DataW.weightsAll Try.prog 76 ((List.range len).map D) ++ DataW.weightsAll Try.prog 76 ((List.range (m - len)).map fun j => D (len + j))), k ≤ reachBytes := by
        intro k hk
        refine hw k ?_
        unfold DataW.weights
        rw [Try.underlying22]
        exact hk
      have hlen : len ≤ 1759218604441 := by
        have h1 := hw2 _ (List.mem_cons_self ..)
        rw [bytes76] at h1
        simp only [List.length_map, List.length_range] at h1
        have h2 : reachBytes ≤ 140737488355328 := Nat.le_of_lt reachBytes_lt
        omega
      have hwD : ∀ i, i < m → ∀ k ∈ (D i).weights Try.prog 76, k ≤ reachBytes := by
        intro i hi k hk
        refine hw2 k (List.mem_cons_of_mem _ (List.mem_append.2 ?_))
        by_cases hil : i < len
        · exact .inl (weigh_mem (List.mem_map.2 ⟨i, by simpa using hil, rfl⟩) k hk)
        · exact .inr (weigh_mem (List.mem_map.2 ⟨i - len, by simp; omega, by show D (len + (i - len)) = D i; rw [show len + (i - len) = i by omega]⟩) k hk)
      rw [cells76] at hel
      obtain ⟨f, hf⟩ := choose_at (⟨0, 0, 0, 0, none, 0, 0, none, 0, 0, []⟩ : OpD) (p := fun i o => w.cells? 0 (a.add (i * 6)) 6 = some [.int .i64 o.kd, .int .i64 o.on, .int .i64 o.a, .int .i64 o.b, .slice o.tp o.n o.tc, .slice o.pp o.pn o.pc] ∧ (-9223372036854775808 ≤ o.on ∧ o.on ≤ 9223372036854775807) ∧ TenArg w (.slice o.tp o.n o.tc) o.ts ∧ o.n = o.ts.length ∧ o.n ≤ 4398046511104) (fun i (hi : i < m) => by
        obtain ⟨cs', h2, h3⟩ := hel i hi
        obtain ⟨o, rfl, h4⟩ := open_op hsp h3 (hwD i hi)
        exact ⟨o, h2, h4⟩)
      have hz := (hf 0 (by omega)).1
      rw [Nat.zero_mul] at hz
      obtain ⟨b, off, rfl, hbl⟩ := plain_of_cells hz (by omega)
      refine ⟨b, off, len, m, (List.range len).map f, hc, by simp, hl, hm, hlen, hbl, fun i hi => ?_⟩
      have hi' : i < len := by simpa using hi
      obtain ⟨g, hon, hT, hn, hbk⟩ := hf i (by omega)
      have hcell := cells_plain g
      simp only [List.getElem_map, List.getElem_range]
      exact ⟨hcell 0 _ (by omega) rfl, hcell 1 _ (by omega) rfl, hcell 2 _ (by omega) rfl, hcell 3 _ (by omega) rfl, hcell 4 _ (by omega) rfl, hcell 5 _ (by omega) rfl, hon, hT, hn, hbk⟩

end

theorem own : ownKnob Try.prog.godebug = none := by kernel_rfl
theorem laid : laidOutB Try.prog = true := by kernel_rfl

set_option maxRecDepth 100000 in
theorem boxes_contract (H : Type) (enc : TypeId × Value → H) (W : World) (base : Nat) (args : Array Value) (ds gs : List (DataW H)) (before : List MemPlace)
    (hval : ∀ (j : Nat) t v, Try.f3.params[j]? = some t → args[j]? = some v → Value.okWide Try.prog W .any base t v)
    (hW : DataW.Whole enc Try.prog Try.f3.params.toList Rows.boxesSpec.vars false W args.toList ds gs before)
    (hz : (DataW.weightsEach Try.prog (Try.f3.params.toList ++ Rows.boxesSpec.plain.varTypes Try.prog) (ds ++ gs)).all (· ≤ reachBytes) = true) :
    Calls Try.prog 3 args W fun e W' => ∃ v, e = .returned v ∧ Rows.boxesSpec.post enc Try.prog Try.f3 false true false false W args v W' := by
  have hW' := hW
  obtain ⟨p, q, hA0, hV, rfl, hfz, hnd⟩ := hW
  have hA : DataW.TrodAll enc Try.prog W 0 (fun _ => true) true Try.f3.params.toList args.toList ds p := hA0
  rw [Try.params3] at hA hval hz
  obtain ⟨v0, vs0, d0, ds0, p0, q0, hargs, rfl, rfl, h0, r0⟩ := trodAll_cons hA
  obtain ⟨rfl, rfl, rfl⟩ := trodAll_nil r0
  obtain rfl : args = #[v0] := by cases args; simp_all
  obtain ⟨rfl, rfl⟩ := trodVars_none hV
  clear hA0
  simp only [List.append_nil] at hW'
  have hbulk : ∀ k ∈ d0.weights Try.prog 22, k ≤ reachBytes := fun k hk => by
    have := List.all_eq_true.1 hz k (DataW.weights_mem_each (j := 0) (t := 22) (d := d0) rfl rfl k hk)
    simpa using this
  have hlt : ∀ x ∈ p0, x.block < W.heap.size := fun x hx => by simpa using hW'.lt x hx
  obtain ⟨a0, len, cap, rfl⟩ := okWide_slice Try.underlying22 (hval 0 22 v0 rfl rfl)
  have fin : ∀ W', Below W.heap.size W W' → ∃ v, Ending.returned (.bool true) = .returned v ∧ Rows.boxesSpec.post enc Try.prog Try.f3 false true false false W #[.slice a0 len cap] v W' := by
    intro W' bel
    refine ⟨_, rfl, _, _, _, [], p0 ++ [], [], hW', ?_, ?_, rfl, bel.frame _, fun h => by cases h⟩
    · exact trodAll_cons_mk (shut_bool Try.underlying4 _) trodAll_mk0
    · exact trodAll_cons_mk (Below.trod laid (by kernel_rfl) (of_decide_eq_true (by kernel_rfl)) h0 bel hlt) trodAll_mk0
  obtain ⟨fuel, hf⟩ := h0
  rcases open_script (c := .slice a0 len cap) (fun _ => rfl) hf hbulk with ⟨tp, tc, hc⟩ | ⟨sb, off, m, cap', l, hc, hm, hcap, hcm, hm2, hsb, hO⟩
  · rw [hc]
    rw [hc] at fin
    refine (boxes_nil tp tc W).mono ?_
    rintro e W' ⟨rfl, hb⟩
    exact fin W' hb
  · rw [hc]
    rw [hc] at fin
    refine (boxes_some W sb off m cap' l hm hcap hcm hm2 hsb hO).mono ?_
    rintro e W' ⟨rfl, hb⟩
    exact fin W' hb

set_option maxRecDepth 100000 in
theorem boxes_lifted (os : Os) (started : os.Started) (H : Type) (enc : TypeId × Value → H) :
    ReturnsInHanded {} Try.checked os 3 .any (Rows.boxesSpec.pre6 enc Try.prog Try.f3 Rows.boxesRow.domain false) (Rows.boxesSpec.post enc Try.prog Try.f3 false true false false) := by
  refine returnsInHanded_of_change_sized (C := Try.checked) own started (by kernel_rfl) Try.func3
    (ChangeSpec.witness6 (enc := enc) (C := Try.checked) false ⟨#[], #[.slice none 0 0], []⟩ 8 (by kernel_rfl) (by kernel_rfl) (by kernel_rfl) (by kernel_rfl)) ?_
  intro W base args ds gs before hval hW _ hz _
  exact boxes_contract H enc W base args ds gs before hval hW hz

end Go.Proofs.Ytgpplekabohneaa.B0

namespace Go.Proofs.Ytgpplekabohneaa

theorem boxes_holds : Rows.BoxesSaid :=
  OpenClaim.holds_of_wide_leaving 3 Try.f3 rfl rfl rfl rfl rfl rfl rfl ⟨rfl, rfl, rfl, rfl, rfl⟩ rfl rfl rfl rfl rfl (by kernel_rfl) Try.func3 (by kernel_rfl)
    (of_decide_eq_true (by kernel_rfl)) (by unfold Func.isWrapper; first | (rw [if_pos (by decide +kernel)]; kernel_rfl) | (rw [if_neg (by decide +kernel)]; exact ⟨rfl, rfl⟩))
    (fun os started H enc _ => leaving_of_handed (B0.boxes_lifted os started H enc))

end Go.Proofs.Ytgpplekabohneaa
