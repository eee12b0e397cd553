/- A program over memory in two worlds that differ at blocks where the first holds nothing: who comes to an end in the first does the same in the second, and touches none of those blocks. · The small operations do the same in both worlds. · Equality, maps, slices, places: the same in both worlds. -/
import Derived.Test.YtgpplekabohneaaYac
namespace Go.Proofs.Ytgpplekabohneaa.Co
open Go

/-- A number of no type. -/
def badT : TypeId := 1000000007

/-- The second world is the first but at the blocks of D, where the first holds an empty row. -/
structure Twin (P : Program) (K D : Nat → Prop) (x y : World) : Prop where
  sz : x.heap.size = y.heap.size
  tape : x.tape = y.tape
  drawn : x.drawn = y.drawn
  os : x.os = y.os
  output : x.output = y.output
  live : ∀ b, ¬ D b → x.heap[b]? = y.heap[b]?
  dead : ∀ b, D b → x.heap[b]? = some (.cells #[] badT (0, 0))
  tame : ∀ b, D b → (K b ∧ ∃ c t, y.heap[b]? = some (.cells c t (0, 0))) ∨ (¬ K b ∧ ∃ c t, y.heap[b]? = some (.pending c t))
  sub : ∀ b, K b → D b
  hi : ∀ b, D b → P.globals.size ≤ b
  bad : P.info? badT = none
  nop : ∀ (b : Nat) c t, x.heap[b]? ≠ some (.pending c t)

/-- What is listed lies not in K, and below N. -/
def EvN (K : Nat → Prop) (N : Nat) (e : Event) : Prop :=
  match e.loc with
  | .cell a => (¬ K a.block ∧ a.block < N) ∧ e.sync = false
  | .obj b => (¬ K b ∧ b < N) ∧ (e.write = true → e.sync = false)
  | .mark .noRoom => True
  | _ => False

theorem EvN.mono {K : Nat → Prop} {N N' : Nat} (hn : N ≤ N') {e : Event} (h : EvN K N e) : EvN K N' e := by
  unfold EvN at *
  split at h
  · exact ⟨⟨h.1.1, Nat.lt_of_lt_of_le h.1.2 hn⟩, h.2⟩
  · exact ⟨⟨h.1.1, Nat.lt_of_lt_of_le h.1.2 hn⟩, h.2⟩
  · trivial
  · exact h.elim
theorem EvN.one {K : Nat → Prop} {N : Nat} {e0 : Event} (h : EvN K N e0) : ∀ e ∈ #[e0], EvN K N e := by
  intro e he
  simp only [List.mem_toArray, List.mem_singleton] at he
  exact he ▸ h
theorem cell_lt {w : World} {a : Addr} {v : Value} (h : w.cell? a = some v) : a.block < w.heap.size := by
  unfold World.cell? at h
  cases e : w.heap[a.block]? with
  | none => rw [e] at h; cases h
  | some o => exact (Array.getElem?_eq_some_iff.1 e).1

/-- What the second world owes for an end in the first. -/
structure Owes (P : Program) (K D : Nat → Prop) {α : Type} (s : Sem α) (x y : World) (a : α) (x' : World) : Prop where
  out : ∃ y' es', (∀ es, s.runT P y es = (.ok a y', es ++ es')) ∧ Twin P K D x' y' ∧ (∀ e ∈ es', EvN K y'.heap.size e) ∧ y.heap.size ≤ y'.heap.size ∧ ∀ b, D b → y'.heap[b]? = y.heap[b]?

/-- It does the same in both. -/
structure Sm (P : Program) {α : Type} (s : Sem α) : Prop where
  ok : ∀ {K D x y a x'}, Twin P K D x y → s.run P x = .ok a x' → Owes P K D s x y a x'
  halt : ∀ {K D x y h x'}, Twin P K D x y → s.run P x = .halt h x' → HaltOk h
  tapes : Tapes P s

section
variable {P : Program} {K D : Nat → Prop} {x y : World}

theorem Twin.frozen (h : Twin P K D x y) (a : Addr) : x.frozen? a = y.frozen? a := by
  unfold World.frozen?
  by_cases hd : D a.block
  · rw [h.dead _ hd]
    rcases h.tame _ hd with ⟨_, c, t, e⟩ | ⟨_, c, t, e⟩ <;> rw [e] <;> simp
  · rw [h.live _ hd]

theorem Twin.cell (h : Twin P K D x y) {a : Addr} {v : Value} (e : x.cell? a = some v) : ¬ D a.block ∧ y.cell? a = some v := by
  have hd : ¬ D a.block := by
    intro hd
    simp [World.cell?, h.dead _ hd] at e
  refine ⟨hd, ?_⟩
  unfold World.cell? at e ⊢
  rw [← h.live _ hd]; exact e

theorem Twin.noCell (h : Twin P K D x y) {a : Addr} (hd : ¬ D a.block) (e : x.cell? a = none) : y.cell? a = none := by
  unfold World.cell? at e ⊢
  rw [← h.live _ hd]; exact e

theorem leBytes_len : ∀ (n m : Nat), (leBytes n m).length = n
  | 0, _ => rfl
  | n + 1, m => by simp [leBytes, leBytes_len n]

theorem bytes_pos {v : Value} {l : List UInt8} (h : v.bytes? = some l) : 0 < l.length := by
  cases v <;> simp only [Value.bytes?, Option.some.injEq, reduceCtorEq] at h
  · subst h; simp
  · rename_i k n; subst h; rw [leBytes_len]; cases k <;> decide
  · rename_i k n; subst h; rw [leBytes_len]; cases k <;> decide
  · rename_i k a b; subst h; rw [List.length_append, leBytes_len, leBytes_len]; cases k <;> decide

theorem seen_dead {w : World} {at_ : Addr} {u : TypeId} {a : Addr} {b : Bool} (h : w.heap[at_.block]? = some (.cells #[] badT (0, 0))) : ∃ m, w.seen P at_ u a b = .error m := by
  have hs : ∀ e f s n, 0 < n → ∃ m, seenCells P #[] e (f + 1) s (s + n) = .error m := by
    intro e f s n hn
    unfold seenCells
    rw [if_neg (by omega)]
    dsimp only
    split
    · exact ⟨_, rfl⟩
    · split
      · exact ⟨_, rfl⟩
      · simp
  unfold World.seen
  rw [h]
  by_cases h1 : (a.spot.isSome || at_.spot.isSome) = true
  · rw [if_pos h1]; exact ⟨_, rfl⟩
  rw [if_neg h1]
  cases h2 : plainCell P P.depth u a.off with
  | none => exact ⟨_, rfl⟩
  | some like =>
    cases h3 : like.bytes? with
    | none => simp only [h3]; exact ⟨_, rfl⟩
    | some l =>
      simp only [h3, Option.map_some]
      cases h4 : byteOfCell P P.depth u a.off with
      | none => exact ⟨_, rfl⟩
      | some β =>
        dsimp only
        by_cases h5 : P.cellsOf badT = 0
        · rw [if_pos h5]; exact ⟨_, rfl⟩
        · rw [if_neg h5]
          cases h6 : byteOfCell P P.depth badT (at_.off % P.cellsOf badT) with
          | none => exact ⟨_, rfl⟩
          | some b0 =>
            obtain ⟨m, hm⟩ := hs badT l.length (at_.off / P.cellsOf badT * P.bytesOf badT + b0 + β) l.length (bytes_pos h3)
            exact ⟨m, by simp only [bind, Except.bind, pure, Except.pure]; rw [hm]⟩

theorem seen_lt {w : World} {at_ : Addr} {u : TypeId} {a : Addr} {b : Bool} {r : _} (h : w.seen P at_ u a b = .ok r) : at_.block < w.heap.size := by
  cases e : w.heap[at_.block]? with
  | some o => exact (Array.getElem?_eq_some_iff.1 e).1
  | none =>
    unfold World.seen at h
    rw [e] at h
    by_cases h1 : (a.spot.isSome || at_.spot.isSome) = true
    · rw [if_pos h1] at h; cases h
    rw [if_neg h1] at h
    cases h2 : plainCell P P.depth u a.off with
    | none => simp only [h2] at h; cases h
    | some like =>
      simp only [h2] at h
      cases h3 : like.bytes? with
      | none => simp only [h3] at h; cases h
      | some l =>
        simp only [h3, Option.map_some] at h
        cases h4 : byteOfCell P P.depth u a.off with
        | none => simp only [h4] at h; cases h
        | some β => simp only [h4] at h; cases h

/-! ### the worlds step by step -/
theorem Twin.push (h : Twin P K D x y) {o : Obj} (ho : ∀ c t, o ≠ .pending c t) : Twin P K D { x with heap := x.heap.push o } { y with heap := y.heap.push o } := by
  have lt : ∀ b, D b → b < x.heap.size := fun b hb => (Array.getElem?_eq_some_iff.1 (h.dead b hb)).1
  have lt' : ∀ b, D b → b < y.heap.size := fun b hb => h.sz ▸ lt b hb
  refine ⟨by simp [h.sz], h.tape, h.drawn, h.os, h.output, fun b hb => ?_, fun b hb => ?_, fun b hb => ?_, h.sub, h.hi, h.bad, fun b c t => ?_⟩
  · simp only [Array.getElem?_push, h.sz, h.live b hb]
  · simp only [Array.getElem?_push]
    rw [if_neg (by have := lt b hb; omega)]; exact h.dead b hb
  · simp only [Array.getElem?_push]
    rw [if_neg (by have := lt' b hb; omega)]; exact h.tame b hb
  · simp only [Array.getElem?_push]
    split
    · intro e; exact ho c t (Option.some.inj e)
    · exact h.nop b c t

/-- A block that is not dead is changed. -/
theorem Twin.turn (h : Twin P K D x y) {b : Nat} (hb : ¬ D b) {x' y' : World} {f : Obj → Obj} (hx : x' = { x with heap := x.heap.modify b f }) (hy : y' = { y with heap := y.heap.modify b f }) (hf : ∀ o c t, x.heap[b]? = some o → f o ≠ .pending c t) : Twin P K D x' y' := by
  subst hx hy
  refine ⟨by simp [h.sz], h.tape, h.drawn, h.os, h.output, fun n hn => ?_, fun n hn => ?_, fun n hn => ?_, h.sub, h.hi, h.bad, fun n c t => ?_⟩
  · simp only [Array.getElem?_modify, h.live n hn]
  · have : b ≠ n := fun e => hb (e ▸ hn)
    simp only [Array.getElem?_modify, this, if_false]; exact h.dead n hn
  · have : b ≠ n := fun e => hb (e ▸ hn)
    simp only [Array.getElem?_modify, this, if_false]; exact h.tame n hn
  · simp only [Array.getElem?_modify]
    split
    · rename_i e; subst e
      intro he
      obtain ⟨o, h1, h2⟩ := Option.map_eq_some_iff.1 he
      exact hf o c t h1 h2
    · exact h.nop n c t

theorem Twin.put (h : Twin P K D x y) {b : Nat} (hb : ¬ D b) {o : Obj} (ho : ∀ c t, o ≠ .pending c t) : Twin P K D { x with heap := x.heap.setIfInBounds b o } { y with heap := y.heap.setIfInBounds b o } := by
  have e : ∀ w : World, w.heap.setIfInBounds b o = w.heap.modify b fun _ => o := by
    intro w
    apply Array.ext_getElem?
    intro i
    simp only [Array.getElem?_setIfInBounds, Array.getElem?_modify]
    by_cases hi : b = i
    · subst hi
      simp only [if_true]
      by_cases hl : b < w.heap.size <;> simp [hl]
    · simp [hi]
  rw [e, e]
  exact h.turn hb rfl rfl fun _ c t _ => ho c t

theorem Twin.setCell (h : Twin P K D x y) {a : Addr} (ha : ¬ D a.block) (v : Value) : Twin P K D (x.setCell a v) (y.setCell a v) := by
  refine h.turn ha rfl rfl ?_
  intro o c t ho
  cases o with
  | pending c' t' => exact absurd ho (h.nop _ _ _)
  | _ => simp

theorem Twin.draw (h : Twin P K D x y) : Twin P K D { x with drawn := x.drawn + 1 } { y with drawn := y.drawn + 1 } :=
  ⟨h.sz, h.tape, by rw [h.drawn], h.os, h.output, h.live, h.dead, h.tame, h.sub, h.hi, h.bad, h.nop⟩

theorem setCell_dead {w : World} {a : Addr} {v : Value} {b : Nat} (h : a.block ≠ b) : (w.setCell a v).heap[b]? = w.heap[b]? := by
  simp [World.setCell, Array.getElem?_modify, h]

/-! ### programs -/
variable {α β : Type}

theorem Owes.step {s s' : Sem α} {x y x1 y1 : World} {a : α} {x' : World} (h : Owes P K D s' x1 y1 a x') (es1 : Array Event) (hr : ∀ es, s.runT P y es = s'.runT P y1 (es ++ es1)) (he : ∀ e ∈ es1, EvN K y1.heap.size e) (hs : y.heap.size ≤ y1.heap.size) (hd : ∀ b, D b → y1.heap[b]? = y.heap[b]?) : Owes P K D s x y a x' := by
  obtain ⟨y', es', h1, h2, h3, h4, h5⟩ := h.out
  refine ⟨y', es1 ++ es', fun es => by rw [hr, h1, Array.append_assoc], h2, fun e hx => ?_, Nat.le_trans hs h4, fun b hb => (h5 b hb).trans (hd b hb)⟩
  rcases Array.mem_append.1 hx with h | h
  · exact (he e h).mono h4
  · exact h3 e h

theorem Sm.pure (a : α) : Sm P (.pure a) := by
  refine ⟨fun {K D x y a' x'} h hr => ?_, fun h hr => (by cases hr), Tapes.pure a⟩
  simp only [Sem.run, Result.ok.injEq] at hr
  obtain ⟨rfl, rfl⟩ := hr
  exact ⟨y, #[], fun es => by simp [Sem.runT], h, by simp, Nat.le_refl _, fun _ _ => rfl⟩

theorem Sm.halts {h : Halt} (hh : HaltOk h) : Sm P (.halt h : Sem α) := by
  refine ⟨fun _ hr => (by cases hr), fun _ hr => ?_, Tapes.halt _⟩
  simp only [Sem.run, Result.halt.injEq] at hr
  obtain ⟨rfl, rfl⟩ := hr
  exact hh

theorem Sm.program {k : Program → Sem α} (h : Sm P (k P)) : Sm P (.program k) :=
  ⟨fun hs hr => (h.ok hs hr).step #[] (fun es => by simp [-Sem.runT_eq, Sem.runT]) (by simp) (Nat.le_refl _) fun _ _ => rfl, fun hs hr => h.halt hs hr, Tapes.program h.tapes⟩

theorem Sm.noRoom {k : Sem α} (h : Sm P k) : Sm P (.mark .noRoom k) :=
  ⟨fun hs hr => (h.ok hs hr).step #[⟨.mark .noRoom, false, true⟩] (fun es => by simp [-Sem.runT_eq, Sem.runT]) (by simp [EvN]) (Nat.le_refl _) fun _ _ => rfl, fun hs hr => h.halt hs hr, Tapes.mark h.tapes⟩

theorem Sm.choose {q : Question} {k : Nat → Sem α} (h : ∀ n, Sm P (k n)) : Sm P (.choose q k) := by
  by_cases hq : q.forced
  · refine ⟨fun {K D x y a x'} hs hr => ?_, fun hs hr => ?_, Tapes.choose fun n => (h n).tapes⟩
    · simp only [Sem.run, hq, if_true] at hr
      exact ((h 0).ok hs hr).step #[] (fun es => by simp [-Sem.runT_eq, Sem.runT, hq]) (by simp) (Nat.le_refl _) fun _ _ => rfl
    · simp only [Sem.run, hq, if_true] at hr
      exact (h 0).halt hs hr
  · refine ⟨fun {K D x y a x'} hs hr => ?_, fun hs hr => ?_, Tapes.choose fun n => (h n).tapes⟩
    · simp only [Sem.run, hq] at hr
      exact ((h _).ok hs.draw hr).step #[] (fun es => by simp [-Sem.runT_eq, Sem.runT, hq, hs.tape, hs.drawn]) (by simp) (Nat.le_refl _) fun _ _ => rfl
    · simp only [Sem.run, hq] at hr
      exact (h _).halt hs.draw hr

theorem Sm.new {o : Obj} {k : Nat → Sem α} (ho : ∀ c t, o ≠ .pending c t) (h : ∀ n, Sm P (k n)) : Sm P (.new o k) := by
  refine ⟨fun {K D x y a x'} hs hr => ?_, fun hs hr => (h _).halt (hs.push ho) hr, Tapes.new fun n => (h n).tapes⟩
  simp only [Sem.run] at hr
  refine ((h _).ok (hs.push ho) hr).step #[] (fun es => by simp [-Sem.runT_eq, Sem.runT, hs.sz]) (by simp) (by simp) fun b hb => ?_
  have : b < y.heap.size := hs.sz ▸ (Array.getElem?_eq_some_iff.1 (hs.dead b hb)).1
  simp only [Array.getElem?_push]
  rw [if_neg (by omega)]

theorem Sm.frozen {ad : Addr} {k : Bool → Sem α} (h : ∀ b, Sm P (k b)) : Sm P (.frozen ad k) :=
  ⟨fun {K D x y a x'} hs hr => ((h _).ok hs hr).step #[] (fun es => by simp [-Sem.runT_eq, Sem.runT, hs.frozen]) (by simp) (Nat.le_refl _) fun _ _ => rfl, fun hs hr => (h _).halt hs hr, Tapes.frozen fun b => (h b).tapes⟩

theorem noCell_ok (hs : Twin P K D x y) (a : Addr) (s : String) : HaltOk (x.noCell a s) := by
  unfold World.noCell
  split
  · rename_i h; exact absurd h (hs.nop _ _ _)
  · trivial
  · trivial

theorem viewLoad_dead {w : World} {at_ : Addr} {u : TypeId} {a : Addr} {b : Bool} (h : w.heap[at_.block]? = some (.cells #[] badT (0, 0))) : ∃ m, w.viewLoad P at_ u a b = .error m := by
  obtain ⟨m, hm⟩ := seen_dead (P := P) (u := u) (a := a) (b := b) h
  exact ⟨m, by unfold World.viewLoad; rw [hm]; rfl⟩

theorem viewLoad_same {w w' : World} {at_ : Addr} {u : TypeId} {a : Addr} {b : Bool} (h : w.heap[at_.block]? = w'.heap[at_.block]?) : w.viewLoad P at_ u a b = w'.viewLoad P at_ u a b := by
  unfold World.viewLoad
  rw [seen_same h]

theorem viewLoad_at {w : World} {at_ : Addr} {u : TypeId} {a : Addr} {b : Bool} {v : Value} {l : List Addr} (h : w.viewLoad P at_ u a b = .ok (v, l)) : ∀ c ∈ l, c.block = at_.block := by
  unfold World.viewLoad at h
  cases hs : w.seen P at_ u a b with
  | error m => rw [hs] at h; cases h
  | ok r =>
    obtain ⟨c, e, fz, first, like, cells⟩ := r
    rw [hs] at h
    simp only [bind, Except.bind] at h
    split at h
    · simp only [pure, Except.pure, Except.ok.injEq, Prod.mk.injEq] at h
      obtain ⟨-, rfl⟩ := h
      intro c hc
      obtain ⟨z, _, rfl⟩ := List.mem_map.1 hc
      rfl
    · cases h

theorem viewLoad_lt {w : World} {at_ : Addr} {u : TypeId} {a : Addr} {b : Bool} {r : _} (h : w.viewLoad P at_ u a b = .ok r) : at_.block < w.heap.size := by
  cases hs : w.seen P at_ u a b with
  | error m => unfold World.viewLoad at h; rw [hs] at h; cases h
  | ok r => exact seen_lt hs
theorem viewStore_lt {w : World} {at_ : Addr} {u : TypeId} {a : Addr} {v : Value} {b : Bool} {r : _} (h : w.viewStore P at_ u a v b = .ok r) : at_.block < w.heap.size := by
  cases hs : w.seen P at_ u a b with
  | error m =>
    unfold World.viewStore at h
    by_cases ht : (!tight P P.depth u) = true
    · rw [if_pos ht] at h; cases h
    rw [if_neg ht, hs] at h; cases h
  | ok r => exact seen_lt hs

theorem Twin.far (h : Twin P K D x y) {a : Addr} (e : x.cell? a = none) {b : Bool} : (∃ hh, x.farLoad P a b = .error hh ∧ HaltOk hh) ∨ ∃ v l, x.farLoad P a b = .ok (v, l) ∧ y.cell? a = none ∧ y.farLoad P a b = .ok (v, l) ∧ ∀ c ∈ l, ¬ D c.block ∧ c.block < y.heap.size := by
  cases ho : x.heap[a.block]? with
  | none => exact .inl ⟨_, by simp only [World.farLoad, ho]; rfl, noCell_ok h _ _⟩
  | some o =>
    have other : (∀ at_ u, o ≠ .view at_ u) → ∃ hh, x.farLoad P a b = .error hh ∧ HaltOk hh := by
      intro hn
      cases o with
      | view at_ u => exact absurd rfl (hn _ _)
      | _ => exact ⟨_, by simp only [World.farLoad, ho]; rfl, noCell_ok h _ _⟩
    cases o with
    | view at_ u =>
      have hd : ¬ D a.block := fun hd => by rw [h.dead _ hd] at ho; cases ho
      have hy : y.heap[a.block]? = some (.view at_ u) := (h.live _ hd).symm.trans ho
      cases hv : x.viewLoad P at_ u a b with
      | error m => exact .inl ⟨.unsupported (.unsafePointer m), by simp only [World.farLoad, ho, hv], trivial⟩
      | ok r =>
        obtain ⟨v, l⟩ := r
        have hda : ¬ D at_.block := fun hd => by
          obtain ⟨m, hm⟩ := viewLoad_dead (P := P) (u := u) (a := a) (b := b) (h.dead _ hd)
          rw [hm] at hv; cases hv
        refine .inr ⟨v, l, by simp only [World.farLoad, ho, hv], h.noCell hd e, ?_, fun c hc => by rw [viewLoad_at hv c hc]; exact ⟨hda, h.sz ▸ viewLoad_lt hv⟩⟩
        simp only [World.farLoad, hy, ← viewLoad_same (P := P) (u := u) (a := a) (b := b) (h.live _ hda), hv]
    | _ => exact .inl (other (by simp))

theorem Sm.load {ad : Addr} {k : Value → Sem α} (h : ∀ v, Sm P (k v)) : Sm P (.load .plain ad k) := by
  refine ⟨fun {K D x y a x'} hs hr => ?_, fun {K D x y hh x'} hs hr => ?_, Tapes.load fun v => (h v).tapes⟩
  · simp only [Sem.run] at hr
    cases hc : x.cell? ad with
    | some v =>
      simp only [hc] at hr
      obtain ⟨hd, hy⟩ := hs.cell hc
      exact ((h v).ok hs hr).step #[⟨.cell ad, false, false⟩] (fun es => by simp [-Sem.runT_eq, Sem.runT, hy]; rfl) (EvN.one ⟨⟨fun hk => hd (hs.sub _ hk), cell_lt hy⟩, rfl⟩) (Nat.le_refl _) fun _ _ => rfl
    | none =>
      simp only [hc] at hr
      rcases hs.far (P := P) hc (b := (Mode.plain == Mode.atomic)) with ⟨hh, e, _⟩ | ⟨v, l, e, e2, e3, e4⟩
      · rw [e] at hr; cases hr
      · rw [e] at hr
        refine ((h v).ok hs hr).step (l.toArray.map (⟨.cell ·, false, false⟩)) (fun es => by simp only [Sem.runT, e2, e3]; rfl) ?_ (Nat.le_refl _) fun _ _ => rfl
        intro ev hev
        simp only [List.map_toArray, List.mem_toArray, List.mem_map] at hev
        obtain ⟨c, hc, rfl⟩ := hev
        exact ⟨⟨fun hk => (e4 c hc).1 (hs.sub _ hk), (e4 c hc).2⟩, rfl⟩
  · simp only [Sem.run] at hr
    cases hc : x.cell? ad with
    | some v => simp only [hc] at hr; exact (h v).halt hs hr
    | none =>
      simp only [hc] at hr
      rcases hs.far (P := P) hc (b := (Mode.plain == Mode.atomic)) with ⟨h2, e, h3⟩ | ⟨v, l, e, e2, e3, e4⟩
      · rw [e] at hr
        simp only [Result.halt.injEq] at hr
        exact hr.1 ▸ h3
      · rw [e] at hr
        exact (h v).halt hs hr

theorem viewStore_dead {w : World} {at_ : Addr} {u : TypeId} {a : Addr} {v : Value} {b : Bool} (h : w.heap[at_.block]? = some (.cells #[] badT (0, 0))) : ∀ r, w.viewStore P at_ u a v b ≠ .ok r := by
  intro r hr
  obtain ⟨m, hm⟩ := seen_dead (P := P) (u := u) (a := a) (b := b) h
  unfold World.viewStore at hr
  by_cases ht : (!tight P P.depth u) = true
  · rw [if_pos ht] at hr; cases hr
  rw [if_neg ht, hm] at hr
  cases hr

theorem Twin.farS (h : Twin P K D x y) {a : Addr} (e : x.cell? a = none) (v : Value) {b : Bool} : (∃ hh, x.farStore P a v b = .error hh ∧ HaltOk hh) ∨
    ∃ x1 y1 l, x.farStore P a v b = .ok (x1, l) ∧ y.cell? a = none ∧ y.farStore P a v b = .ok (y1, l) ∧ Twin P K D x1 y1 ∧ x1.heap.size = x.heap.size ∧ (∀ c ∈ l, ¬ D c.block ∧ c.block < y1.heap.size) ∧ ∀ n, D n → y1.heap[n]? = y.heap[n]? := by
  cases ho : x.heap[a.block]? with
  | none => exact .inl ⟨_, by simp only [World.farStore, ho]; rfl, noCell_ok h _ _⟩
  | some o =>
    have other : (∀ at_ u, o ≠ .view at_ u) → ∃ hh, x.farStore P a v b = .error hh ∧ HaltOk hh := by
      intro hn
      cases o with
      | view at_ u => exact absurd rfl (hn _ _)
      | _ => exact ⟨_, by simp only [World.farStore, ho]; rfl, noCell_ok h _ _⟩
    cases o with
    | view at_ u =>
      have hd : ¬ D a.block := fun hd => by rw [h.dead _ hd] at ho; cases ho
      have hy : y.heap[a.block]? = some (.view at_ u) := (h.live _ hd).symm.trans ho
      cases hv : x.viewStore P at_ u a v b with
      | error m => exact .inl ⟨.unsupported (.unsafePointer m), by simp only [World.farStore, ho, hv], trivial⟩
      | ok r =>
        obtain ⟨x1, l⟩ := r
        have hda : ¬ D at_.block := fun hd => viewStore_dead (P := P) (u := u) (a := a) (v := v) (b := b) (h.dead _ hd) _ hv
        obtain ⟨g1, c, e', f, rfl, g2⟩ := viewStore_at hv
        have g3 := g2 y (h.live _ hda)
        refine .inr ⟨{ x with heap := x.heap.setIfInBounds at_.block (.cells c e' f) }, { y with heap := y.heap.setIfInBounds at_.block (.cells c e' f) }, l, by simp only [World.farStore, ho, hv], h.noCell hd e, by simp only [World.farStore, hy, g3], h.put hda (by simp), by simp, fun c hc => by rw [g1 c hc]; exact ⟨hda, by simp only [Array.size_setIfInBounds]; exact h.sz ▸ viewStore_lt hv⟩, fun n hn => ?_⟩
        have : at_.block ≠ n := fun e => hda (e ▸ hn)
        simp [this]
    | _ => exact .inl (other (by simp))

theorem Sm.store {ad : Addr} {v : Value} {k : Sem α} (h : Sm P k) : Sm P (.store .plain ad v k) := by
  by_cases hv : (∃ c, v = .agg c) ∨ ∃ c, v = .tuple c
  · refine ⟨fun _ hr => ?_, fun _ hr => ?_, Tapes.store h.tapes⟩ <;> (rcases hv with ⟨c, rfl⟩ | ⟨c, rfl⟩ <;> simp only [Sem.run, reduceCtorEq, Result.halt.injEq] at hr) <;> (rw [← hr.1]; trivial)
  have n1 : ∀ c, v ≠ .agg c := fun c e => hv (.inl ⟨c, e⟩)
  have n2 : ∀ c, v ≠ .tuple c := fun c e => hv (.inr ⟨c, e⟩)
  have e1 : ∀ w : World, (Sem.store .plain ad v k).run P w = match w.cell? ad with
      | some _ => if w.frozen? ad then .halt (.unsupported (.unsafePointer "a write to bytes that a string shares")) w else k.run P (w.setCell ad v)
      | none => match w.farStore P ad v (Mode.plain == Mode.atomic) with
        | .ok (w, _) => k.run P w
        | .error h => .halt h w := by
    intro w
    cases v <;> first | rfl | exact absurd rfl (n1 _) | exact absurd rfl (n2 _)
  have e2 : ∀ (w : World) es, (Sem.store .plain ad v k).runT P w es = match w.cell? ad with
      | some _ => if w.frozen? ad then (.halt (.unsupported (.unsafePointer "a write to bytes that a string shares")) w, es) else k.runT P (w.setCell ad v) (es.push ⟨.cell ad, true, Mode.plain == Mode.atomic⟩)
      | none => match w.farStore P ad v (Mode.plain == Mode.atomic) with
        | .ok (w, touched) => k.runT P w (es ++ touched.toArray.map (⟨.cell ·, true, Mode.plain == Mode.atomic⟩))
        | .error h => (.halt h w, es) := by
    intro w es
    cases v <;> first | rfl | exact absurd rfl (n1 _) | exact absurd rfl (n2 _)
  refine ⟨fun {K D x y a x'} hs hr => ?_, fun {K D x y hh x'} hs hr => ?_, Tapes.store h.tapes⟩
  · rw [e1] at hr
    cases hc : x.cell? ad with
    | some v0 =>
      obtain ⟨hd, hy⟩ := hs.cell hc
      simp only [hc] at hr
      cases hf : x.frozen? ad with
      | true => rw [hf] at hr; cases hr
      | false =>
        simp only [hf, Bool.false_eq_true, if_false] at hr
        have hfy : y.frozen? ad = false := by rw [← hs.frozen]; exact hf
        refine (h.ok (hs.setCell hd v) hr).step #[⟨.cell ad, true, false⟩] (fun es => ?_) ?_ (by simp [World.setCell]) fun b hb => setCell_dead fun e => hd (e ▸ hb)
        · rw [e2]
          simp [-Sem.runT_eq, hy, hfy]
          rfl
        · exact EvN.one ⟨⟨fun hk => hd (hs.sub _ hk), by simp only [World.setCell, Array.size_modify]; exact cell_lt hy⟩, rfl⟩
    | none =>
      simp only [hc] at hr
      rcases hs.farS (P := P) hc v (b := (Mode.plain == Mode.atomic)) with ⟨h2, e, _⟩ | ⟨x1, y1, l, g1, g2, g3, g4, g5, g6, g7⟩
      · rw [e] at hr; cases hr
      · rw [g1] at hr
        refine (h.ok g4 hr).step (l.toArray.map (⟨.cell ·, true, false⟩)) (fun es => ?_) ?_ (by rw [← g4.sz, g5, hs.sz]; exact Nat.le_refl _) g7
        · rw [e2]
          simp only [g2, g3]
          rfl
        · intro ev hev
          simp only [List.map_toArray, List.mem_toArray, List.mem_map] at hev
          obtain ⟨c, hc, rfl⟩ := hev
          exact ⟨⟨fun hk => (g6 c hc).1 (hs.sub _ hk), (g6 c hc).2⟩, rfl⟩
  · rw [e1] at hr
    cases hc : x.cell? ad with
    | some v0 =>
      obtain ⟨hd, hy⟩ := hs.cell hc
      simp only [hc] at hr
      cases hf : x.frozen? ad with
      | true => rw [hf] at hr; simp only [if_true, Result.halt.injEq] at hr; rw [← hr.1]; trivial
      | false =>
        simp only [hf, Bool.false_eq_true, if_false] at hr
        exact h.halt (hs.setCell hd v) hr
    | none =>
      simp only [hc] at hr
      rcases hs.farS (P := P) hc v (b := (Mode.plain == Mode.atomic)) with ⟨h2, e, h3⟩ | ⟨x1, y1, l, g1, g2, g3, g4, g5, g6, g7⟩
      · rw [e] at hr
        simp only [Result.halt.injEq] at hr
        exact hr.1 ▸ h3
      · rw [g1] at hr
        exact h.halt g4 hr

theorem Sm.getObj {n : Nat} {k : Obj → Sem α} (h : ∀ o, Sm P (k o)) : Sm P (.getObj n k) := by
  refine ⟨fun {K D x y a x'} hs hr => ?_, fun {K D x y hh x'} hs hr => ?_, Tapes.getObj fun o => (h o).tapes⟩
  · simp only [Sem.run] at hr
    cases ho : x.heap[n]? with
    | none => rw [ho] at hr; cases hr
    | some o =>
      have key : (∀ c e f, o ≠ .cells c e f) → (k o).run P x = .ok a x' → Owes P K D (.getObj n k) x y a x' := by
        intro hn hr
        have hd : ¬ D n := fun hd => by rw [hs.dead _ hd] at ho; cases ho; exact hn _ _ _ rfl
        have hy : y.heap[n]? = some o := (hs.live _ hd).symm.trans ho
        refine ((h o).ok hs hr).step #[⟨.obj n, false, o.isChan⟩] (fun es => ?_) (EvN.one ⟨⟨fun hk => hd (hs.sub _ hk), (Array.getElem?_eq_some_iff.1 hy).1⟩, fun h => (by cases h)⟩) (Nat.le_refl _) fun _ _ => rfl
        cases o <;> first | exact absurd rfl (hn _ _ _) | (simp [-Sem.runT_eq, Sem.runT, hy]; done)
      rw [ho] at hr
      cases o <;> first | (cases hr; done) | exact key (by simp) hr
  · simp only [Sem.run] at hr
    cases ho : x.heap[n]? with
    | none => rw [ho] at hr; simp only [Result.halt.injEq] at hr; rw [← hr.1]; trivial
    | some o =>
      have key : (k o).run P x = .halt hh x' → HaltOk hh := fun hr => (h o).halt hs hr
      rw [ho] at hr
      cases o <;> first | exact key hr | (simp only [Result.halt.injEq] at hr; rw [← hr.1]; trivial)

theorem Sm.setObj {n : Nat} {o : Obj} {k : Sem α} (ho : ∀ c t, o ≠ .pending c t) (hoc : o.isChan = false) (h : Sm P k) : Sm P (.setObj n o k) := by
  refine ⟨fun {K D x y a x'} hs hr => ?_, fun {K D x y hh x'} hs hr => ?_, Tapes.setObj h.tapes⟩
  · simp only [Sem.run] at hr
    cases hx : x.heap[n]? with
    | none => rw [hx] at hr; cases hr
    | some o1 =>
      have key : (∀ c e f, o1 ≠ .cells c e f) → k.run P { x with heap := x.heap.setIfInBounds n o } = .ok a x' → Owes P K D (.setObj n o k) x y a x' := by
        intro hn hr
        have hd : ¬ D n := fun hd => by rw [hs.dead _ hd] at hx; cases hx; exact hn _ _ _ rfl
        have hy : y.heap[n]? = some o1 := (hs.live _ hd).symm.trans hx
        refine (h.ok (hs.put hd ho) hr).step #[⟨.obj n, true, false⟩] (fun es => ?_) (EvN.one ⟨⟨fun hk => hd (hs.sub _ hk), by simp only [Array.size_setIfInBounds]; exact (Array.getElem?_eq_some_iff.1 hy).1⟩, fun _ => rfl⟩) (by simp) fun b hb => ?_
        · cases o1 <;> first | exact absurd rfl (hn _ _ _) | (simp [-Sem.runT_eq, Sem.runT, hy, hoc]; done)
        · have : n ≠ b := fun e => hd (e ▸ hb)
          simp [this]
      rw [hx] at hr
      cases o1 <;> first | (cases hr; done) | exact key (by simp) hr
  · simp only [Sem.run] at hr
    cases hx : x.heap[n]? with
    | none => rw [hx] at hr; simp only [Result.halt.injEq] at hr; rw [← hr.1]; trivial
    | some o1 =>
      have key : (∀ c e f, o1 ≠ .cells c e f) → k.run P { x with heap := x.heap.setIfInBounds n o } = .halt hh x' → HaltOk hh := by
        intro hn hr
        have hd : ¬ D n := fun hd => by rw [hs.dead _ hd] at hx; cases hx; exact hn _ _ _ rfl
        exact h.halt (hs.put hd ho) hr
      rw [hx] at hr
      cases o1 <;> first | exact key (by simp) hr | (simp only [Result.halt.injEq] at hr; rw [← hr.1]; trivial)

theorem Sm.bind' {s : Sem α} {f : α → Sem β} (h : Sm P s) (hf : ∀ a, Sm P (f a)) : Sm P (s.bind f) := by
  have e : ∀ w, (s.bind f).run P w = (s.run P w).andThen fun a w1 => (f a).run P w1 := fun w => Sem.run_bind' P s f w
  refine ⟨fun {K D x y b x'} hs hr => ?_, fun {K D x y hh x'} hs hr => ?_, Tapes.bind' h.tapes fun a => (hf a).tapes⟩
  · rw [e] at hr
    cases h1 : s.run P x with
    | halt hh w => rw [h1] at hr; cases hr
    | ok a x1 =>
      rw [h1] at hr
      obtain ⟨y1, es1, g1, g2, g3, g4, g5⟩ := (h.ok hs h1).out
      refine ((hf a).ok g2 hr).step es1 (fun es => ?_) g3 g4 g5
      rw [Sem.runT_bind', g1]
  · rw [e] at hr
    cases h1 : s.run P x with
    | halt h2 w =>
      rw [h1] at hr
      simp only [Result.andThen, Result.halt.injEq] at hr
      exact hr.1 ▸ h.halt hs h1
    | ok a x1 =>
      rw [h1] at hr
      obtain ⟨y1, es1, g1, g2, g3, g4, g5⟩ := (h.ok hs h1).out
      exact (hf a).halt g2 hr

theorem Sm.bind {s : Sem α} {f : α → Sem β} (h : Sm P s) (hf : ∀ a, Sm P (f a)) : Sm P (s >>= f) := Sm.bind' h hf

end
end Go.Proofs.Ytgpplekabohneaa.Co

namespace Go.Proofs.Ytgpplekabohneaa.Co
open Go

section
variable {P : Program} {α β σ : Type}

theorem sm_pure (a : α) : Sm P (pure a : Sem α) := Sm.pure a
theorem sm_stuck (s : String) : Sm P (stuck s : Sem α) := Sm.halts trivial
theorem sm_unsup {u : Unsupported} (hu : ∀ g, u ≠ .initOrder g) : Sm P (unsupported u : Sem α) := by
  refine Sm.halts ?_
  cases u <;> first | trivial | exact absurd rfl (hu _)
theorem sm_prog : Sm P program := Sm.program (Sm.pure _)
theorem sm_load (a : Addr) : Sm P (load a) := Sm.load fun _ => Sm.pure _
theorem sm_store (a : Addr) (v : Value) : Sm P (store a v) := Sm.store (Sm.pure _)
theorem sm_choose (q : Question) : Sm P (choose q) := Sm.choose fun _ => Sm.pure _
theorem sm_frozen (a : Addr) : Sm P (frozen a) := Sm.frozen fun _ => Sm.pure _
theorem sm_new {o : Obj} (ho : ∀ c t, o ≠ .pending c t) : Sm P (newObj o) := Sm.new ho fun _ => Sm.pure _
theorem sm_setObj {n : Nat} {o : Obj} (ho : ∀ c t, o ≠ .pending c t) (hc : o.isChan = false) : Sm P (setObj n o) := Sm.setObj ho hc (Sm.pure _)

theorem sm_typeInfo (t : TypeId) : Sm P (typeInfo t) := by
  refine Sm.bind sm_prog fun p => ?_
  split
  · exact sm_pure _
  · exact sm_stuck _
theorem sm_underlying (t : TypeId) : Sm P (underlying t) := by
  refine Sm.bind sm_prog fun p => ?_
  split
  · exact sm_pure _
  · exact sm_stuck _
theorem sm_zeroValue (t : TypeId) : Sm P (zeroValue t) := by
  refine Sm.bind (sm_typeInfo t) fun p => ?_
  split
  · exact sm_pure _
  · exact sm_unsup (by simp)
theorem sm_sizeOf (t : TypeId) : Sm P (sizeOf t) := Sm.bind (sm_typeInfo t) fun _ => sm_pure _
theorem sm_isAgg (t : TypeId) : Sm P (isAgg t) := by
  refine Sm.bind (sm_underlying t) fun p => ?_
  split <;> exact sm_pure _

theorem sm_loadCellsFrom (a : Addr) (n : Nat) : ∀ (i : Nat) (c : Array Value), Sm P (loadCellsFrom a i n c) := by
  induction n with
  | zero => intro i c; exact sm_pure _
  | succ n ih => intro i c; exact Sm.bind (sm_load _) fun _ => ih _ _
theorem sm_loadCells (a : Addr) (n : Nat) : Sm P (loadCells a n) := sm_loadCellsFrom a n 0 #[]
theorem sm_storeCells (a : Addr) : ∀ (l : List Value) (i : Nat), Sm P (storeCells a l i)
  | [], _ => sm_pure _
  | _ :: l, i => Sm.bind (sm_store _ _) fun _ => sm_storeCells a l (i + 1)
theorem sm_if {c : Prop} [Decidable c] {s t : Sem α} (h1 : Sm P s) (h2 : Sm P t) : Sm P (if c then s else t) := by
  split
  · exact h1
  · exact h2
theorem sm_loadVar (t : TypeId) (a : Addr) : Sm P (loadVar t a) := by
  refine Sm.bind (sm_isAgg t) fun b => sm_if ?_ (sm_load a)
  exact Sm.bind (sm_sizeOf t) fun n => Sm.bind (sm_loadCells a n) fun _ => sm_pure _
theorem sm_storeVar (t : TypeId) (a : Addr) (v : Value) : Sm P (storeVar t a v) := by
  refine Sm.bind (sm_sizeOf t) fun n => ?_
  exact sm_if (Sm.bind (sm_stuck _) fun _ => sm_storeCells _ _ _) (sm_storeCells _ _ _)
theorem sm_newRow (e : TypeId) (c : Array Value) : Sm P (newRow e c) := Sm.bind (sm_new (by simp)) fun _ => sm_pure _
theorem sm_newVar (e : TypeId) (v : Value) : Sm P (newVar e v) := sm_newRow _ _
theorem sm_part (t : TypeId) (cs : Array Value) (off : Nat) : Sm P (part t cs off) := by
  refine Sm.bind (sm_isAgg t) fun b => sm_if (Sm.bind (sm_sizeOf t) fun _ => sm_pure _) ?_
  split
  · exact sm_pure _
  · exact sm_stuck _

theorem sm_rtPanic {e : RuntimeError} (h1 : ∀ i c a m, e ≠ .typeAssertion i c a m) (h2 : e ≠ .panicNil) : Sm P (runtimePanic e : Sem α) := by
  refine Sm.program ?_
  cases e with
  | typeAssertion i c a m => exact absurd rfl (h1 _ _ _ _)
  | panicNil => exact absurd rfl h2
  | _ => exact Sm.halts trivial
theorem sm_bounds (k : IntKind) (x y : Int) (c : BoundsCode) : Sm P (boundsPanic k x y c : Sem α) := by
  unfold boundsPanic
  dsimp only
  have h : ∀ b, Sm P (runtimePanic (.bounds (IntKind.i64.wrap x) y b c) : Sem α) := fun b => sm_rtPanic (by simp) (by simp)
  split
  · rw [map_eq_pure_bind]
    exact Sm.bind (Sm.bind (sm_choose _) fun _ => sm_pure _) h
  · exact Sm.bind (sm_pure _) h
theorem sm_asIntOf (v : Value) : Sm P (asIntOf v) := by
  cases v <;> first | exact sm_pure _ | exact sm_stuck _ | skip
  rename_i a
  cases a
  · exact sm_stuck _
  · exact sm_unsup (by simp)
theorem sm_asInt (v : Value) : Sm P (asInt v) := Sm.bind (sm_asIntOf v) fun _ => sm_pure _
theorem sm_asBool (v : Value) : Sm P (asBool v) := by cases v <;> first | exact sm_pure _ | exact sm_stuck _
theorem sm_asAddr (v : Value) : Sm P (asAddr v) := by
  cases v <;> first | exact sm_stuck _ | skip
  rename_i a
  cases a
  · exact sm_rtPanic (e := .nilDeref) (by simp) (by simp)
  · exact sm_pure _
theorem sm_sureAddr (v : Value) : Sm P (Instr.sureAddr v) := by
  cases v <;> first | exact sm_stuck _ | skip
  rename_i a
  cases a
  · exact sm_stuck _
  · exact sm_pure _

theorem sm_getObj (n : Nat) : Sm P (getObj n) := Sm.getObj fun _ => Sm.pure _

theorem sm_forInList {l : List α} {f : α → σ → Sem (ForInStep σ)} (h : ∀ a s, Sm P (f a s)) : ∀ s, Sm P (forIn l s f) := by
  induction l with
  | nil => intro s; exact sm_pure s
  | cons a l ih =>
    intro s
    simp only [List.forIn_cons]
    refine Sm.bind (h a s) fun x => ?_
    cases x with
    | done b => exact sm_pure b
    | yield b => exact ih b
theorem sm_forInArr {l : Array α} {f : α → σ → Sem (ForInStep σ)} (h : ∀ a s, Sm P (f a s)) (s : σ) : Sm P (forIn l s f) := by
  rw [← Array.forIn_toList]
  exact sm_forInList h s
theorem sm_forInRange {n : Nat} {f : Nat → σ → Sem (ForInStep σ)} (h : ∀ a s, Sm P (f a s)) (s : σ) : Sm P (forIn [0:n] s f) := by
  simp only [Std.Legacy.Range.forIn_eq_forIn_range']
  exact sm_forInList h s
theorem sm_mapM {f : α → Sem β} (as : Array α) (h : ∀ a, Sm P (f a)) : Sm P (as.mapM f) := by
  have key : ∀ (l : List α), Sm P (l.mapM f) := by
    intro l
    induction l with
    | nil => exact sm_pure _
    | cons a l ih =>
      rw [List.mapM_cons]
      exact Sm.bind (h a) fun _ => Sm.bind ih fun _ => sm_pure _
  rw [Array.mapM_eq_mapM_toList, map_eq_pure_bind]
  exact Sm.bind (key _) fun _ => sm_pure _

/-! ### what asks for a block's make -/
/-- A question about a block's make whose answer is the same at an empty row, at a row and at what waits. -/
theorem sm_atom {s : Sem α} (h : ∀ {K D x y}, Twin P K D x y → ∃ a es', s.run P x = .ok a x ∧ (∀ es, s.runT P y es = (.ok a y, es ++ es')) ∧ ∀ e ∈ es', EvN K y.heap.size e) (ht : Tapes P s) : Sm P s := by
  refine ⟨fun {K D x y a x'} hs hr => ?_, fun {K D x y hh x'} hs hr => ?_, ht⟩
  · obtain ⟨a', es', h1, h2, h3⟩ := h hs
    rw [h1] at hr
    cases hr
    exact ⟨y, es', h2, hs, h3, Nat.le_refl _, fun _ _ => rfl⟩
  · obtain ⟨a', es', h1, h2, h3⟩ := h hs
    rw [h1] at hr
    cases hr

theorem sm_probe {γ : Type} {r : Nat} {k : Option (TypeId × Nat) → Sem (Option γ)} {f : Obj → Option γ} (h1 : ∀ s, k (some s) = .pure none) (h2 : ∀ (w : World) es, (k none).runT P w es = ((Sem.getObj r fun o => Sem.pure (f o)) : Sem (Option γ)).runT P w es) (hp : ∀ c t, f (.pending c t) = none) : Sm P (.shape r k) := by
  have h2' : ∀ w : World, (k none).run P w = ((Sem.getObj r fun o => Sem.pure (f o)) : Sem (Option γ)).run P w := by
    intro w
    have := congrArg Prod.fst (h2 w #[])
    simpa [Sem.runT_eq] using this
  have base : Sm P ((Sem.getObj r fun o => Sem.pure (f o)) : Sem (Option γ)) := Sm.getObj fun _ => Sm.pure _
  refine ⟨fun {K D x y a x'} hs hr => ?_, fun {K D x y hh x'} hs hr => ?_, Tapes.shape fun s => ?_⟩
  · simp only [Sem.run] at hr
    by_cases hd : D r
    · have e : x.shape? r = some (badT, 0) := by simp [World.shape?, hs.dead _ hd]
      rw [e, h1] at hr
      simp only [Sem.run, Result.ok.injEq] at hr
      obtain ⟨rfl, rfl⟩ := hr
      rcases hs.tame _ hd with ⟨hk, c, t, ey⟩ | ⟨hk, c, t, ey⟩
      · refine ⟨y, #[], fun es => ?_, hs, by simp, Nat.le_refl _, fun _ _ => rfl⟩
        have e2 : y.shape? r = some (t, c.size) := by simp [World.shape?, ey]
        simp only [Sem.runT, e2, h1, Array.append_empty]
      · refine ⟨y, #[⟨.obj r, false, false⟩], fun es => ?_, hs, EvN.one ⟨⟨hk, (Array.getElem?_eq_some_iff.1 ey).1⟩, fun h => (by cases h)⟩, Nat.le_refl _, fun _ _ => rfl⟩
        have e2 : y.shape? r = none := by simp [World.shape?, ey]
        simp only [Sem.runT, e2]
        rw [h2]
        simp [-Sem.runT_eq, Sem.runT, ey, hp, Obj.isChan]
    · have e : y.shape? r = x.shape? r := by simp only [World.shape?, hs.live _ hd]
      cases hx : x.shape? r with
      | some s =>
        rw [hx, h1] at hr
        simp only [Sem.run, Result.ok.injEq] at hr
        obtain ⟨rfl, rfl⟩ := hr
        exact ⟨y, #[], fun es => by simp only [Sem.runT, e, hx, h1, Array.append_empty], hs, by simp, Nat.le_refl _, fun _ _ => rfl⟩
      | none =>
        rw [hx, h2'] at hr
        exact (base.ok hs hr).step #[] (fun es => by simp only [Sem.runT, e, hx]; rw [h2]; simp [-Sem.runT_eq, Sem.runT]) (by simp) (Nat.le_refl _) fun _ _ => rfl
  · simp only [Sem.run] at hr
    cases hx : x.shape? r with
    | some s => rw [hx, h1] at hr; cases hr
    | none => rw [hx, h2'] at hr; exact base.halt hs hr
  · cases s with
    | some s => rw [h1]; exact Tapes.pure _
    | none => exact fun w => Shift.same (base.tapes w) fun T' d' => h2' _

theorem sm_viewAt (r : Nat) : Sm P (viewAt r) := by
  refine sm_probe (f := fun o => match o with | .view a t => some (a, t) | _ => none) (fun s => rfl) (fun w es => ?_) (fun _ _ => rfl)
  show (Sem.getObj r _).runT P w es = _
  simp only [Sem.runT]
  cases w.heap[r]? with
  | none => rfl
  | some o => cases o <;> rfl

theorem sm_numberAt (r : Nat) : Sm P (numberAt r) := by
  refine sm_probe (f := fun o => match o with | .number a t => some (a, t) | _ => none) (fun s => rfl) (fun w es => ?_) (fun _ _ => rfl)
  show (Sem.getObj r _).runT P w es = _
  simp only [Sem.runT]
  cases w.heap[r]? with
  | none => rfl
  | some o => cases o <;> rfl

theorem sm_behind (a : Addr) : Sm P (behindNumber a) := Sm.bind (sm_numberAt _) fun _ => sm_pure _
theorem sm_noView (a : Addr) : Sm P (noView a) := by
  refine Sm.bind (sm_viewAt _) fun b => ?_
  split
  · exact sm_unsup (by simp)
  · exact sm_pure _

/-! ### two addresses -/
def strb (w : World) (a : Addr) : Bool := w.frozen? a || match w.shape? a.block with
  | some (_, n) => w.frozen? ⟨a.block, n, none⟩
  | none => false
def emp (w : World) (a : Addr) : Bool := (w.shape? a.block) matches some (_, 0)

theorem stringish_runT (w : World) (a : Addr) (es : Array Event) : (stringish a).runT P w es = (.ok (strb w a) w, es) := by
  unfold stringish strb
  show (Sem.frozen a _).runT P w es = _
  simp only [Sem.runT]
  cases hf : w.frozen? a with
  | true => rfl
  | false =>
    show (Sem.shape a.block _).runT P w es = _
    simp only [Sem.runT]
    cases w.shape? a.block with
    | none => rfl
    | some s => rfl

theorem mayBeOne_runT (w : World) (a b : Addr) (es : Array Event) : (mayBeOne a b).runT P w es = (.ok ((strb w a && strb w b) || (strb w a && emp w a) || (strb w b && emp w b)) w, es) := by
  unfold mayBeOne
  simp only [bind]
  rw [Sem.runT_bind', stringish_runT]
  dsimp only
  rw [Sem.runT_bind', stringish_runT]
  rfl

theorem Twin.strb {K D : Nat → Prop} {x y : World} (h : Twin P K D x y) (a : Addr) : Co.strb x a = Co.strb y a ∧ (Co.strb x a = true → emp x a = emp y a) := by
  by_cases hd : D a.block
  · have e1 : x.shape? a.block = some (badT, 0) := by simp [World.shape?, h.dead _ hd]
    have f1 : ∀ o, x.frozen? ⟨a.block, o, none⟩ = false := fun o => by simp [World.frozen?, h.dead _ hd]
    have f2 : x.frozen? a = false := by simp [World.frozen?, h.dead _ hd]
    have g : Co.strb x a = false := by unfold Co.strb; rw [f2, e1]; simp [f1]
    have g' : Co.strb y a = false := by
      have f3 : y.frozen? a = false := by rw [← h.frozen]; exact f2
      have f4 : ∀ o, y.frozen? ⟨a.block, o, none⟩ = false := fun o => by rw [← h.frozen]; exact f1 o
      unfold Co.strb
      rw [f3]
      cases y.shape? a.block with
      | none => rfl
      | some s => simp [f4]
    exact ⟨g.trans g'.symm, fun e => by rw [g] at e; cases e⟩
  · have e1 : x.shape? a.block = y.shape? a.block := by simp only [World.shape?, h.live _ hd]
    refine ⟨?_, fun _ => by unfold emp; rw [e1]⟩
    unfold Co.strb
    rw [e1, h.frozen]
    cases y.shape? a.block with
    | none => rfl
    | some s => simp only [h.frozen]

theorem sm_mayBeOne (a b : Addr) : Sm P (mayBeOne a b) := by
  refine sm_atom (fun {K D x y} hs => ⟨(strb x a && strb x b) || (strb x a && emp x a) || (strb x b && emp x b), #[], ?_, fun es => ?_, by simp⟩) ?_
  · have := congrArg Prod.fst (mayBeOne_runT (P := P) x a b #[])
    simpa [Sem.runT_eq] using this
  · rw [mayBeOne_runT, Array.append_empty]
    obtain ⟨a1, a2⟩ := hs.strb a
    obtain ⟨b1, b2⟩ := hs.strb b
    rw [← a1, ← b1]
    cases ha : strb x a <;> cases hb : strb x b <;> simp [ha, hb] at a2 b2 ⊢ <;> simp [*]
  · exact fun w => ⟨0, .inl ⟨(strb w a && strb w b) || (strb w a && emp w a) || (strb w b && emp w b), w, fun T' d' _ => by
      have := congrArg Prod.fst (mayBeOne_runT (P := P) (tp w T' d') a b #[])
      simp only [Sem.runT_eq] at this
      exact this⟩⟩

theorem sm_sameAddr (a b : Addr) : Sm P (sameAddr a b) := by
  unfold sameAddr
  split
  · exact sm_pure _
  · refine Sm.bind (sm_frozen a) fun fa => Sm.bind (sm_frozen b) fun fb => ?_
    have rest : ∀ q : Question, Sm P (do
        noView a
        noView b
        let c ← mayBeOne a b
        if c = true then do
          let n ← choose q
          pure (n == 1)
        else pure false) := fun q => Sm.bind (sm_noView a) fun _ => Sm.bind (sm_noView b) fun _ => Sm.bind (sm_mayBeOne a b) fun c => sm_if (Sm.bind (sm_choose _) fun _ => sm_pure _) (sm_pure _)
    split
    · exact Sm.bind (sm_unsup (by simp)) fun _ => rest _
    · exact rest _

theorem sm_samePointer (a b : Option Addr) : Sm P (samePointer a b) := by
  cases a <;> cases b <;> first | exact sm_sameAddr _ _ | exact sm_pure _

end
end Go.Proofs.Ytgpplekabohneaa.Co

namespace Go.Proofs.Ytgpplekabohneaa.Co
open Go

section
variable {P : Program} {α β σ : Type}

theorem Sm.shapeLow {r : Nat} {k : Option (TypeId × Nat) → Sem α} (hr : r < P.globals.size) (h : ∀ s, Sm P (k s)) : Sm P (.shape r k) := by
  refine ⟨fun {K D x y a x'} hs hx => ?_, fun {K D x y hh x'} hs hx => ?_, Tapes.shape fun s => (h s).tapes⟩
  · simp only [Sem.run] at hx
    have hd : ¬ D r := fun hd => by have := hs.hi r hd; omega
    have e : y.shape? r = x.shape? r := by simp only [World.shape?, hs.live _ hd]
    exact ((h _).ok hs hx).step #[] (fun es => by simp [-Sem.runT_eq, Sem.runT, e]) (by simp) (Nat.le_refl _) fun _ _ => rfl
  · simp only [Sem.run] at hx
    exact (h _).halt hs hx

theorem sm_byteOf {a : Addr} (ha : a.block < P.globals.size) : Sm P (byteOf a) := by
  unfold byteOf
  split
  · exact sm_pure _
  · refine Sm.bind sm_prog fun p => Sm.bind (sm_noView a) fun _ => ?_
    refine Sm.shapeLow ha fun s => ?_
    cases s with
    | none => exact sm_stuck _
    | some s =>
      dsimp only
      show Sm P (if _ then _ else _)
      split
      · exact sm_pure _
      · split
        · exact sm_pure _
        · exact sm_stuck _

theorem sm_unsupB {u : Unsupported} {f : α → Sem β} (hu : ∀ g, u ≠ .initOrder g) : Sm P (unsupported u >>= f) := by
  show Sm P (Sem.halt (.unsupported u))
  exact sm_unsup hu
theorem sm_stuckB {s : String} {f : α → Sem β} : Sm P (stuck s >>= f) := by
  show Sm P (Sem.halt (.stuck s))
  exact sm_stuck s

theorem sm_typeStr (t : TypeId) : Sm P (typeStr t) := Sm.bind (sm_typeInfo t) fun i => sm_if (sm_unsup (by simp)) (sm_pure _)

theorem sm_equalIn : ∀ (d : Nat) (t : TypeId) (x y : Value), Sm P (Op.equalIn d t x y) := by
  intro d
  induction d with
  | zero => intro t x y; exact sm_unsup (by simp)
  | succ d ih =>
    intro t x y
    unfold Op.equalIn
    refine Sm.bind (sm_underlying t) fun ty => ?_
    split
    case h_1 => exact sm_pure _
    all_goals try exact sm_pure _
    all_goals try exact sm_stuck _
    all_goals try exact sm_unsup (by simp)
    all_goals try (split <;> first | exact sm_pure _ | exact sm_stuck _; done)
    · refine Sm.bind (sm_behind _) fun a => Sm.bind (sm_behind _) fun b => ?_
      refine Sm.program ?_
      simp only [Sem.bind]
      split
      · rename_i hc
        simp only [Bool.and_eq_true, beq_iff_eq, decide_eq_true_eq] at hc
        exact Sm.bind (sm_byteOf hc.2) fun _ => Sm.bind (sm_byteOf (hc.1 ▸ hc.2)) fun _ => sm_pure _
      · refine Sm.bind (sm_typeInfo t) fun i => ?_
        split
        · exact sm_if (sm_pure _) (sm_unsup (by simp))
        · exact sm_unsup (by simp)
    · refine Sm.bind (sm_sizeOf _) fun n => ?_
      refine sm_if (sm_sameAddr _ _) (sm_if (sm_pure _) ?_)
      exact Sm.bind (sm_choose _) fun _ => sm_pure _
    · exact sm_samePointer _ _
    · refine sm_if (sm_pure _) ?_
      refine Sm.bind (sm_typeInfo _) fun i => ?_
      refine sm_if ?_ (ih _ _ _)
      refine Sm.bind sm_prog fun p => Sm.bind sm_prog fun q => ?_
      dsimp only
      have h : ∀ tx, Sm P (typeStr tx >>= fun s => (runtimePanic (.error ("comparing uncomparable type " ++ s)) : Sem Bool)) := fun tx => Sm.bind (sm_typeStr tx) fun s => sm_rtPanic (by simp) (by simp)
      exact sm_if (Sm.bind (sm_unsup (by simp)) fun _ => h _) (h _)
    · refine Sm.bind sm_prog fun p => ?_
      dsimp only
      refine sm_if (sm_unsupB (by simp)) ?_
      refine Sm.bind (sm_forInArr (fun f s => ?_) _) fun s => ?_
      · refine sm_if ?_ (sm_pure _)
        exact Sm.bind (sm_part _ _ _) fun _ => Sm.bind (sm_part _ _ _) fun _ => Sm.bind (ih _ _ _) fun _ => sm_if (sm_pure _) (sm_pure _)
      · split <;> exact sm_pure _
    · refine Sm.bind (sm_sizeOf _) fun n => ?_
      refine Sm.bind (sm_forInRange (fun f s => ?_) _) fun s => ?_
      · exact Sm.bind (sm_part _ _ _) fun _ => Sm.bind (sm_part _ _ _) fun _ => Sm.bind (ih _ _ _) fun _ => sm_if (sm_pure _) (sm_pure _)
      · dsimp only
        split <;> exact sm_pure _
theorem sm_equal (t : TypeId) (x y : Value) : Sm P (Op.equal t x y) := sm_equalIn _ _ _ _

/-! ### maps -/
theorem sm_checkKey (e : Bool) : ∀ (n : Nat) (t : TypeId) (v : Value), Sm P (Instr.checkKey e n t v) := by
  intro n
  induction n with
  | zero => intro t v; exact sm_unsup (by simp)
  | succ n ih =>
    intro t v
    unfold Instr.checkKey
    refine Sm.bind (sm_underlying t) fun ty => ?_
    split
    · rename_i d x
      refine Sm.bind (sm_typeInfo _) fun i => ?_
      dsimp only
      have h2 : Sm P (runtimePanic (.unhashable d) : Sem Unit) := sm_rtPanic (by simp) (by simp)
      have h3 : ∀ s : String, Sm P (runtimePanic (.error ("hash of unhashable type " ++ s)) : Sem Unit) := fun s => sm_rtPanic (by simp) (by simp)
      refine sm_if (sm_if ?_ ?_) (ih _ _)
      · exact Sm.bind h2 fun _ => Sm.bind (sm_typeStr d) fun s => Sm.bind (h3 s) fun _ => ih _ _
      · exact Sm.bind (sm_typeStr d) fun s => Sm.bind (h3 s) fun _ => ih _ _
    · refine Sm.bind (sm_forInRange (fun f s => ?_) _) fun _ => sm_pure _
      exact Sm.bind (sm_sizeOf _) fun _ => Sm.bind (sm_part _ _ _) fun _ => Sm.bind (ih _ _) fun _ => sm_pure _
    · refine Sm.bind (sm_forInArr (fun f s => ?_) _) fun _ => sm_pure _
      exact sm_if (Sm.bind (sm_part _ _ _) fun _ => Sm.bind (ih _ _) fun _ => sm_pure _) (sm_pure _)
    · exact sm_pure _
    · exact sm_stuck _
    · exact sm_stuck _
    · exact sm_stuck _
    · exact sm_pure _

theorem sm_findAsking (t : TypeId) (k : Value) : ∀ (es : List MapEntry) (i : Nat), Sm P (Instr.findAsking t k es i)
  | [], _ => sm_pure _
  | _ :: es, i => Sm.bind (sm_equal _ _ _) fun _ => sm_if (sm_pure _) (sm_findAsking t k es (i + 1))
theorem sm_findKey (t : TypeId) (k : Value) (es : List MapEntry) : Sm P (Instr.findKey t k es) := by
  refine Sm.bind (sm_underlying t) fun d => ?_
  split
  · exact sm_pure _
  · exact sm_findAsking _ _ _ _
theorem sm_lookup (t : TypeId) (x i : Value) (ok : Bool) : Sm P (Instr.lookup t x i ok) := by
  unfold Instr.lookup
  refine Sm.bind (sm_underlying t) fun d => ?_
  split
  · rename_i key elem
    have rest : ∀ es : Array MapEntry, Sm P (do
        Instr.checkKey es.isEmpty 10000 key i
        let (v, b) ← match ← Instr.findKey key i es.toList with
          | some (_, v) => pure (v, true)
          | none => pure (← zeroValue elem, false)
        pure (if ok then .tuple #[v, .bool b] else v) : Sem Value) := by
      intro es
      refine Sm.bind (sm_checkKey _ _ _ _) fun _ => Sm.bind (sm_findKey _ _ _) fun r => ?_
      dsimp only
      split
      · exact Sm.bind (sm_pure _) fun _ => sm_pure _
      · exact Sm.bind (sm_zeroValue _) fun _ => Sm.bind (sm_pure _) fun _ => sm_pure _
    dsimp only
    split
    · exact Sm.bind (sm_pure _) fun _ => rest _
    · refine Sm.bind (sm_getObj _) fun o => ?_
      split
      · exact Sm.bind (sm_pure _) fun _ => rest _
      · exact sm_stuckB
    · exact sm_stuckB
  · exact sm_stuck _
theorem sm_keyThatStays (a b : Value) : Sm P (Instr.keyThatStays a b) := sm_if (sm_pure _) (Sm.bind (sm_choose _) fun _ => sm_pure _)
theorem sm_mapUpdate (t : TypeId) (m k v : Value) : Sm P (Instr.mapUpdate t m k v) := by
  unfold Instr.mapUpdate
  refine Sm.bind (sm_underlying t) fun d => ?_
  split
  · split
    · exact sm_rtPanic (e := .plain "assignment to entry in nil map") (by simp) (by simp)
    · refine Sm.bind (sm_getObj _) fun o => ?_
      split
      · refine Sm.bind (sm_checkKey _ _ _ _) fun _ => Sm.bind (sm_findKey _ _ _) fun r => ?_
        split
        · exact Sm.bind (sm_keyThatStays _ _) fun _ => sm_setObj (by simp) rfl
        · exact sm_setObj (by simp) rfl
      · exact sm_stuck _
    · exact sm_stuck _
  · exact sm_stuck _

end
end Go.Proofs.Ytgpplekabohneaa.Co
