/- Frames that correspond take steps that correspond. · From 'it comes back on every tape' to a well-founded tree of steps: whatever is drawn in between. · What a program does hangs on the answers that it draws alone. -/
import Derived.Test.YtgpplekabohneaaYab
import Derived.KernelRfl
namespace Go.Proofs.Ytgpplekabohneaa.Co
open Go Go.Conc

section
variable (P : Program) (F : FuncId → Prop)

/-- Frames that correspond. -/
structure FrR (r : Ren) (a b : Frame) : Prop where
  fn : a.fn = b.fn
  todo : a.todo = b.todo
  mode : a.mode = b.mode
  tmps : AR r a.tmps b.tmps
  pa : Plain P F a
  pb : Plain P F b

structure OutR.Cl (P : Program) (F : FuncId → Prop) (r : Ren) (M : Out → Out → Prop) : Prop where
  all ::
  go : ∀ {a b : Frame}, FrR P F r a b → M (.go a) (.go b)
  enter : ∀ {c C : Array Value} (f : FuncId), F f → AR r c C → M (.enter f c) (.enter f C)
  ret : ∀ {v V : Value}, VR r v V → M (.ret v) (.ret V)
def OutR (P : Program) (F : FuncId → Prop) (r : Ren) (x : Out) (y : Out) : Prop := ∀ M : Out → Out → Prop, OutR.Cl P F r M → M x y
theorem OutR.go {P : Program} {F : FuncId → Prop} {r : Ren} {a b : Frame} (h1 : FrR P F r a b) : OutR P F r (.go a) (.go b) := fun _ cl => cl.go h1
theorem OutR.enter {P : Program} {F : FuncId → Prop} {r : Ren} {c C : Array Value} (f : FuncId) (h1 : F f) (h2 : AR r c C) : OutR P F r (.enter f c) (.enter f C) := fun _ cl => cl.enter f h1 h2
theorem OutR.ret {P : Program} {F : FuncId → Prop} {r : Ren} {v V : Value} (h1 : VR r v V) : OutR P F r (.ret v) (.ret V) := fun _ cl => cl.ret h1
theorem OutR.cs {P : Program} {F : FuncId → Prop} {r : Ren} {motive : (x : Out) → (y : Out) → OutR P F r x y → Prop} {x : Out} {y : Out} (t : OutR P F r x y) (go : ∀ {a b : Frame} (h1 : FrR P F r a b), motive (.go a) (.go b) (OutR.go h1))
    (enter : ∀ {c C : Array Value} (f : FuncId) (h1 : F f) (h2 : AR r c C), motive (.enter f c) (.enter f C) (OutR.enter f h1 h2))
    (ret : ∀ {v V : Value} (h1 : VR r v V), motive (.ret v) (.ret V) (OutR.ret h1)) : motive x y t :=
  t (fun x y => ∀ h : OutR P F r x y, motive x y h) ⟨fun h1 _ => go h1, fun f h1 h2 _ => enter f h1 h2, fun h1 _ => ret h1⟩ t
structure CsR.Cl (P : Program) (F : FuncId → Prop) (r : Ren) (M : List Frame → List Frame → Prop) : Prop where
  all ::
  nil : M [] []
  cons : ∀ {a b : Frame} {cs ds : List Frame}, FrR P F r a b → M cs ds → M (a :: cs) (b :: ds)
def CsR (P : Program) (F : FuncId → Prop) (r : Ren) (x : List Frame) (y : List Frame) : Prop := ∀ M : List Frame → List Frame → Prop, CsR.Cl P F r M → M x y
theorem CsR.nil {P : Program} {F : FuncId → Prop} {r : Ren} : CsR P F r [] [] := fun _ cl => cl.nil 
theorem CsR.cons {P : Program} {F : FuncId → Prop} {r : Ren} {a b : Frame} {cs ds : List Frame} (h1 : FrR P F r a b) (h2 : CsR P F r cs ds) : CsR P F r (a :: cs) (b :: ds) := fun M cl => cl.cons h1 (h2 M cl)
theorem CsR.ind {P : Program} {F : FuncId → Prop} {r : Ren} {motive : (x : List Frame) → (y : List Frame) → CsR P F r x y → Prop} (nil : motive [] [] CsR.nil)
    (cons : ∀ {a b : Frame} {cs ds : List Frame} (h1 : FrR P F r a b) (h2 : CsR P F r cs ds), motive cs ds h2 → motive (a :: cs) (b :: ds) (CsR.cons h1 h2)) {x : List Frame} {y : List Frame} (t : CsR P F r x y) : motive x y t :=
  (t (fun x y => CsR P F r x y ∧ ∀ h : CsR P F r x y, motive x y h) ⟨⟨CsR.nil , fun _ => nil ⟩,
    fun h1 h2 => ⟨CsR.cons h1 h2.1, fun _ => cons h1 h2.1 (h2.2 _)⟩⟩).2 t
theorem CsR.cs {P : Program} {F : FuncId → Prop} {r : Ren} {motive : (x : List Frame) → (y : List Frame) → CsR P F r x y → Prop} {x : List Frame} {y : List Frame} (t : CsR P F r x y) (nil : motive [] [] CsR.nil)
    (cons : ∀ {a b : Frame} {cs ds : List Frame} (h1 : FrR P F r a b) (h2 : CsR P F r cs ds), motive (a :: cs) (b :: ds) (CsR.cons h1 h2)) : motive x y t :=
  CsR.ind (motive := motive) nil (fun h1 h2 _ => cons h1 h2) t
end

section
variable {P : Program} {F : FuncId → Prop} {G : Nat} {r : Ren}

theorem FrR.mono {r' : Ren} (hs : Sub r r') {a b : Frame} (h : FrR P F r a b) : FrR P F r' a b := ⟨h.fn, h.todo, h.mode, h.tmps.mono hs, h.pa, h.pb⟩
theorem CsR.mono {r' : Ren} (hs : Sub r r') {cs ds : List Frame} (h : CsR P F r cs ds) : CsR P F r' cs ds := by
  induction h using CsR.ind with
  | nil => exact .nil
  | cons h _ ih => exact .cons (h.mono hs) ih

theorem VR.undef : VR r undef undef := .tuple rfl fun i h => absurd h (by simp)

theorem AR.getD {c C : Array Value} (h : AR r c C) (i : Nat) : VR r (c.getD i Go.undef) (C.getD i Go.undef) := by
  by_cases hi : i < c.size
  · have hi' : i < C.size := h.1 ▸ hi
    simp only [Array.getD, hi, hi', dite_true]
    exact h.2 i hi hi'
  · have hi' : ¬ i < C.size := h.1 ▸ hi
    simp only [Array.getD, hi, hi', dite_false]
    exact VR.undef

theorem FrR.eval {a b : Frame} (h : FrR P F r a b) : ∀ x, OpdOk x → VR r (a.eval x) (b.eval x)
  | .tmp t, _ => h.tmps.getD t
  | .const _, hx => hx r
  | .global _, hx => hx.elim
  | .func f, _ => .func f

theorem FrR.yielded {a b : Frame} (h : FrR P F r a b) (ops : Array Oper) : yielded ops a.tmps = yielded ops b.tmps := by
  funext j
  unfold Go.yielded
  cases (ops[j]?).bind (·.dst) with
  | none => rfl
  | some d =>
    simp only [Option.bind_some]
    by_cases hd : d < a.tmps.size
    · have hd' : d < b.tmps.size := h.tmps.1 ▸ hd
      rw [Array.getElem?_eq_getElem hd, Array.getElem?_eq_getElem hd']
      have := h.tmps.2 d hd hd'
      revert this
      generalize a.tmps[d] = x
      generalize b.tmps[d] = y
      intro hv
      cases hv using VR.cs <;> rfl
    · have hd' : ¬ d < b.tmps.size := h.tmps.1 ▸ hd
      simp [hd, hd']

/-- The frame with another list of what is left to do. -/
theorem FrR.to {a b : Frame} (h : FrR P F r a b) {k : List Item} (hk : ∀ x ∈ k, ItemOk P F x) : FrR P F r { a with todo := k } { b with todo := k } :=
  ⟨h.fn, rfl, h.mode, h.tmps, ⟨h.pa.md, h.pa.kind, h.pa.defers, h.pa.round, hk, h.pa.fok⟩, ⟨h.pb.md, h.pb.kind, h.pb.defers, h.pb.round, hk, h.pb.fok⟩⟩
theorem FrR.back {a b : Frame} (h : FrR P F r a b) : FrR P F r { a with mode := .returning } { b with mode := .returning } :=
  ⟨h.fn, h.todo, rfl, h.tmps, ⟨.inr rfl, h.pa.kind, h.pa.defers, h.pa.round, h.pa.ok, h.pa.fok⟩, ⟨.inr rfl, h.pb.kind, h.pb.defers, h.pb.round, h.pb.ok, h.pb.fok⟩⟩

theorem FrR.finish {a b : Frame} (h : FrR P F r a b) {v V : Value} (hv : VR r v V) : FrR P F r (a.finish v) (b.finish V) := by
  obtain ⟨fn, tmps, todo, defers, mode, kind, round⟩ := a
  obtain ⟨fn', tmps', todo', defers', mode', kind', round'⟩ := b
  obtain ⟨h1, h2, h3, h4, pa, pb⟩ := h
  dsimp only at h1 h2 h3 h4
  subst h1 h2 h3
  have hok := pa.ok
  dsimp only at hok
  cases todo with
  | nil => exact ⟨rfl, rfl, rfl, h4, pa, pb⟩
  | cons i k =>
    have hk : ∀ x ∈ k, ItemOk P F x := fun x hx => hok x (by simp [hx])
    cases i with
    | inRegion ops l =>
      cases l with
      | nil => exact ⟨rfl, rfl, rfl, h4, pa, pb⟩
      | cons j rest =>
        have hi : ∀ x ∈ Item.inRegion ops rest :: k, ItemOk P F x := by
          intro x hx
          rcases List.mem_cons.1 hx with rfl | hx
          · exact hok (.inRegion ops (j :: rest)) (List.mem_cons_self ..)
          · exact hk x hx
        refine ⟨rfl, rfl, rfl, ?_, ⟨pa.md, pa.kind, pa.defers, pa.round, hi, pa.fok⟩, ⟨pb.md, pb.kind, pb.defers, pb.round, hi, pb.fok⟩⟩
        simp only [Frame.finish]
        split
        · exact h4.set _ hv
        · exact h4
    | code c => exact ⟨rfl, rfl, rfl, h4, pa, pb⟩
    | inBlock id => exact ⟨rfl, rfl, rfl, h4, pa, pb⟩
    | inLoop c => exact ⟨rfl, rfl, rfl, h4, pa, pb⟩
    | inScope c => exact ⟨rfl, rfl, rfl, h4, pa, pb⟩
    | _ => exact False.elim (hok _ (List.mem_cons_self ..))

theorem FrR.enter (hF : ∀ f, F f → FuncOk P F f) {f : FuncId} (hf : F f) {c C : Array Value} (h : AR r c C) : FrR P F r (Frame.enter P f c .normal) (Frame.enter P f C .normal) := by
  obtain ⟨fn, b, h1, h2, h3⟩ := hF f hf
  have ok : ∀ x ∈ [Item.code b], ItemOk P F x := by
    intro x hx
    simp only [List.mem_singleton] at hx
    subst hx
    exact h3
  have e : ∀ c, Frame.enter P f c .normal = { fn := f, tmps := c ++ Array.replicate (fn.ntmps - c.size) undef, todo := [.code b], defers := [], mode := .run, kind := .normal } := by
    intro c
    simp [Frame.enter, h1, h2]
  rw [e, e]
  refine ⟨rfl, rfl, rfl, ?_, ⟨.inl rfl, rfl, rfl, rfl, ok, hf⟩, ⟨.inl rfl, rfl, rfl, rfl, ok, hf⟩⟩
  refine ⟨by simp [h.1], fun i h1 h2 => ?_⟩
  dsimp only at h1 h2 ⊢
  by_cases hi : i < c.size
  · rw [Array.getElem_append_left hi, Array.getElem_append_left (h.1 ▸ hi)]
    exact h.2 i _ _
  · rw [Array.getElem_append_right (by omega), Array.getElem_append_right (by rw [← h.1]; omega)]
    simp only [Array.getElem_replicate]
    exact VR.undef

theorem te_asAddr {v V : Value} (h : VR r v V) : TR P G (fun r' a b => r' = r ∧ DR r a b) r (asAddr v) (asAddr V) := by
  cases h using VR.cs <;> first | exact TR.halt trivial | exact .pure ⟨rfl, .mk _ _ (by assumption)⟩ | exact te_rtPanic (e := .nilDeref) (by simp) (by simp)

theorem tv_results (hB : Bi G r) (fn : Func) {c C : Array Value} (h : AR r c C) : TV P G r (results fn c) (results fn C) := by
  unfold results
  refine TR.bindS (Q := fun x X => AR r x X) hB (tr_mapM hB fn.results ?_) ?_
  · intro v _
    cases v with
    | tmp t => exact .pure ⟨rfl, h.getD t⟩
    | cell a t => exact TR.bindS hB (te_asAddr (h.getD a)) fun _ _ hd => tv_loadVar hB t hd
  · intro x X hx
    refine .pure ⟨rfl, ?_⟩
    by_cases h1 : x.size = 1
    · have h1' : X.size = 1 := hx.1 ▸ h1
      simp only [h1, h1', dite_true]
      exact hx.2 0 _ _
    · have h1' : ¬ X.size = 1 := hx.1 ▸ h1
      simp only [h1, h1', dite_false]
      exact .tuple hx.1 hx.2

theorem tr_act (hG : P.globals.size ≤ G) (hB : Bi G r) {a b : Frame} (h : FrR P F r a b) : TR P G (OutR P F) r (act P a) (act P b) := by
  have hfn := h.fn
  have htodo := h.todo
  have hmode := h.mode
  have hev := h.eval
  have hok := h.pa.ok
  unfold act
  rw [← hmode]
  rcases h.pa.md with hm | hm
  · rw [hm]
    dsimp only
    rw [← htodo]
    cases ht : a.todo with
    | nil => exact .pure (.go h.back)
    | cons i k =>
      rw [ht] at hok
      have hk : ∀ x ∈ k, ItemOk P F x := fun x hx => hok x (by simp [hx])
      have hi := hok i (List.mem_cons_self ..)
      have to : ∀ {k' : List Item}, (∀ x ∈ k', ItemOk P F x) → TR P G (OutR P F) r (pure (.go { a with todo := k' })) (pure (.go { b with todo := k' })) := fun hk' => .pure (.go (h.to hk'))
      have cons1 : ∀ {x : Item} {k' : List Item}, ItemOk P F x → (∀ x ∈ k', ItemOk P F x) → ∀ y ∈ x :: k', ItemOk P F y := by
        intro x k' hx hk' y hy
        rcases List.mem_cons.1 hy with rfl | hy
        · exact hx
        · exact hk' y hy
      cases i with
      | code c =>
        simp only [actI]
        cases c with
        | ret => exact .pure (.go h.back)
        | skip => exact to hk
        | label l => exact to hk
        | seq x y => exact to (cons1 hi.1 (cons1 hi.2 hk))
        | block id c => exact to (cons1 hi (cons1 trivial hk))
        | loop c => exact to (cons1 hi (cons1 hi hk))
        | scope c => exact to (cons1 hi (cons1 hi hk))
        | cond c x y =>
          simp only [actC]
          have hc := hev c hi.1
          revert hc
          generalize a.eval c = v
          generalize b.eval c = V
          intro hc
          cases hc using VR.cs <;> first | exact TR.halt trivial | skip
          rename_i t
          refine to (cons1 ?_ hk)
          cases t
          · exact hi.2.2
          · exact hi.2.1
        | exit id =>
          simp only [actC]
          cases he : exitTo id k with
          | none => exact TR.halt trivial
          | some k' => exact to (exitTo_ok he hk)
        | goto l =>
          simp only [actC]
          cases he : gotoIn l k with
          | none => exact TR.halt trivial
          | some k' => exact to (gotoIn_ok he hk)
        | region id ops draw =>
          simp only [actC]
          cases draw with
          | false => exact to (cons1 hi hk)
          | true =>
            simp only [if_true]
            rw [show Question.order b.fn id = .order a.fn id from by rw [hfn]]
            exact .choose _ fun t => to (cons1 (x := .inRegion ops _) hi hk)
        | rangeFunc f p x y => exact hi.elim
        | refuse s => exact hi.elim
      | inBlock id => exact to hk
      | inScope c => exact to hk
      | inLoop c => exact to (cons1 hi (cons1 hi hk))
      | inRegion ops l =>
        cases l with
        | nil => exact to hk
        | cons j rest =>
          simp only [actI]
          cases ho : ops[j]? with
          | none => exact .pure (.go (h.finish VR.undef))
          | some o =>
            simp only []
            rw [← h.yielded ops]
            cases hw : Region.wanted o (yielded ops a.tmps) with
            | false => exact .pure (.go (h.finish VR.undef))
            | true =>
              simp only [if_true]
              refine TR.bind hB (tr_execOp hG hB hev (fun f => ⟨rfl, rfl⟩) (hi o (Array.mem_of_getElem? ho))) ?_
              rintro r' x X hs hB' ⟨hn, hf⟩
              cases hn using NR.cs with
              | value hv => exact .pure (.go ((h.mono hs).finish hv))
              | skip => exact .pure (.go ((h.mono hs).finish VR.undef))
              | enter f hc => exact .pure (.enter f (hf f _ rfl) hc)
      | _ => exact hi.elim
  · rw [hm]
    dsimp only
    rw [← hfn]
    cases hf : P.funcs[a.fn]? with
    | none => exact TR.halt trivial
    | some fn =>
      refine TR.bindS hB (tv_results hB fn h.tmps) fun v V hv => .pure (.ret hv)

end
end Go.Proofs.Ytgpplekabohneaa.Co

namespace Go.Proofs.Ytgpplekabohneaa.Co
open Go Go.Conc

/-- The world with another tape. -/
def tp (w : World) (T : Nat → Question → Nat) (d : Nat) : World := { w with tape := T, drawn := d }

section
variable {P : Program} {G : Nat}

/-- What a program does hangs on the answers that it draws alone. -/
def Shift {α : Type} (P : Program) (s : Sem α) (w : World) (k : Nat) : Prop :=
  (∃ a w2, ∀ T' d', (∀ j, j < k → T' (d' + j) = w.tape (w.drawn + j)) → s.run P (tp w T' d') = .ok a (tp w2 T' (d' + k))) ∨
  (∃ h w2, ∀ T' d', (∀ j, j < k → T' (d' + j) = w.tape (w.drawn + j)) → s.run P (tp w T' d') = .halt h (tp w2 T' (d' + k)))

theorem Shift.halt0 {α : Type} {s : Sem α} {w : World} {h : Halt} (e : ∀ T' d', s.run P (tp w T' d') = .halt h (tp w T' d')) : ∃ k, Shift P s w k :=
  ⟨0, .inr ⟨h, w, fun T' d' _ => e T' d'⟩⟩

theorem Shift.same {α : Type} {s s' : Sem α} {w : World} (h : ∃ k, Shift P s' w k) (e : ∀ T' d', s.run P (tp w T' d') = s'.run P (tp w T' d')) : ∃ k, Shift P s w k := by
  obtain ⟨k, ⟨a, w2, h⟩ | ⟨x, w2, h⟩⟩ := h
  · exact ⟨k, .inl ⟨a, w2, fun T' d' ha => (e T' d').trans (h T' d' ha)⟩⟩
  · exact ⟨k, .inr ⟨x, w2, fun T' d' ha => (e T' d').trans (h T' d' ha)⟩⟩

theorem Shift.turn {α : Type} {s s' : Sem α} {w w1 : World} (h : ∃ k, Shift P s' w1 k) (ht : w1.tape = w.tape) (hd : w1.drawn = w.drawn) (e : ∀ T' d', s.run P (tp w T' d') = s'.run P (tp w1 T' d')) : ∃ k, Shift P s w k := by
  obtain ⟨k, ⟨a, w2, h⟩ | ⟨x, w2, h⟩⟩ := h
  · exact ⟨k, .inl ⟨a, w2, fun T' d' ha => (e T' d').trans (h T' d' (by rw [ht, hd]; exact ha))⟩⟩
  · exact ⟨k, .inr ⟨x, w2, fun T' d' ha => (e T' d').trans (h T' d' (by rw [ht, hd]; exact ha))⟩⟩

theorem tp_cell (w : World) (T : Nat → Question → Nat) (d : Nat) (a : Addr) : (tp w T d).cell? a = w.cell? a := rfl
theorem tp_frozen (w : World) (T : Nat → Question → Nat) (d : Nat) (a : Addr) : (tp w T d).frozen? a = w.frozen? a := rfl
theorem tp_setCell (w : World) (T : Nat → Question → Nat) (d : Nat) (a : Addr) (v : Value) : (tp w T d).setCell a v = tp (w.setCell a v) T d := rfl

theorem TR.tape {α β : Type} {Q : Ren → α → β → Prop} {r : Ren} {s : Sem α} {S : Sem β} (h : TR P G Q r s S) :
    ∀ {w W : World}, Bi G r → WR r w W → G ≤ w.heap.size → G ≤ W.heap.size → ∃ k, Shift P s w k := by
  induction h using TR.ind with
  | @pure r a b h => exact fun {w W} _ _ _ _ => ⟨0, .inl ⟨a, w, fun _ _ _ => rfl⟩⟩
  | @load r ad AD k K ha _ ih =>
    intro w W hb hw h1 h2
    cases hc : w.cell? ad with
    | some v =>
      obtain ⟨V, hV, hv⟩ := hw.cell ha hc
      exact Shift.same (ih v V hv hb hw h1 h2) fun T' d' => by simp only [Sem.run, tp_cell, hc]
    | none =>
      cases ha using DR.cs with
      | mk o s hbB =>
        obtain ⟨ob, OB, e1, e2, e3⟩ := hw.obj _ _ hbB
        have e1' : ∀ T' d', (tp w T' d').heap[_]? = some ob := fun _ _ => e1
        cases e3 using OR.cs <;> exact Shift.halt0 fun T' d' => by simp only [Sem.run, tp_cell, hc, World.farLoad, World.noCell, e1']; rfl
  | @store r ad AD v V k K ha hv _ ih =>
    intro w W hb hw h1 h2
    have key : (∀ c, v ≠ .agg c) → (∀ c, v ≠ .tuple c) → ∃ n, Shift P (.store .plain ad v k) w n := by
      intro n1 n2
      have e1 : ∀ w : World, (Sem.store .plain ad v k).run P w = match w.cell? ad with
          | some _ => if w.frozen? ad then .halt (.unsupported (.unsafePointer "a write to bytes that a string shares")) w else k.run P (w.setCell ad v)
          | none => match w.farStore P ad v (Mode.plain == Mode.atomic) with
            | .ok (w, _) => k.run P w
            | .error h => .halt h w := by
        intro w
        cases v <;> first | rfl | exact absurd rfl (n1 _) | exact absurd rfl (n2 _)
      cases hc : w.cell? ad with
      | none =>
        cases ha using DR.cs with
        | mk o s hbB =>
          obtain ⟨ob, OB, e1', e2, e3⟩ := hw.obj _ _ hbB
          have e1' : ∀ T' d', (tp w T' d').heap[_]? = some ob := fun _ _ => e1'
          cases e3 using OR.cs <;> exact Shift.halt0 fun T' d' => by rw [e1]; simp only [tp_cell, hc, World.farStore, World.noCell, e1']; rfl
      | some v0 =>
        cases hf : w.frozen? ad with
        | true => exact Shift.halt0 fun T' d' => by rw [e1]; simp only [tp_cell, hc, tp_frozen, hf, if_true]; rfl
        | false =>
          exact Shift.turn (ih hb (hw.setCell hb ha hv) (by rw [setCell_size]; exact h1) (by rw [setCell_size]; exact h2)) rfl rfl fun T' d' => by
            rw [e1]
            simp only [tp_cell, hc, tp_frozen, hf, Bool.false_eq_true, if_false, tp_setCell]
    cases v with
    | agg c => exact Shift.halt0 fun T' d' => by simp only [Sem.run]; rfl
    | tuple c => exact Shift.halt0 fun T' d' => by simp only [Sem.run]; rfl
    | _ => exact key (by simp) (by simp)
  | @new r o O k K ho _ ih =>
    intro w W hb hw h1 h2
    exact Shift.turn (w1 := { w with heap := w.heap.push o }) (ih (plus r w.heap.size W.heap.size) w.heap.size W.heap.size (sub_plus _ _ _) (.inr ⟨rfl, rfl⟩) (hb.plus hw h1 h2) (hb.plus hw h1 h2) (hw.new ho) (by simp; omega) (by simp; omega)) rfl rfl fun T' d' => rfl
  | @shape r b B k K hbB _ ih =>
    intro w W hb hw h1 h2
    exact Shift.same (ih (w.shape? b) hb hw h1 h2) fun T' d' => rfl
  | @frozen r ad AD k K ha _ ih =>
    intro w W hb hw h1 h2
    exact Shift.same (ih (w.frozen? ad) hb hw h1 h2) fun T' d' => rfl
  | @getObj r b B k K hbB _ ih =>
    intro w W hb hw h1 h2
    obtain ⟨ob, OB, e1, e2, e3⟩ := hw.obj _ _ hbB
    have e1' : ∀ T' d', (tp w T' d').heap[b]? = some ob := fun _ _ => e1
    cases e3 using OR.cs with
    | cells e f hc => exact Shift.halt0 fun T' d' => by simp only [Sem.run, e1']; rfl
    | map n e he => exact Shift.same (ih _ _ (.map n e he) hb hw h1 h2) fun T' d' => by simp only [Sem.run, e1']
    | number l hn => exact Shift.same (ih _ _ (.number l hn) hb hw h1 h2) fun T' d' => by simp only [Sem.run, e1']
  | @setObj r b B o O k K hbB ho _ ih =>
    intro w W hb hw h1 h2
    obtain ⟨ob, OB, e1, e2, e3⟩ := hw.obj _ _ hbB
    have e1' : ∀ T' d', (tp w T' d').heap[b]? = some ob := fun _ _ => e1
    cases e3 using OR.cs with
    | cells e f hc => exact Shift.halt0 fun T' d' => by simp only [Sem.run, e1']; rfl
    | map n e he => exact Shift.turn (w1 := { w with heap := w.heap.setIfInBounds b o }) (ih hb (hw.setObj hb hbB ho) (by simpa using h1) (by simpa using h2)) rfl rfl fun T' d' => by simp only [Sem.run, e1']; rfl
    | number l hn => exact Shift.turn (w1 := { w with heap := w.heap.setIfInBounds b o }) (ih hb (hw.setObj hb hbB ho) (by simpa using h1) (by simpa using h2)) rfl rfl fun T' d' => by simp only [Sem.run, e1']; rfl
  | @choose r k K q _ ih =>
    intro w W hb hw h1 h2
    by_cases hq : q.forced = true
    · exact Shift.same (ih 0 hb hw h1 h2) fun T' d' => by simp only [Sem.run, hq, if_true]
    · have hw' : WR r { w with drawn := w.drawn + 1 } { W with drawn := W.drawn + 1 } := ⟨hw.obj, hw.tape, by simp [hw.drawn]⟩
      obtain ⟨n, h⟩ := ih (q.cut (w.tape w.drawn q)) hb hw' h1 h2
      have sh : ∀ (T' : Nat → Question → Nat) (d' : Nat), (∀ j, j < n + 1 → T' (d' + j) = w.tape (w.drawn + j)) → ∀ j, j < n → T' (d' + 1 + j) = w.tape (w.drawn + 1 + j) := by
        intro T' d' ha j hj
        have := ha (j + 1) (by omega)
        rw [show d' + 1 + j = d' + (j + 1) by omega, show w.drawn + 1 + j = w.drawn + (j + 1) by omega]
        exact this
      have st : ∀ (T' : Nat → Question → Nat) (d' : Nat), (∀ j, j < n + 1 → T' (d' + j) = w.tape (w.drawn + j)) → (Sem.choose q k).run P (tp w T' d') = (k (q.cut (w.tape w.drawn q))).run P (tp { w with drawn := w.drawn + 1 } T' (d' + 1)) := by
        intro T' d' ha
        have := ha 0 (by omega)
        simp only [Nat.add_zero] at this
        simp only [Sem.run, hq]
        simp only [tp, this]
        rfl
      rcases h with ⟨a, w2, h⟩ | ⟨x, w2, h⟩
      · exact ⟨n + 1, .inl ⟨a, w2, fun T' d' ha => by rw [st T' d' ha, h T' (d' + 1) (sh T' d' ha)]; rw [show d' + 1 + n = d' + (n + 1) by omega]⟩⟩
      · exact ⟨n + 1, .inr ⟨x, w2, fun T' d' ha => by rw [st T' d' ha, h T' (d' + 1) (sh T' d' ha)]; rw [show d' + 1 + n = d' + (n + 1) by omega]⟩⟩
  | @program r k K _ ih =>
    intro w W hb hw h1 h2
    exact Shift.same (ih hb hw h1 h2) fun T' d' => rfl
  | @noRoom r k K _ ih =>
    intro w W hb hw h1 h2
    exact Shift.same (ih hb hw h1 h2) fun T' d' => rfl
  | halt h =>
    intro w W hb hw h1 h2
    exact Shift.halt0 fun T' d' => rfl

end

/-! ### states of a lone goroutine -/
structure Cfg where
  fr : Frame
  cs : List Frame
  w : World

/-- The step that the goroutine takes, whatever is drawn. -/
def Leads (P : Program) (x : Cfg) (T : Nat → Question → Nat) (d : Nat) (y : Cfg) : Prop :=
  ∃ out, (act P x.fr).run P (tp x.w T d) = .ok out y.w ∧ place P x.fr x.cs out = some (y.fr, y.cs)

structure Good.Cl (P : Program) (Tgt : Cfg → Prop) (M : Cfg → Prop) : Prop where
  all ::
  done : ∀ {x : Cfg}, Tgt x → M x
  step : ∀ {x : Cfg} (next : (Nat → Question → Nat) → Nat → Cfg), (∀ T d, Leads P x T d (next T d)) → (∀ T d, M (next T d)) → M x
/-- Whatever is drawn, the goroutine comes to 'Tgt'. -/
def Good (P : Program) (Tgt : Cfg → Prop) (x : Cfg) : Prop := ∀ M : Cfg → Prop, Good.Cl P Tgt M → M x
theorem Good.done {P : Program} {Tgt : Cfg → Prop} {x : Cfg} (h1 : Tgt x) : Good P Tgt x := fun _ cl => cl.done h1
theorem Good.step {P : Program} {Tgt : Cfg → Prop} {x : Cfg} (next : (Nat → Question → Nat) → Nat → Cfg) (h1 : (∀ T d, Leads P x T d (next T d))) (h2 : (∀ T d, Good P Tgt (next T d))) : Good P Tgt x := fun M cl => cl.step next h1 (fun y0 y1 => h2 y0 y1 M cl)
theorem Good.ind {P : Program} {Tgt : Cfg → Prop} {motive : (x : Cfg) → Good P Tgt x → Prop} (done : ∀ {x : Cfg} (h1 : Tgt x), motive x (Good.done h1))
    (step : ∀ {x : Cfg} (next : (Nat → Question → Nat) → Nat → Cfg) (h1 : (∀ T d, Leads P x T d (next T d))) (h2 : (∀ T d, Good P Tgt (next T d))), (∀ T d, motive (next T d) (h2 T d)) → motive x (Good.step next h1 h2)) {x : Cfg} (t : Good P Tgt x) : motive x t :=
  (t (fun x => Good P Tgt x ∧ ∀ h : Good P Tgt x, motive x h) ⟨fun h1 => ⟨Good.done h1, fun _ => done h1⟩,
    fun next h1 h2 => ⟨Good.step next h1 (fun y0 y1 => (h2 y0 y1).1), fun _ => step next h1 (fun y0 y1 => (h2 y0 y1).1) (fun y0 y1 => (h2 y0 y1).2 _)⟩⟩).2 t
theorem Good.cs {P : Program} {Tgt : Cfg → Prop} {motive : (x : Cfg) → Good P Tgt x → Prop} {x : Cfg} (t : Good P Tgt x) (done : ∀ {x : Cfg} (h1 : Tgt x), motive x (Good.done h1))
    (step : ∀ {x : Cfg} (next : (Nat → Question → Nat) → Nat → Cfg) (h1 : (∀ T d, Leads P x T d (next T d))) (h2 : (∀ T d, Good P Tgt (next T d))), motive x (Good.step next h1 h2)) : motive x t :=
  Good.ind (motive := motive) (fun h1 => done h1) (fun next h1 h2 _ => step next h1 h2) t

/-- States that correspond. -/
structure CR (P : Program) (F : FuncId → Prop) (G : Nat) (r : Ren) (x X : Cfg) : Prop where
  fr : FrR P F r x.fr X.fr
  cs : CsR P F r x.cs X.cs
  wr : WR r x.w X.w
  bi : Bi G r
  lo : G ≤ x.w.heap.size
  hi : G ≤ X.w.heap.size

section
variable {P : Program} {F : FuncId → Prop} {G : Nat}

theorem WR.tp {r : Ren} {w W : World} (h : WR r w W) (T : Nat → Question → Nat) (d : Nat) : WR r (tp w T d) (Co.tp W T d) := ⟨h.obj, rfl, rfl⟩

def Cfg.tp (x : Cfg) (T : Nat → Question → Nat) (d : Nat) : Cfg := ⟨x.fr, x.cs, Co.tp x.w T d⟩

theorem CR.tp {r : Ren} {x X : Cfg} (h : CR P F G r x X) (T : Nat → Question → Nat) (d : Nat) : CR P F G r (x.tp T d) (X.tp T d) := ⟨h.fr, h.cs, h.wr.tp T d, h.bi, h.lo, h.hi⟩

/-- What the second owes for a step of the first. -/
structure Walks (P : Program) (F : FuncId → Prop) (G : Nat) (r : Ren) (x X y : Cfg) : Prop where
  out : ∃ r' OUT Y es, (act P X.fr).runT P X.w #[] = (.ok OUT Y.w, es) ∧ place P X.fr X.cs OUT = some (Y.fr, Y.cs) ∧ CR P F G r' y Y ∧ Sub r r' ∧ Keeps r X.w Y.w ∧ Fresh r r' x.w X.w ∧ (∀ e ∈ es, EvOk r' e) ∧ x.w.heap.size ≤ y.w.heap.size

theorem CR.walks (hG : P.globals.size ≤ G) (hF : ∀ f, F f → FuncOk P F f) {r : Ren} {x X y : Cfg} (h : CR P F G r x X) {out : Out} (hr : (act P x.fr).run P x.w = .ok out y.w) (hp : place P x.fr x.cs out = some (y.fr, y.cs)) : Walks P F G r x X y := by
  obtain ⟨r', OUT, W', es, e1, e2, e3, e4, e5, e6, e7, e8, e9⟩ := ((tr_act hG h.bi h.fr).ran h.bi h.wr h.lo h.hi hr).out #[]
  rw [Array.empty_append] at e1
  have hhi : G ≤ W'.heap.size := Nat.le_trans h.hi e5.size
  have hlo : G ≤ y.w.heap.size := Nat.le_trans h.lo e9
  have fin : ∀ {FR' CS'}, place P X.fr X.cs OUT = some (FR', CS') → FrR P F r' y.fr FR' → CsR P F r' y.cs CS' → Walks P F G r x X y := by
    intro FR' CS' h1 h2 h3
    exact ⟨r', OUT, ⟨FR', CS', W'⟩, es, e1, h1, ⟨h2, h3, e4, e3, hlo, hhi⟩, e2, e5, e6, e7, e9⟩
  cases e8 using OutR.cs with
  | go hfr =>
    simp only [place, Option.some.injEq, Prod.mk.injEq] at hp
    exact fin rfl (hp.1 ▸ hfr) (hp.2 ▸ h.cs.mono e2)
  | enter f hf hc =>
    simp only [place, Option.some.injEq, Prod.mk.injEq] at hp
    exact fin rfl (hp.1 ▸ FrR.enter hF hf hc) (hp.2 ▸ .cons (h.fr.mono e2) (h.cs.mono e2))
  | ret hv =>
    have hcs := h.cs
    obtain ⟨xfr, xcs, xw⟩ := x
    obtain ⟨Xfr, Xcs, Xw⟩ := X
    dsimp only at hcs hp fin
    cases hcs using CsR.cs with
    | nil => simp [place] at hp
    | cons hc hcr =>
      simp only [place, Option.some.injEq, Prod.mk.injEq] at hp
      exact fin rfl (hp.1 ▸ (hc.mono e2).finish hv) (hp.2 ▸ hcr.mono e2)

/-! ### the tape that never lets it come to an end -/
variable (P)
/-- The frame beneath: whoever comes back to it has come too far. -/
def trap : Frame := { fn := P.funcs.size, tmps := #[], todo := [.call ⟨.nil, #[]⟩ false Go.Extern.FmtStop.writeWord #[]], defers := [], mode := .run, kind := .normal }

structure Dead.Cl (P : Program) (M : Machine → Prop) : Prop where
  all ::
  pan : ∀ {fr : Frame} {cs : List Frame} {w : World} {ch : List PanicEntry}, fr.mode = .panicking ch → fr.defers = [] → (∃ fn, P.funcs[fr.fn]? = some fn) → (∀ c ∈ cs, c.defers = [] ∧ ∃ fn, P.funcs[c.fn]? = some fn) → M (lone fr (cs ++ [trap P]) w)
  out : ∀ {w : World} {ch : List PanicEntry}, M (lone ((trap P).raise ch) [] w)
  back : ∀ {w : World} {v : Value}, M (lone ((trap P).finish v) [] w)
/-- From here nobody comes to an end any more. -/
def Dead (P : Program) (x : Machine) : Prop := ∀ M : Machine → Prop, Dead.Cl P M → M x
theorem Dead.pan {P : Program} {fr : Frame} {cs : List Frame} {w : World} {ch : List PanicEntry} (h1 : fr.mode = .panicking ch) (h2 : fr.defers = []) (h3 : (∃ fn, P.funcs[fr.fn]? = some fn)) (h4 : (∀ c ∈ cs, c.defers = [] ∧ ∃ fn, P.funcs[c.fn]? = some fn)) : Dead P (lone fr (cs ++ [trap P]) w) := fun _ cl => cl.pan h1 h2 h3 h4
theorem Dead.out {P : Program} {w : World} {ch : List PanicEntry} : Dead P (lone ((trap P).raise ch) [] w) := fun _ cl => cl.out 
theorem Dead.back {P : Program} {w : World} {v : Value} : Dead P (lone ((trap P).finish v) [] w) := fun _ cl => cl.back 
theorem Dead.cs {P : Program} {motive : (x : Machine) → Dead P x → Prop} {x : Machine} (t : Dead P x) (pan : ∀ {fr : Frame} {cs : List Frame} {w : World} {ch : List PanicEntry} (h1 : fr.mode = .panicking ch) (h2 : fr.defers = []) (h3 : (∃ fn, P.funcs[fr.fn]? = some fn)) (h4 : (∀ c ∈ cs, c.defers = [] ∧ ∃ fn, P.funcs[c.fn]? = some fn)), motive (lone fr (cs ++ [trap P]) w) (Dead.pan h1 h2 h3 h4))
    (out : ∀ {w : World} {ch : List PanicEntry}, motive (lone ((trap P).raise ch) [] w) Dead.out)
    (back : ∀ {w : World} {v : Value}, motive (lone ((trap P).finish v) [] w) Dead.back) : motive x t :=
  t (fun x => ∀ h : Dead P x, motive x h) ⟨fun h1 h2 h3 h4 _ => pan h1 h2 h3 h4, fun _ => out, fun _ => back⟩ t
variable {P}

theorem noRow : Extern.next Go.Extern.FmtStop.writeWord = none := by kernel_rfl

theorem raise_mode (c : Frame) (ch : List PanicEntry) : ∃ ch', (c.raise ch).mode = .panicking ch' := by
  unfold Frame.raise
  split
  · exact ⟨_, rfl⟩
  · exact ⟨_, rfl⟩
theorem raise_defers (c : Frame) (ch : List PanicEntry) : (c.raise ch).defers = c.defers := by
  unfold Frame.raise
  split <;> rfl
theorem raise_fn (c : Frame) (ch : List PanicEntry) : (c.raise ch).fn = c.fn := by
  unfold Frame.raise
  split <;> rfl

theorem Dead.step {m : Machine} (h : Dead P m) : (∃ o w, step P m = .ended o w) ∨ ∃ m', step P m = .next m' ∧ Dead P m' := by
  cases h using Dead.cs with
  | @pan fr cs w ch hm hd hf hc =>
    obtain ⟨fn, hf⟩ := hf
    cases cs with
    | nil => exact .inr ⟨_, step_lone_go (by simp [stepG, unwind, Frame.catches, hm, hd, hf]; exact ⟨rfl, rfl⟩), .out⟩
    | cons c cs =>
      obtain ⟨h1, h2⟩ := hc c (by simp)
      refine .inr ⟨_, step_lone_go (by simp [stepG, unwind, Frame.catches, hm, hd, hf]; exact ⟨⟨rfl, rfl⟩, rfl⟩), ?_⟩
      obtain ⟨ch', hch⟩ := raise_mode c ch
      exact .pan hch (by rw [raise_defers, h1]) (by rw [raise_fn]; exact h2) fun x hx => hc x (by simp [hx])
  | out =>
    refine .inl ⟨_, _, step_lone_ended (by simp [stepG, unwind, Frame.catches, trap, Frame.raise, Go.Extern.FmtStop.writeWord]; exact ⟨rfl, rfl⟩)⟩
  | back => exact .inl ⟨_, _, step_lone_ended (by simp [stepG, stepG.exec, Frame.finish, trap, noRow]; exact ⟨rfl, rfl⟩)⟩

theorem lone_inj {fr fr' : Frame} {cs cs' : List Frame} {w w' : World} (h : lone fr cs w = lone fr' cs' w') : fr = fr' ∧ cs = cs' ∧ w = w' := by
  simp only [lone, Machine.mk.injEq, Array.mk.injEq, List.cons.injEq, Goroutine.mk.injEq] at h
  exact ⟨h.2.1.1.1, h.2.1.1.2.1, h.1⟩

theorem Dead.not {m : Machine} (h : Dead P m) {fr : Frame} {w : World} (hm : fr.mode = .returning) : m ≠ lone fr [trap P] w := by
  rintro rfl
  generalize he : lone fr [trap P] w = m at h
  cases h using Dead.cs with
  | @pan fr' cs w' ch h1 h2 h3 h4 =>
    obtain ⟨rfl, -, -⟩ := lone_inj he
    rw [hm] at h1
    cases h1
  | out => have := (lone_inj he).2.1; simp at this
  | back => have := (lone_inj he).2.1; simp at this

theorem step_act {fr : Frame} {cs : List Frame} {w w' : World} {out : Out} {fr' : Frame} {cs' : List Frame} (hp : Plain P F fr) (h : (act P fr).run P w = .ok out w') (hpl : place P fr cs out = some (fr', cs')) : step P (lone fr cs w) = .next (lone fr' cs' w') :=
  step_lone_go (by
    have := stepG_act (main := true) hp h hpl
    unfold Conc.G at this
    rw [this]
    rfl)

theorem place_app {fr : Frame} {cs base : List Frame} {a : Out} {fr' : Frame} {cs' : List Frame} (h : place P fr cs a = some (fr', cs')) : place P fr (cs ++ base) a = some (fr', cs' ++ base) := by
  cases a using Out.cs with
  | go f => simp only [place, Option.some.injEq, Prod.mk.injEq] at h ⊢; exact ⟨h.1, by rw [h.2]⟩
  | enter f c => simp only [place, Option.some.injEq, Prod.mk.injEq] at h ⊢; exact ⟨h.1, by rw [← h.2]; rfl⟩
  | ret v =>
    cases cs with
    | nil => simp [place] at h
    | cons c r => simp only [place, List.cons_append, Option.some.injEq, Prod.mk.injEq] at h ⊢; exact ⟨h.1, by rw [h.2]⟩

theorem CsR.plain (hF : ∀ f, F f → FuncOk P F f) {r : Ren} {cs ds : List Frame} (h : CsR P F r cs ds) : ∀ c ∈ cs, c.defers = [] ∧ ∃ fn, P.funcs[c.fn]? = some fn := by
  induction h using CsR.ind with
  | nil => simp
  | cons h _ ih =>
    intro c hc
    rcases List.mem_cons.1 hc with rfl | hc
    · obtain ⟨fn, b, h1, _⟩ := hF _ h.pa.fok
      exact ⟨h.pa.defers, fn, h1⟩
    · exact ih c hc

section bar
/-- Tapes on which a step leads to nothing good, if there are such. -/
def Wits (P : Program) (Tgt : Cfg → Prop) (wT : Cfg → (Nat → Question → Nat) × Nat) : Prop := ∀ x, ¬ Good P Tgt x → ¬ ∃ y, Leads P x (wT x).1 (wT x).2 y ∧ Good P Tgt y

theorem wits (P : Program) (Tgt : Cfg → Prop) : ∃ wT, Wits P Tgt wT := by
  have h : ∀ x : Cfg, ∃ Td : (Nat → Question → Nat) × Nat, ¬ Good P Tgt x → ¬ ∃ y, Leads P x Td.1 Td.2 y ∧ Good P Tgt y := by
    intro x
    apply Classical.byContradiction
    intro hn
    refine hn ⟨(fun _ _ => 0, 0), fun h => ?_⟩
    refine absurd ?_ h
    have hn' : ∀ T d, ∃ y, Leads P x T d y ∧ Good P Tgt y := fun T d => Classical.byContradiction fun hx => hn ⟨(T, d), fun _ => hx⟩
    exact .step (fun T d => Classical.choose (hn' T d)) (fun T d => (Classical.choose_spec (hn' T d)).1) (fun T d => (Classical.choose_spec (hn' T d)).2)
  exact ⟨fun x => Classical.choose (h x), fun x => Classical.choose_spec (h x)⟩

def worldOf {α : Type} : Result α → World
  | .ok _ w => w
  | .halt _ w => w

variable (P) (wT : Cfg → (Nat → Question → Nat) × Nat)
def res (x : Cfg) : Result Out := (act P x.fr).run P (tp x.w (wT x).1 (wT x).2)
/-- How many answers the step draws. -/
def used (x : Cfg) : Nat := (worldOf (res P wT x)).drawn - (wT x).2
def nxt (x : Cfg) : Option Cfg :=
  match res P wT x with
  | .ok out w => (place P x.fr x.cs out).map fun y => ⟨y.1, y.2, w⟩
  | .halt _ _ => none

def row (x0 : Cfg) : Nat → Option (Cfg × Nat)
  | 0 => some (x0, 0)
  | n + 1 => (row x0 n).bind fun xD => (nxt P wT xD.1).map fun y => (y, xD.2 + used P wT xD.1)

variable {P wT}
theorem row_succ {x0 x : Cfg} {n D : Nat} (h : row P wT x0 n = some (x, D)) : row P wT x0 (n + 1) = (nxt P wT x).map fun y => (y, D + used P wT x) := by simp [row, h]

theorem row_le {x0 : Cfg} {n x D : _} (h : row P wT x0 n = some (x, D)) : ∀ {m y E}, n < m → row P wT x0 m = some (y, E) → D + used P wT x ≤ E := by
  intro m
  induction m with
  | zero => intro y E hn; omega
  | succ m ih =>
    intro y E hn hm
    cases hr : row P wT x0 m with
    | none => simp [row, hr] at hm
    | some zD =>
      obtain ⟨z, D'⟩ := zD
      rw [row_succ hr] at hm
      obtain ⟨y', hy', he⟩ := Option.map_eq_some_iff.1 hm
      simp only [Prod.mk.injEq] at he
      obtain ⟨rfl, rfl⟩ := he
      rcases Nat.lt_or_ge n m with hlt | hge
      · have := ih hlt hr; omega
      · obtain rfl : n = m := by omega
        rw [h] at hr
        simp only [Option.some.injEq, Prod.mk.injEq] at hr
        obtain ⟨rfl, rfl⟩ := hr
        exact Nat.le_refl _

/-- The answers, one behind the other. -/
def Glues (P : Program) (wT : Cfg → (Nat → Question → Nat) × Nat) (x0 : Cfg) (gT : Nat → Question → Nat) : Prop := ∀ {x n D j}, row P wT x0 n = some (x, D) → j < used P wT x → gT (D + j) = (wT x).1 ((wT x).2 + j)

open Classical in
theorem glues (P : Program) (wT : Cfg → (Nat → Question → Nat) × Nat) (x0 : Cfg) : ∃ gT, Glues P wT x0 gT := by
  refine ⟨fun n => if h : ∃ i : Nat × Cfg × Nat, row P wT x0 i.1 = some (i.2.1, i.2.2) ∧ i.2.2 ≤ n ∧ n < i.2.2 + used P wT i.2.1 then (wT (Classical.choose h).2.1).1 ((wT (Classical.choose h).2.1).2 + (n - (Classical.choose h).2.2)) else fun _ => 0, ?_⟩
  intro x n D j h hj
  have hex : ∃ i : Nat × Cfg × Nat, row P wT x0 i.1 = some (i.2.1, i.2.2) ∧ i.2.2 ≤ D + j ∧ D + j < i.2.2 + used P wT i.2.1 := ⟨(n, x, D), h, by simp, by simp; exact hj⟩
  dsimp only
  rw [dif_pos hex]
  have hs := Classical.choose_spec hex
  generalize Classical.choose hex = i at hs
  obtain ⟨i, y, E⟩ := i
  dsimp only at hs ⊢
  obtain ⟨h1, h2, h3⟩ := hs
  have : i = n := by
    rcases Nat.lt_trichotomy i n with hlt | he | hgt
    · have := row_le h1 hlt h; omega
    · exact he
    · have := row_le h hgt h1; omega
  subst this
  rw [h] at h1
  simp only [Option.some.injEq, Prod.mk.injEq] at h1
  obtain ⟨rfl, rfl⟩ := h1
  rw [show D + j - D = j by omega]

/-- Along that tape the goroutine stands at no good state, or nobody comes to an end any more. -/
theorem glued_along {Tgt : Cfg → Prop} {gT : Nat → Question → Nat} (hG : P.globals.size ≤ G) (hF : ∀ f, F f → FuncOk P F f) {x0 : Cfg} (hW : Wits P Tgt wT) (hgl : Glues P wT x0 gT) (h0 : ¬ Good P Tgt x0) (hc : ∃ r X, CR P F G r x0 X) :
    ∀ n m, runN P n (lone x0.fr (x0.cs ++ [trap P]) (tp x0.w gT 0)) = .next m →
      (∃ x D, row P wT x0 n = some (x, D) ∧ ¬ Good P Tgt x ∧ (∃ r X, CR P F G r x X) ∧ m = lone x.fr (x.cs ++ [trap P]) (tp x.w gT D)) ∨ Dead P m := by
  intro n
  induction n with
  | zero =>
    intro m hm
    simp only [runN, Stepped.next.injEq] at hm
    exact .inl ⟨x0, 0, rfl, h0, hc, hm.symm⟩
  | succ n ih =>
    intro m hm
    have split : ∃ m1, runN P n (lone x0.fr (x0.cs ++ [trap P]) (tp x0.w gT 0)) = .next m1 ∧ step P m1 = .next m := by
      rw [runN_add] at hm
      cases hr : runN P n (lone x0.fr (x0.cs ++ [trap P]) (tp x0.w gT 0)) with
      | ended o w => rw [hr] at hm; cases hm
      | next m1 =>
        rw [hr] at hm
        refine ⟨m1, rfl, ?_⟩
        simp only [runN] at hm
        cases hs : step P m1 with
        | ended o w => rw [hs] at hm; cases hm
        | next m2 => rw [hs] at hm; simpa using hm
    obtain ⟨m1, hm1, hst⟩ := split
    rcases ih m1 hm1 with ⟨x, D, hrow, hbad, ⟨r, X, hcr⟩, rfl⟩ | hd
    · have hcT := hcr.tp (wT x).1 (wT x).2
      have hcg := hcr.tp gT D
      have hTR := tr_act hG hcr.bi hcr.fr
      have hplain : Plain P F x.fr := hcr.fr.pa
      obtain ⟨k, hk⟩ := hTR.tape hcT.bi hcT.wr hcT.lo hcT.hi
      rcases hk with ⟨a, w2, hk⟩ | ⟨hh, w2, hk⟩
      · have hT : (act P x.fr).run P (tp x.w (wT x).1 (wT x).2) = .ok a (tp w2 (wT x).1 ((wT x).2 + k)) := hk _ _ fun _ _ => rfl
        have hres : res P wT x = .ok a (tp w2 (wT x).1 ((wT x).2 + k)) := hT
        have hused : used P wT x = k := by simp [used, hres, worldOf, tp]
        have hg : (act P x.fr).run P (tp x.w gT D) = .ok a (tp w2 gT (D + k)) := hk _ _ fun j hj => hgl hrow (hused ▸ hj)
        cases hp : place P x.fr x.cs a with
        | some y =>
          obtain ⟨fr', cs'⟩ := y
          have hp' : place P x.fr (x.cs ++ [trap P]) a = some (fr', cs' ++ [trap P]) := place_app hp
          rw [step_act hplain hg hp'] at hst
          simp only [Stepped.next.injEq] at hst
          refine .inl ⟨⟨fr', cs', tp w2 (wT x).1 ((wT x).2 + k)⟩, D + used P wT x, ?_, ?_, ?_, ?_⟩
          · rw [row_succ hrow]
            simp [nxt, hres, hp]
          · exact fun hgood => hW _ hbad ⟨_, ⟨a, hT, hp⟩, hgood⟩
          · obtain ⟨r', OUT, Y, es, _, _, h3, _⟩ := (CR.walks (y := ⟨fr', cs', tp w2 (wT x).1 ((wT x).2 + k)⟩) hG hF hcT hT hp).out
            exact ⟨r', Y, h3⟩
          · rw [← hst, hused]; rfl
        | none =>
          right
          have hret : ∃ v, a = .ret v ∧ x.cs = [] := by
            cases a using Out.cs with
            | go f => simp [place] at hp
            | enter f c => simp [place] at hp
            | ret v =>
              refine ⟨v, rfl, ?_⟩
              cases hx : x.cs with
              | nil => rfl
              | cons c r => simp [place, hx] at hp
          obtain ⟨v, rfl, hcs⟩ := hret
          have hp' : place P x.fr (x.cs ++ [trap P]) (.ret v) = some ((trap P).finish v, []) := by rw [hcs]; rfl
          rw [step_act hplain hg hp'] at hst
          simp only [Stepped.next.injEq] at hst
          exact hst ▸ .back
      · have hT : (act P x.fr).run P (tp x.w (wT x).1 (wT x).2) = .halt hh (tp w2 (wT x).1 ((wT x).2 + k)) := hk _ _ fun _ _ => rfl
        have hres : res P wT x = .halt hh (tp w2 (wT x).1 ((wT x).2 + k)) := hT
        have hused : used P wT x = k := by simp [used, hres, worldOf, tp]
        have hg : (act P x.fr).run P (tp x.w gT D) = .halt hh (tp w2 gT (D + k)) := hk _ _ fun j hj => hgl hrow (hused ▸ hj)
        have hok : HaltOk hh := hTR.halts hcT.bi hcT.wr hcT.lo hcT.hi hT
        have hfun : ∃ fn, P.funcs[x.fr.fn]? = some fn := by obtain ⟨fn, c, h1, _⟩ := hF _ hplain.fok; exact ⟨fn, h1⟩
        have hN : ∀ o n w1, OpOk P F o.op → (execOp x.fr.eval o).run P (tp x.w gT D) = .ok n w1 → (∃ v, n = .value v) ∨ n = .skip ∨ ∃ f c, n = .enter f c := by
          intro o n w1 ho hrun
          obtain ⟨_, _, _, _, _, _, _, _, _, _, _, ⟨hn, _⟩, _⟩ := ((tr_execOp hG hcr.bi hcr.fr.eval (fun f => ⟨rfl, rfl⟩) ho).ran hcg.bi hcg.wr hcg.lo hcg.hi hrun).out #[]
          cases hn using NR.cs with
          | value _ => exact .inl ⟨_, rfl⟩
          | skip => exact .inr (.inl rfl)
          | enter f _ => exact .inr (.inr ⟨_, _, rfl⟩)
        rcases stepG_act_halt (main := true) (cs := x.cs ++ [trap P]) hplain hfun hN hg hok with ⟨chain, w1, he⟩ | ⟨o, w1, he⟩
        · rw [step_lone_go he] at hst
          simp only [Stepped.next.injEq] at hst
          obtain ⟨ch', hch⟩ := raise_mode x.fr chain
          exact .inr (hst ▸ .pan hch (by rw [raise_defers, hplain.defers]) (by rw [raise_fn]; exact hfun) (hcr.cs.plain hF))
        · rw [step_lone_ended he] at hst
          cases hst
    · rcases hd.step with ⟨o, w, he⟩ | ⟨m', he, hd'⟩
      · rw [he] at hst; cases hst
      · rw [he] at hst
        simp only [Stepped.next.injEq] at hst
        exact .inr (hst ▸ hd')

/-- IT COMES BACK ON EVERY TAPE: so it comes back whatever is drawn in between. -/
theorem good_of_steps {Tgt : Cfg → Prop} (hG : P.globals.size ≤ G) (hF : ∀ f, F f → FuncOk P F f) {x : Cfg} (hc : ∃ r X, CR P F G r x X) (hm : ∀ y T d, Tgt (y.tp T d) → y.fr.mode = .returning ∧ y.cs = [] ∧ Tgt y)
    (h : ∀ T d, ∃ y : Cfg, Tgt y ∧ Steps P (lone x.fr (x.cs ++ [trap P]) (tp x.w T d)) (lone y.fr (y.cs ++ [trap P]) y.w)) : Good P Tgt x := by
  apply Classical.byContradiction
  intro hbad
  obtain ⟨wT, hW⟩ := wits P Tgt
  obtain ⟨gT, hgl⟩ := glues P wT x
  obtain ⟨y, hy, n, hn⟩ := h gT 0
  have hy' : y.fr.mode = .returning ∧ y.cs = [] ∧ Tgt y := hm y y.w.tape y.w.drawn hy
  rcases glued_along hG hF hW hgl hbad hc n _ hn with ⟨z, D, _, hz, _, he⟩ | hd
  · obtain ⟨h1, h2, h3⟩ := lone_inj he
    refine hz (.done ?_)
    have h2' : y.cs = z.cs := List.append_cancel_right h2
    have hyz : y = z.tp gT D := by
      obtain ⟨yfr, ycs, yw⟩ := y
      dsimp only at h1 h2' h3
      subst h1 h2' h3
      rfl
    exact (hm z _ _ (hyz ▸ hy)).2.2
  · rw [hy'.2.1] at hd
    exact hd.not hy'.1 rfl
end bar

end
end Go.Proofs.Ytgpplekabohneaa.Co

namespace Go.Proofs.Ytgpplekabohneaa.Co
open Go

section
variable {P : Program} {α β : Type}

def Tapes (P : Program) (s : Sem α) : Prop := ∀ w, ∃ k, Shift P s w k

theorem Tapes.pure (a : α) : Tapes P (.pure a) := fun w => ⟨0, .inl ⟨a, w, fun _ _ _ => rfl⟩⟩
theorem Tapes.halt (h : Halt) : Tapes P (.halt h : Sem α) := fun _ => Shift.halt0 (h := h) fun _ _ => rfl
theorem Tapes.load {m : Mode} {a : Addr} {k : Value → Sem α} (h : ∀ v, Tapes P (k v)) : Tapes P (.load m a k) := by
  intro w
  have ef : ∀ T' d' b, (tp w T' d').farLoad P a b = w.farLoad P a b := fun _ _ _ => rfl
  cases hc : w.cell? a with
  | some v => exact Shift.same (h v w) fun T' d' => by simp only [Sem.run, tp_cell, hc]
  | none =>
    cases hf : w.farLoad P a (m == .atomic) with
    | ok r => exact Shift.same (h r.1 w) fun T' d' => by simp only [Sem.run, tp_cell, hc, ef, hf]
    | error hh => exact Shift.halt0 (h := hh) fun T' d' => by simp only [Sem.run, tp_cell, hc, ef, hf]
theorem Tapes.new {o : Obj} {k : Nat → Sem α} (h : ∀ n, Tapes P (k n)) : Tapes P (.new o k) := fun w =>
  Shift.turn (h w.heap.size { w with heap := w.heap.push o }) rfl rfl fun T' d' => by simp only [Sem.run]; rfl
theorem Tapes.shape {r : Nat} {k : Option (TypeId × Nat) → Sem α} (h : ∀ n, Tapes P (k n)) : Tapes P (.shape r k) := fun w =>
  Shift.same (h (w.shape? r) w) fun T' d' => by simp only [Sem.run]; rfl
theorem Tapes.frozen {a : Addr} {k : Bool → Sem α} (h : ∀ n, Tapes P (k n)) : Tapes P (.frozen a k) := fun w =>
  Shift.same (h (w.frozen? a) w) fun T' d' => by simp only [Sem.run]; rfl
theorem Tapes.program {k : Program → Sem α} (h : Tapes P (k P)) : Tapes P (.program k) := fun w => Shift.same (h w) fun T' d' => by simp only [Sem.run]
theorem Tapes.mark {m : Mark} {k : Sem α} (h : Tapes P k) : Tapes P (.mark m k) := fun w => Shift.same (h w) fun T' d' => by simp only [Sem.run]
theorem Tapes.getObj {r : Nat} {k : Obj → Sem α} (h : ∀ o, Tapes P (k o)) : Tapes P (.getObj r k) := by
  intro w
  have hh : ∀ T' d', (tp w T' d').heap = w.heap := fun _ _ => rfl
  cases ho : w.heap[r]? with
  | none => exact Shift.halt0 fun T' d' => by simp only [Sem.run, hh, ho]; rfl
  | some o =>
    by_cases hc : ∃ c e f, o = .cells c e f
    · obtain ⟨c, e, f, rfl⟩ := hc
      exact Shift.halt0 fun T' d' => by simp only [Sem.run, hh, ho]; rfl
    · refine Shift.same (h o w) fun T' d' => ?_
      cases o <;> first | (simp only [Sem.run, hh, ho]; done) | exact absurd ⟨_, _, _, rfl⟩ hc
theorem Tapes.setObj {r : Nat} {o : Obj} {k : Sem α} (h : Tapes P k) : Tapes P (.setObj r o k) := by
  intro w
  cases ho : w.heap[r]? with
  | none => exact Shift.halt0 fun T' d' => by simp only [Sem.run, show (tp w T' d').heap = w.heap from rfl, ho]; rfl
  | some o' =>
    cases o' with
    | cells c e f => exact Shift.halt0 fun T' d' => by simp only [Sem.run, show (tp w T' d').heap = w.heap from rfl, ho]; rfl
    | _ => exact Shift.turn (h { w with heap := w.heap.setIfInBounds r o }) rfl rfl fun T' d' => by simp only [Sem.run, show (tp w T' d').heap = w.heap from rfl, ho]; rfl
theorem Tapes.choose {q : Question} {k : Nat → Sem α} (h : ∀ n, Tapes P (k n)) : Tapes P (.choose q k) := by
  intro w
  by_cases hq : q.forced
  · exact Shift.same (h 0 w) fun T' d' => by simp only [Sem.run, hq, if_true]
  · obtain ⟨n, hn⟩ := h (q.cut (w.tape w.drawn q)) { w with drawn := w.drawn + 1 }
    refine ⟨n + 1, ?_⟩
    have key : ∀ (T' : Nat → Question → Nat) (d' : Nat), (∀ j, j < n + 1 → T' (d' + j) = w.tape (w.drawn + j)) →
        (Sem.choose q k).run P (tp w T' d') = (k (q.cut (w.tape w.drawn q))).run P (tp { w with drawn := w.drawn + 1 } T' (d' + 1)) ∧ ∀ j, j < n → T' (d' + 1 + j) = w.tape (w.drawn + 1 + j) := by
      intro T' d' ha
      have h0 := ha 0 (by omega)
      refine ⟨?_, fun j hj => by have := ha (j + 1) (by omega); rw [show d' + 1 + j = d' + (j + 1) by omega, show w.drawn + 1 + j = w.drawn + (j + 1) by omega]; exact this⟩
      simp only [Nat.add_zero] at h0
      simp only [Sem.run, hq]
      simp only [tp, Bool.false_eq_true, if_false, h0]
    rcases hn with ⟨a, w2, hn⟩ | ⟨hh, w2, hn⟩
    · refine .inl ⟨a, w2, fun T' d' ha => ?_⟩
      obtain ⟨k1, k2⟩ := key T' d' ha
      rw [k1, hn T' (d' + 1) k2, show d' + 1 + n = d' + (n + 1) by omega]
    · refine .inr ⟨hh, w2, fun T' d' ha => ?_⟩
      obtain ⟨k1, k2⟩ := key T' d' ha
      rw [k1, hn T' (d' + 1) k2, show d' + 1 + n = d' + (n + 1) by omega]

theorem seen_same {w w' : World} {at_ : Addr} {u : TypeId} {a : Addr} {b : Bool} (h : w.heap[at_.block]? = w'.heap[at_.block]?) : w.seen P at_ u a b = w'.seen P at_ u a b := by
  unfold World.seen
  rw [h]

/-- What a store through another type comes to. -/
theorem viewStore_at {w w1 : World} {at_ : Addr} {u : TypeId} {a : Addr} {v : Value} {b : Bool} {l : List Addr} (h : w.viewStore P at_ u a v b = .ok (w1, l)) :
    (∀ c ∈ l, c.block = at_.block) ∧ ∃ c e f, w1 = { w with heap := w.heap.setIfInBounds at_.block (.cells c e f) } ∧ ∀ w' : World, w.heap[at_.block]? = w'.heap[at_.block]? → w'.viewStore P at_ u a v b = .ok ({ w' with heap := w'.heap.setIfInBounds at_.block (.cells c e f) }, l) := by
  have key : ∀ w' : World, w.heap[at_.block]? = w'.heap[at_.block]? → w'.seen P at_ u a b = w.seen P at_ u a b := fun w' e => (seen_same e).symm
  unfold World.viewStore at h
  by_cases ht : (!tight P P.depth u) = true
  · rw [if_pos ht] at h; cases h
  rw [if_neg ht] at h
  cases hs : w.seen P at_ u a b with
  | error m => rw [hs] at h; cases h
  | ok r =>
    obtain ⟨c, e, fz, first, like, cells⟩ := r
    rw [hs] at h
    simp only [bind, Except.bind, pure, Except.pure] at h
    cases hb : v.bytes? with
    | none => rw [hb] at h; cases h
    | some bytes =>
      rw [hb] at h
      dsimp only at h
      by_cases hl : some bytes.length ≠ like.bytes?.map (·.length)
      · rw [if_pos hl] at h; cases h
      rw [if_neg hl] at h
      split at h
      · cases h
      · rename_i c2 hc2
        simp only [Except.ok.injEq, Prod.mk.injEq] at h
        obtain ⟨rfl, rfl⟩ := h
        refine ⟨fun z hz => by obtain ⟨q, _, rfl⟩ := List.mem_map.1 hz; rfl, c2, e, fz, rfl, fun w' hw' => ?_⟩
        unfold World.viewStore
        rw [if_neg ht, key w' hw', hs]
        simp only [bind, Except.bind, pure, Except.pure, hb]
        rw [if_neg hl]
        rw [hc2]

theorem viewStore_tp {w : World} {at_ : Addr} {u : TypeId} {a : Addr} {v : Value} {b : Bool} (T : Nat → Question → Nat) (d : Nat) : (tp w T d).viewStore P at_ u a v b = (w.viewStore P at_ u a v b).map fun r => (tp r.1 T d, r.2) := by
  have hs : (tp w T d).seen P at_ u a b = w.seen P at_ u a b := seen_same rfl
  unfold World.viewStore
  rw [hs]
  by_cases ht : (!tight P P.depth u) = true
  · rw [if_pos ht, if_pos ht]; rfl
  rw [if_neg ht, if_neg ht]
  cases w.seen P at_ u a b with
  | error m => rfl
  | ok r =>
    obtain ⟨c, e, fz, first, like, cells⟩ := r
    simp only [bind, Except.bind, pure, Except.pure]
    cases hb : v.bytes? with
    | none => rfl
    | some bytes =>
      dsimp only
      by_cases hl : some bytes.length ≠ like.bytes?.map (·.length)
      · rw [if_pos hl, if_pos hl]; rfl
      rw [if_neg hl, if_neg hl]
      split <;> rfl

theorem farStore_tp {w : World} {a : Addr} {v : Value} {b : Bool} (T : Nat → Question → Nat) (d : Nat) : (tp w T d).farStore P a v b = (w.farStore P a v b).map fun r => (tp r.1 T d, r.2) := by
  have hh : (tp w T d).heap = w.heap := rfl
  unfold World.farStore
  rw [hh]
  cases ho : w.heap[a.block]? with
  | none => simp only [World.noCell, hh, ho]; rfl
  | some o =>
    cases o with
    | view at_ u =>
      dsimp only
      rw [viewStore_tp]
      cases w.viewStore P at_ u a v b <;> rfl
    | _ => simp only [World.noCell, hh, ho]; rfl

theorem Tapes.store {m : Mode} {a : Addr} {v : Value} {k : Sem α} (h : Tapes P k) : Tapes P (.store m a v k) := by
  intro w
  by_cases hv : (∃ c, v = .agg c) ∨ ∃ c, v = .tuple c
  · rcases hv with ⟨c, rfl⟩ | ⟨c, rfl⟩ <;> exact Shift.halt0 fun T' d' => by simp only [Sem.run]; rfl
  have n1 : ∀ c, v ≠ .agg c := fun c e => hv (.inl ⟨c, e⟩)
  have n2 : ∀ c, v ≠ .tuple c := fun c e => hv (.inr ⟨c, e⟩)
  have e1 : ∀ w : World, (Sem.store m a v k).run P w = match w.cell? a with
      | some _ => if w.frozen? a then .halt (.unsupported (.unsafePointer "a write to bytes that a string shares")) w else k.run P (w.setCell a v)
      | none => match w.farStore P a v (m == .atomic) with
        | .ok (w, _) => k.run P w
        | .error h => .halt h w := by
    intro w
    cases v <;> first | rfl | exact absurd rfl (n1 _) | exact absurd rfl (n2 _)
  cases hc : w.cell? a with
  | some v0 =>
    cases hf : w.frozen? a with
    | true => exact Shift.halt0 fun T' d' => by rw [e1]; simp only [tp_cell, hc, tp_frozen, hf, if_true]; rfl
    | false => exact Shift.turn (h (w.setCell a v)) rfl rfl fun T' d' => by rw [e1]; simp only [tp_cell, hc, tp_frozen, hf, Bool.false_eq_true, if_false, tp_setCell]
  | none =>
    cases hf : w.farStore P a v (m == .atomic) with
    | error hh =>
      refine Shift.halt0 (h := hh) fun T' d' => ?_
      rw [e1]; simp only [tp_cell, hc, farStore_tp, hf]; rfl
    | ok r =>
      obtain ⟨w1, l⟩ := r
      have ht : w1.tape = w.tape ∧ w1.drawn = w.drawn := by
        unfold World.farStore at hf
        split at hf
        · rename_i at_ u _
          cases h1 : w.viewStore P at_ u a v (m == .atomic) with
          | error e => rw [h1] at hf; cases hf
          | ok r =>
            obtain ⟨w2, l2⟩ := r
            obtain ⟨_, c, e, f, rfl, _⟩ := viewStore_at h1
            rw [h1] at hf
            cases hf
            exact ⟨rfl, rfl⟩
        · cases hf
      exact Shift.turn (h w1) ht.1 ht.2 fun T' d' => by rw [e1]; simp only [tp_cell, hc, farStore_tp, hf]; rfl

theorem Tapes.bind' {s : Sem α} {f : α → Sem β} (h : Tapes P s) (hf : ∀ a, Tapes P (f a)) : Tapes P (s.bind f) := by
  intro w
  have e : ∀ w, (s.bind f).run P w = (s.run P w).andThen fun a w1 => (f a).run P w1 := fun w => Sem.run_bind' P s f w
  obtain ⟨k, hk | hk⟩ := h w
  · obtain ⟨a, w2, hk⟩ := hk
    obtain ⟨n, hn⟩ := hf a (tp w2 w.tape (w.drawn + k))
    refine ⟨k + n, ?_⟩
    have split : ∀ (T' : Nat → Question → Nat) (d' : Nat), (∀ j, j < k + n → T' (d' + j) = w.tape (w.drawn + j)) → (∀ j, j < k → T' (d' + j) = w.tape (w.drawn + j)) ∧ ∀ j, j < n → T' (d' + k + j) = w.tape (w.drawn + k + j) := by
      intro T' d' ha
      refine ⟨fun j hj => ha j (by omega), fun j hj => ?_⟩
      have := ha (k + j) (by omega)
      rw [show d' + k + j = d' + (k + j) by omega, show w.drawn + k + j = w.drawn + (k + j) by omega]
      exact this
    have tt : ∀ (T' : Nat → Question → Nat) (d' : Nat), tp (tp w2 w.tape (w.drawn + k)) T' d' = tp w2 T' d' := fun _ _ => rfl
    rcases hn with ⟨b, w3, hn⟩ | ⟨hh, w3, hn⟩
    · refine .inl ⟨b, w3, fun T' d' ha => ?_⟩
      obtain ⟨g1, g2⟩ := split T' d' ha
      rw [e, hk T' d' g1]
      have := hn T' (d' + k) g2
      rw [tt] at this
      simp only [Result.andThen]
      rw [this, Nat.add_assoc]
    · refine .inr ⟨hh, w3, fun T' d' ha => ?_⟩
      obtain ⟨g1, g2⟩ := split T' d' ha
      rw [e, hk T' d' g1]
      have := hn T' (d' + k) g2
      rw [tt] at this
      simp only [Result.andThen]
      rw [this, Nat.add_assoc]
  · obtain ⟨hh, w2, hk⟩ := hk
    exact ⟨k, .inr ⟨hh, w2, fun T' d' ha => by rw [e, hk T' d' ha]; rfl⟩⟩

end
end Go.Proofs.Ytgpplekabohneaa.Co
