/- An operation as a whole: the same in both worlds. · One step of a goroutine in plain code: the same in both worlds. · From 'it comes there on every tape' to a well-founded tree of steps, for plain code; no renaming. -/
import Derived.Test.YtgpplekabohneaaYae
namespace Go.Proofs.Ytgpplekabohneaa.Co
open Go

section
variable {P : Program} {α β σ : Type}

structure Rd.Cl (P : Program) (r : Nat) {α : Type} (M : Sem α → Prop) : Prop where
  all ::
  pure : ∀ (a : α), M (.pure a)
  halt : ∀ {h : Halt}, HaltOk h → M (.halt h)
  shape : ∀ {k : Option (TypeId × Nat) → Sem α}, (∀ s, M (k s)) → M (.shape r k)
  getObj : ∀ {k : Obj → Sem α}, (∀ o, M (k o)) → M (.getObj r k)
  program : ∀ {k : Program → Sem α}, M (k P) → M (.program k)
/-- It asks about the one block alone, and changes nothing. -/
def Rd (P : Program) (r : Nat) {α : Type} (x : Sem α) : Prop := ∀ M : Sem α → Prop, Rd.Cl P r M → M x
theorem Rd.pure {P : Program} {r : Nat} {α : Type} (a : α) : Rd P r (.pure a) := fun _ cl => cl.pure a
theorem Rd.halt {P : Program} {r : Nat} {α : Type} {h : Halt} (h1 : HaltOk h) : Rd P r (.halt h : Sem α) := fun _ cl => cl.halt h1
theorem Rd.shape {P : Program} {r : Nat} {α : Type} {k : Option (TypeId × Nat) → Sem α} (h1 : (∀ s, Rd P r (k s))) : Rd P r (.shape r k) := fun M cl => cl.shape (fun y0 => h1 y0 M cl)
theorem Rd.getObj {P : Program} {r : Nat} {α : Type} {k : Obj → Sem α} (h1 : (∀ o, Rd P r (k o))) : Rd P r (.getObj r k) := fun M cl => cl.getObj (fun y0 => h1 y0 M cl)
theorem Rd.program {P : Program} {r : Nat} {α : Type} {k : Program → Sem α} (h1 : Rd P r (k P)) : Rd P r (.program k) := fun M cl => cl.program (h1 M cl)
theorem Rd.ind {P : Program} {r : Nat} {α : Type} {motive : (x : Sem α) → Rd P r x → Prop} (pure : ∀ (a : α), motive (.pure a) (Rd.pure a))
    (halt : ∀ {h : Halt} (h1 : HaltOk h), motive (.halt h) (Rd.halt h1))
    (shape : ∀ {k : Option (TypeId × Nat) → Sem α} (h1 : (∀ s, Rd P r (k s))), (∀ s, motive (k s) (h1 s)) → motive (.shape r k) (Rd.shape h1))
    (getObj : ∀ {k : Obj → Sem α} (h1 : (∀ o, Rd P r (k o))), (∀ o, motive (k o) (h1 o)) → motive (.getObj r k) (Rd.getObj h1))
    (program : ∀ {k : Program → Sem α} (h1 : Rd P r (k P)), motive (k P) h1 → motive (.program k) (Rd.program h1)) {x : Sem α} (t : Rd P r x) : motive x t :=
  (t (fun x => Rd P r x ∧ ∀ h : Rd P r x, motive x h) ⟨fun a => ⟨Rd.pure a, fun _ => pure a⟩,
    fun h1 => ⟨Rd.halt h1, fun _ => halt h1⟩,
    fun h1 => ⟨Rd.shape (fun y0 => (h1 y0).1), fun _ => shape (fun y0 => (h1 y0).1) (fun y0 => (h1 y0).2 _)⟩,
    fun h1 => ⟨Rd.getObj (fun y0 => (h1 y0).1), fun _ => getObj (fun y0 => (h1 y0).1) (fun y0 => (h1 y0).2 _)⟩,
    fun h1 => ⟨Rd.program h1.1, fun _ => program h1.1 (h1.2 _)⟩⟩).2 t
theorem Rd.bind' {r : Nat} {s : Sem α} {f : α → Sem β} (h : Rd P r s) (hf : ∀ a, Rd P r (f a)) : Rd P r (s.bind f) := by
  induction h using Rd.ind with
  | pure a => exact hf a
  | halt h => exact .halt h
  | shape _ ih => exact .shape ih
  | getObj _ ih => exact .getObj ih
  | program _ ih => exact .program ih
theorem Rd.bind {r : Nat} {s : Sem α} {f : α → Sem β} (h : Rd P r s) (hf : ∀ a, Rd P r (f a)) : Rd P r (s >>= f) := Rd.bind' h hf
theorem Rd.ifs {r : Nat} {c : Prop} [Decidable c] {s t : Sem α} (h1 : Rd P r s) (h2 : Rd P r t) : Rd P r (if c then s else t) := by
  split
  · exact h1
  · exact h2

theorem Rd.same {r : Nat} {s : Sem α} (h : Rd P r s) {K D : Nat → Prop} {x y : World} (hs : Twin P K D x y) (hd : ¬ D r) :
    (∀ a x', s.run P x = .ok a x' → Owes P K D s x y a x') ∧ ∀ hh x', s.run P x = .halt hh x' → HaltOk hh := by
  induction h using Rd.ind with
  | pure a => exact ⟨fun _ _ hr => (Sm.pure a).ok hs hr, fun _ _ hr => by cases hr⟩
  | halt hh => exact ⟨fun _ _ hr => (by cases hr), fun _ _ hr => (Sm.halts hh).halt hs hr⟩
  | @shape k _ ih =>
    have e : y.shape? r = x.shape? r := by simp only [World.shape?, hs.live _ hd]
    exact ⟨fun a x' hr => ((ih _).1 a x' hr).step #[] (fun es => by simp [-Sem.runT_eq, Sem.runT, e]) (by simp) (Nat.le_refl _) fun _ _ => rfl, fun hh x' hr => (ih _).2 hh x' hr⟩
  | @getObj k _ ih =>
    have hy : y.heap[r]? = x.heap[r]? := (hs.live _ hd).symm
    refine ⟨fun a x' hr => ?_, fun hh x' hr => ?_⟩
    · simp only [Sem.run] at hr
      cases ho : x.heap[r]? with
      | none => rw [ho] at hr; cases hr
      | some o =>
        rw [ho] at hr hy
        have key : (k o).run P x = .ok a x' → (∀ es, (Sem.getObj r k).runT P y es = (k o).runT P y (es ++ #[⟨.obj r, false, o.isChan⟩])) → Owes P K D (.getObj r k) x y a x' := fun hr he => ((ih o).1 a x' hr).step _ he (EvN.one ⟨⟨fun hk => hd (hs.sub _ hk), (Array.getElem?_eq_some_iff.1 hy).1⟩, fun h => (by cases h)⟩) (Nat.le_refl _) fun _ _ => rfl
        cases o <;> first | (cases hr; done) | exact key hr (fun es => by simp [-Sem.runT_eq, Sem.runT, hy])
    · simp only [Sem.run] at hr
      cases ho : x.heap[r]? with
      | none => rw [ho] at hr; simp only [Result.halt.injEq] at hr; rw [← hr.1]; trivial
      | some o =>
        rw [ho] at hr
        cases o <;> first | exact (ih _).2 hh x' hr | (simp only [Result.halt.injEq] at hr; rw [← hr.1]; trivial)
  | @program k _ ih => exact ⟨fun a x' hr => (ih.1 a x' hr).step #[] (fun es => by simp [-Sem.runT_eq, Sem.runT]) (by simp) (Nat.le_refl _) fun _ _ => rfl, fun hh x' hr => ih.2 hh x' hr⟩

theorem Rd.tapes {r : Nat} {s : Sem α} (h : Rd P r s) : Tapes P s := by
  induction h using Rd.ind with
  | pure a => exact Tapes.pure a
  | halt hh => exact Tapes.halt _
  | shape _ ih => exact Tapes.shape ih
  | getObj _ ih => exact Tapes.getObj ih
  | program _ ih => exact Tapes.program ih

theorem rd_byteOf (a : Addr) : Rd P a.block (byteOf a) := by
  unfold byteOf
  split
  · exact .pure _
  · refine .program ?_
    simp only [Sem.bind]
    refine Rd.bind ?_ fun _ => ?_
    · unfold noView viewAt
      refine Rd.bind ?_ fun o => Rd.ifs (.halt trivial) (.pure _)
      refine .shape fun s => ?_
      show Rd P a.block (if _ then _ else _)
      refine Rd.ifs (.pure _) (.getObj fun o => ?_)
      cases o <;> exact .pure _
    · refine .shape fun s => ?_
      cases s with
      | none => exact .halt trivial
      | some s =>
        obtain ⟨e, c⟩ := s
        show Rd P a.block (if _ then _ else _)
        refine Rd.ifs (.pure _) ?_
        split
        · exact .pure _
        · exact .halt trivial

theorem sm_addrMod (k : IntKind) (a : Addr) (n : Int) : Sm P (Op.addrMod k a n) := by
  have rd : Rd P a.block (Op.addrMod k a n) := by
    unfold Op.addrMod
    refine .shape fun s => ?_
    cases s with
    | none => exact .halt trivial
    | some s =>
      obtain ⟨e, c⟩ := s
      refine .program ?_
      show Rd P a.block ((match P.info? e with | some i => pure i | none => stuck "no such type" : Sem TypeInfo).bind _)
      refine Rd.bind' ?_ fun i => ?_
      · split
        · exact .pure _
        · exact .halt trivial
      · refine Rd.ifs (.halt trivial) ?_
        exact Rd.bind (rd_byteOf a) fun _ => .pure _
  have dead : ∀ {K D x y}, Twin P K D x y → D a.block → (Op.addrMod k a n).run P x = .halt (.stuck "no such type") x := by
    intro K D x y hs hd
    have e : x.shape? a.block = some (badT, 0) := by simp [World.shape?, hs.dead _ hd]
    show (Sem.shape a.block _).run P x = _
    simp only [Sem.run, Sem.bind, e]
    show (Sem.program _).run P x = _
    simp only [Sem.run, Sem.bind, hs.bad]
    rfl
  refine ⟨fun {K D x y v x'} hs hr => ?_, fun {K D x y hh x'} hs hr => ?_, rd.tapes⟩
  · by_cases hd : D a.block
    · rw [dead hs hd] at hr; cases hr
    · exact (rd.same hs hd).1 _ _ hr
  · by_cases hd : D a.block
    · rw [dead hs hd] at hr
      simp only [Result.halt.injEq] at hr
      rw [← hr.1]; trivial
    · exact (rd.same hs hd).2 _ _ hr

theorem sm_binOp (op : BinOp) (t : TypeId) (x y : Value) : Sm P (binOp op t x y) := by
  unfold binOp
  split
  · exact sm_shift _ _ _ _ _
  · exact sm_shift _ _ _ _ _
  · refine sm_if (sm_stuck _) ?_
    split <;> first | exact sm_intArith _ _ _ _ | exact sm_intDiv _ _ _ _ | exact sm_intBits _ _ _ _ | exact sm_intCmp _ _ _
  · refine sm_if (sm_stuck _) ?_
    split <;> first | exact sm_floatArith _ _ _ _ | exact sm_floatCmp _ _ _ _
  · exact sm_if (sm_stuck _) (sm_complexOp _ _ _ _ _ _)
  · exact sm_stringOp _ _ _
  · exact Sm.bind (sm_equal _ _ _) fun _ => sm_pure _
  · exact Sm.bind (sm_equal _ _ _) fun _ => sm_pure _
  · refine Sm.bind (sm_underlying _) fun d => ?_
    split
    · exact sm_movedPointer _ _ _
    · exact sm_movedNumber _ _ _
  · exact sm_movedNumber _ _ _
  · exact sm_movedNumber _ _ _
  · exact Sm.bind (sm_behind _) fun _ => Sm.bind (sm_behind _) fun _ => sm_addrSub _ _ _
  · exact Sm.bind (sm_behind _) fun _ => Sm.bind (sm_behind _) fun _ => sm_addrCmp _ _ _
  · exact Sm.bind (sm_behind _) fun _ => Sm.bind (sm_behind _) fun _ => sm_addrCmp _ _ _
  · exact Sm.bind (sm_behind _) fun _ => Sm.bind (sm_behind _) fun _ => sm_addrCmp _ _ _
  · exact Sm.bind (sm_behind _) fun _ => Sm.bind (sm_behind _) fun _ => sm_addrCmp _ _ _
  · exact Sm.bind (sm_behind _) fun _ => sm_addrMod _ _ _
  · exact Sm.bind (sm_behind _) fun _ => sm_addrMod _ _ _
  · exact Sm.bind (sm_behind _) fun _ => sm_addrMod _ _ _
  · exact sm_unsup (by simp)
  · exact sm_unsup (by simp)
  · exact sm_stuck _

theorem sm_followBlind : ∀ (l : List FieldStep) (t : TypeId) (x : Option Value), Sm P (followBlind l t x)
  | [], _, _ => sm_pure _
  | s :: rest, _, x => by
    unfold followBlind
    refine Sm.bind (sm_underlying _) fun d => ?_
    split
    · split
      · split
        · exact sm_pure _
        · exact sm_followBlind rest _ _
        · exact sm_stuck _
        · exact sm_pure _
        · exact Sm.bind (sm_part _ _ _) fun _ => sm_followBlind rest _ _
        · exact sm_stuck _
        · exact sm_followBlind rest _ _
      · exact sm_stuck _
    · exact sm_stuck _

theorem sm_nilAhead : ∀ (n : Nat) (t : TypeId) (v : Value) (s : String), Sm P (nilAhead n t v s) := by
  intro n
  induction n with
  | zero => intro t v s; exact sm_pure _
  | succ n ih =>
    intro t v s
    unfold nilAhead
    refine Sm.bind (sm_typeInfo _) fun i => ?_
    split
    · refine Sm.bind (sm_followBlind _ _ _) fun r => ?_
      split
      · exact sm_pure _
      · split
        · exact ih _ _ _
        · exact sm_pure _
        · exact sm_stuck _
        · exact sm_pure _
        · exact sm_pure _
        · refine Sm.bind (sm_underlying _) fun d => ?_
          split <;> exact sm_pure _
    · exact sm_stuck _

/-! ### the operation as a whole -/
/-- The makes of operation that are used; F: the functions that may be entered. -/
def OpOk2 (P : Program) (F : FuncId → Prop) : Op → Prop
  | .move _ | .assign _ | .nilCheck _ | .unOp _ _ _ | .extract _ _ | .box _ _ | .load _ _ | .pick _ _ _ | .alloc _ | .build _ _ | .buildSlice _ _ _ | .store _ _ _ | .binOp _ _ _ _ _ | .slice _ _ _ _ _ | .indexAddr _ _ _ | .lookup _ _ _ _ | .mapUpdate _ _ _ _ | .makeSlice _ _ _ | .makeMap _ _ => True
  | .fieldAddr s _ n => FieldOk P s n
  | .call { callee := .value (.func f), args := _, argTypes := _ } => F f ∧ ∃ fn, P.funcs[f]? = some fn ∧ (fn.name == "runtime.NumGoroutine") = false ∧ fn.body.isNone = false
  | .call { callee := .builtin .len, args := _, argTypes := _ } | .call { callee := .builtin .clear, args := _, argTypes := _ } | .call { callee := .builtin .append, args := _, argTypes := _ } => True
  | _ => False

/-- What an operation yields: a value, nothing, or a function to enter. -/
def NextOk (F : FuncId → Prop) : Next → Prop
  | .value _ | .skip => True
  | .enter f _ => F f
  | _ => False

/-- It does the same in both, and yields what may be. -/
structure SmN (P : Program) (F : FuncId → Prop) (s : Sem Next) : Prop where
  sm : Sm P s
  next : ∀ {w n w'}, s.run P w = .ok n w' → NextOk F n

theorem SmN.value {F : FuncId → Prop} {s : Sem Value} (h : Sm P s) : SmN P F (do pure (.value (← s))) := by
  refine ⟨Sm.bind h fun _ => sm_pure _, fun {w n w'} hr => ?_⟩
  rw [Sem.run_bind] at hr
  cases h1 : s.run P w with
  | ok a w1 => rw [h1] at hr; cases hr; trivial
  | halt a w1 => rw [h1] at hr; cases hr
theorem SmN.unit {F : FuncId → Prop} {s : Sem Unit} (h : Sm P s) : SmN P F (do s; pure .skip) := by
  refine ⟨Sm.bind h fun _ => sm_pure _, fun {w n w'} hr => ?_⟩
  rw [Sem.run_bind] at hr
  cases h1 : s.run P w with
  | ok a w1 => rw [h1] at hr; cases hr; trivial
  | halt a w1 => rw [h1] at hr; cases hr

theorem SmN.bind {F : FuncId → Prop} {s : Sem α} {f : α → Sem Next} (h : Sm P s) (hf : ∀ a, SmN P F (f a)) : SmN P F (s >>= f) := by
  refine ⟨Sm.bind h fun a => (hf a).sm, fun {w n w'} hr => ?_⟩
  rw [Sem.run_bind] at hr
  cases h1 : s.run P w with
  | ok a w1 => rw [h1] at hr; exact (hf a).next hr
  | halt a w1 => rw [h1] at hr; cases hr
theorem SmN.nilDeref {F : FuncId → Prop} : SmN P F (runtimePanic .nilDeref) := ⟨sm_rtPanic (by simp) (by simp), fun {w n w'} hr => by cases hr⟩
theorem SmN.ifs {F : FuncId → Prop} {c : Prop} [Decidable c] {s t : Sem Next} (h1 : SmN P F s) (h2 : SmN P F t) : SmN P F (if c then s else t) := by
  split
  · exact h1
  · exact h2

theorem smN_execOp {F : FuncId → Prop} {ev : Operand → Value} (hfn : ∀ f, ev (.func f) = .func (.func f) #[] #[]) {o : Oper} (ho : OpOk2 P F o.op) : SmN P F (execOp ev o) := by
  have pv : ∀ v : Value, SmN P F (pure (.value v)) := fun v => ⟨sm_pure _, fun {w n w'} hr => by cases hr; trivial⟩
  unfold execOp
  cases hop : o.op with
  | move x => exact pv _
  | assign x => exact pv _
  | pick c a b => exact SmN.bind (sm_asBool _) fun _ => pv _
  | alloc t => exact SmN.value (Sm.bind (sm_zeroValue _) fun _ => Sm.bind (sm_newVar _ _) fun _ => sm_pure _)
  | box t x => exact SmN.value (Sm.bind (sm_newVar _ _) fun _ => sm_pure _)
  | build t ps => exact SmN.value (sm_build _ _)
  | buildSlice t n ps => exact SmN.value (sm_buildSlice _ _ _)
  | load t x => exact SmN.value (Sm.bind (sm_sureAddr _) fun _ => sm_loadVar _ _)
  | store t a v => exact SmN.unit (Sm.bind (sm_sureAddr _) fun _ => sm_storeVar _ _ _)
  | nilCheck x =>
    dsimp only
    split
    · exact SmN.nilDeref
    · exact SmN.nilDeref
    · exact SmN.nilDeref
    · split
      · exact SmN.nilDeref
      · refine SmN.bind sm_prog fun p => SmN.bind (sm_nilAhead _ _ _ _) fun r => ?_
        exact SmN.ifs (SmN.bind (sm_unsup (by simp)) fun _ => pv _) (pv _)
      · exact pv _
    · exact pv _
  | binOp op t x y ty => exact SmN.value (Sm.bind (sm_eqGuard _ _ _ _ _ _) fun _ => sm_binOp _ _ _ _)
  | unOp op t x => exact SmN.value (sm_unary _ _)
  | slice t x a b c => exact SmN.value (sm_sliceAt _ _ _ _ _)
  | fieldAddr s x n => rw [hop] at ho; exact SmN.value (sm_fieldAt ho _)
  | indexAddr t x i => exact SmN.value (sm_indexAt _ _ _)
  | lookup t x i ok => exact SmN.value (sm_lookup _ _ _ _)
  | mapUpdate t m k v => exact SmN.unit (sm_mapUpdate _ _ _ _)
  | makeSlice t l c => exact SmN.value (sm_makeSlice _ _ _)
  | makeMap t r => exact SmN.value (sm_makeMap _ _)
  | extract x n => exact SmN.value (sm_extract _ _)
  | call c =>
    rw [hop] at ho
    obtain ⟨callee, args, ts⟩ := c
    cases callee with
    | invoke a b => exact ho.elim
    | value f =>
      cases f with
      | func f =>
        obtain ⟨hF, fn, h1, h2, h3⟩ := ho
        have e : ∀ w, (do let d ← resolve ev ⟨.value (.func f), args, ts⟩ o.type; invoke d.target d.args : Sem Next).run P w = .ok (.enter f (args.map ev)) w := by
          intro w
          unfold resolve
          dsimp only
          rw [hfn f]
          show (Sem.program _).run P w = _
          simp [Sem.run, Sem.bind, h1, h2, h3, pure]
        have e2 : ∀ w es, (do let d ← resolve ev ⟨.value (.func f), args, ts⟩ o.type; invoke d.target d.args : Sem Next).runT P w es = (.ok (.enter f (args.map ev)) w, es) := by
          intro w es
          unfold resolve
          dsimp only
          rw [hfn f]
          show (Sem.program _).runT P w es = _
          simp [-Sem.runT_eq, Sem.runT, Sem.bind, h1, h2, h3, pure]
        refine ⟨sm_atom (fun {K D x y} hs => ⟨_, #[], e x, fun es => by rw [e2]; simp, by simp⟩) (fun w => ⟨0, .inl ⟨_, w, fun T' d' _ => e (tp w T' d')⟩⟩), fun {w n w'} hr => ?_⟩
        have hr' := hr
        rw [e w] at hr'
        cases hr'
        exact hF
      | tmp t => exact ho.elim
      | const v => exact ho.elim
      | global g => exact ho.elim
    | builtin b =>
      cases b with
      | len => exact SmN.value (sm_len _ _ _)
      | clear => exact SmN.value (sm_clear _ _ _)
      | append => exact SmN.value (sm_append _ _ _)
      | _ => exact ho.elim
  | _ => rw [hop] at ho; exact ho.elim

end
end Go.Proofs.Ytgpplekabohneaa.Co

namespace Go.Proofs.Ytgpplekabohneaa.Co
open Go Go.Conc

/-! ### plain code -/
section
variable (P : Program) (F : FuncId → Prop)

def CodeOk2 : Code → Prop
  | .skip | .exit _ | .goto _ | .label _ | .ret => True
  | .region _ ops _ => ∀ o ∈ ops, OpOk2 P F o.op
  | .seq a b => CodeOk2 a ∧ CodeOk2 b
  | .cond _ a b => True ∧ CodeOk2 a ∧ CodeOk2 b
  | .block _ c | .loop c | .scope c => CodeOk2 c
  | _ => False

def ItemOk2 : Item → Prop
  | .code c | .inLoop c | .inScope c => CodeOk2 P F c
  | .inBlock _ => True
  | .inRegion ops l => ∀ j ∈ l, ∀ o, ops[j]? = some o → OpOk2 P F o.op
  | _ => False

def FuncOk2 (f : FuncId) : Prop := ∃ fn c, P.funcs[f]? = some fn ∧ fn.body = some c ∧ CodeOk2 P F c

/-- A frame that keeps to plain code. -/
structure Plain2 (fr : Frame) : Prop where
  md : fr.mode = .run ∨ fr.mode = .returning
  kind : fr.kind = .normal
  defers : fr.defers = []
  round : fr.roundOf = none
  ok : ∀ x ∈ fr.todo, ItemOk2 P F x
  fok : ∃ fn, P.funcs[fr.fn]? = some fn
end

section
variable {P : Program} {F : FuncId → Prop}

theorem exitTo_ok2 {id : Nat} : ∀ {k k' : List Item}, exitTo id k = some k' → (∀ x ∈ k, ItemOk2 P F x) → ∀ x ∈ k', ItemOk2 P F x
  | [], _, h, _ => by simp [exitTo] at h
  | i :: k, k', h, hk => by
    have hk' : ∀ x ∈ k, ItemOk2 P F x := fun x hx => hk x (by simp [hx])
    cases i with
    | inBlock j =>
      simp only [exitTo] at h
      split at h
      · cases h; exact hk'
      · exact exitTo_ok2 h hk'
    | _ => exact exitTo_ok2 (by simpa only [exitTo] using h) hk'

theorem findLabel_ok2 {l : Nat} : ∀ {c rest : Code}, findLabel c l = some rest → CodeOk2 P F c → CodeOk2 P F rest
  | .seq a b, rest, h, hc => by
    simp only [findLabel] at h
    split at h
    · rename_i r hr
      cases h
      exact ⟨findLabel_ok2 hr hc.1, hc.2⟩
    · exact findLabel_ok2 h hc.2
  | .label l', rest, h, _ => by
    simp only [findLabel] at h
    split at h
    · cases h; trivial
    · cases h
  | .skip, _, h, _ | .region .., _, h, _ | .cond .., _, h, _ | .block .., _, h, _ | .loop .., _, h, _ | .rangeFunc .., _, h, _ | .exit .., _, h, _ | .scope .., _, h, _ | .goto .., _, h, _ | .ret, _, h, _ | .refuse .., _, h, _ => by simp [findLabel] at h

theorem gotoIn_ok2 {l : Nat} : ∀ {k k' : List Item}, gotoIn l k = some k' → (∀ x ∈ k, ItemOk2 P F x) → ∀ x ∈ k', ItemOk2 P F x
  | [], _, h, _ => by simp [gotoIn] at h
  | i :: k, k', h, hk => by
    have hk' : ∀ x ∈ k, ItemOk2 P F x := fun x hx => hk x (by simp [hx])
    cases i with
    | inScope body =>
      simp only [gotoIn] at h
      split at h
      · rename_i rest hr
        cases h
        intro x hx
        simp only [List.mem_cons] at hx
        rcases hx with rfl | rfl | hx
        · exact findLabel_ok2 hr (hk (.inScope body) (by simp))
        · exact hk _ (by simp)
        · exact hk' x hx
      · exact gotoIn_ok2 h hk'
    | _ => exact gotoIn_ok2 (by simpa only [gotoIn] using h) hk'

/-! ### the goroutine's own step is that program -/

/-- A frame of the common kind: not in a loop over a function, nothing deferred, not panicking. -/
structure Com (fr : Frame) : Prop where
  md : fr.mode = .run ∨ fr.mode = .returning
  kind : fr.kind = .normal
  defers : fr.defers = []
  round : fr.roundOf = none

theorem Plain2.com {fr : Frame} (h : Plain2 P F fr) : Com fr := ⟨h.md, h.kind, h.defers, h.round⟩

theorem stepG_act3 {fr : Frame} {cs : List Frame} {w w' : World} {main : Bool} {out : Out} {fr' : Frame} {cs' : List Frame} (hp : Com fr) (h : (act P fr).run P w = .ok out w') (hpl : place P fr cs out = some (fr', cs')) :
    stepG P main (G fr cs) w = .go (G fr' cs') w' (seen P fr.fn ((act P fr).events P w #[])) := by
  obtain ⟨fn, tmps, todo, defers, mode, kind, round⟩ := fr
  obtain ⟨hm, hk, hd, hr⟩ := hp
  dsimp only at hm hk hd hr
  subst hk hd hr
  have pure1 : ∀ {f1 : Frame} {w : World}, (pure (Out.go f1) : Sem Out).run P w = .ok out w' → w' = w ∧ fr' = f1 ∧ cs' = cs := by
    intro f1 w h
    simp only [pure, Sem.run, Result.ok.injEq] at h
    obtain ⟨rfl, rfl⟩ := h
    simp only [place, Option.some.injEq, Prod.mk.injEq] at hpl
    exact ⟨rfl, hpl.1.symm, hpl.2.symm⟩
  rcases hm with rfl | rfl
  · unfold act at h ⊢
    dsimp only at h ⊢
    cases todo with
    | nil =>
      simp only [actI] at h ⊢
      obtain ⟨rfl, rfl, rfl⟩ := pure1 h
      simp [G, stepG, stepG.exec, seen_none]
    | cons i k =>
      cases i with
      | code c =>
        simp only [actI] at h ⊢
        cases c with
        | ret => simp only [actC] at h ⊢; obtain ⟨rfl, rfl, rfl⟩ := pure1 h; simp [G, stepG, stepG.exec, seen_none]
        | skip => simp only [actC] at h ⊢; obtain ⟨rfl, rfl, rfl⟩ := pure1 h; simp [G, stepG, stepG.exec, seen_none]
        | label l => simp only [actC] at h ⊢; obtain ⟨rfl, rfl, rfl⟩ := pure1 h; simp [G, stepG, stepG.exec, seen_none]
        | seq a b => simp only [actC] at h ⊢; obtain ⟨rfl, rfl, rfl⟩ := pure1 h; simp [G, stepG, stepG.exec, seen_none]
        | block id b => simp only [actC] at h ⊢; obtain ⟨rfl, rfl, rfl⟩ := pure1 h; simp [G, stepG, stepG.exec, seen_none]
        | loop b => simp only [actC] at h ⊢; obtain ⟨rfl, rfl, rfl⟩ := pure1 h; simp [G, stepG, stepG.exec, seen_none]
        | scope b => simp only [actC] at h ⊢; obtain ⟨rfl, rfl, rfl⟩ := pure1 h; simp [G, stepG, stepG.exec, seen_none]
        | cond c a b =>
          simp only [actC] at h ⊢
          cases he : Frame.eval { fn := fn, tmps := tmps, todo := .code (.cond c a b) :: k, defers := [], mode := .run, kind := .normal, roundOf := none } c <;> simp only [he] at h ⊢ <;> first | (cases h; done) | skip
          obtain ⟨rfl, rfl, rfl⟩ := pure1 h
          simp [G, stepG, stepG.exec, seen_none, he]
        | exit id =>
          simp only [actC] at h ⊢
          cases he : exitTo id k <;> simp only [he] at h ⊢ <;> first | (cases h; done) | skip
          obtain ⟨rfl, rfl, rfl⟩ := pure1 h
          simp [G, stepG, stepG.exec, seen_none, he]
        | goto l =>
          simp only [actC] at h ⊢
          cases he : gotoIn l k <;> simp only [he] at h ⊢ <;> first | (cases h; done) | skip
          obtain ⟨rfl, rfl, rfl⟩ := pure1 h
          simp [G, stepG, stepG.exec, seen_none, he]
        | region id ops draw =>
          simp only [actC] at h ⊢
          cases draw with
          | false =>
            simp only [Bool.false_eq_true, if_false] at h ⊢
            obtain ⟨rfl, rfl, rfl⟩ := pure1 h
            simp [G, stepG, stepG.exec, seen_none]
          | true =>
            simp only [if_true, Sem.run, Question.forced, Bool.false_eq_true, if_false, Question.cut] at h ⊢
            obtain ⟨rfl, rfl, rfl⟩ := pure1 h
            rw [events_order]
            simp [G, stepG, stepG.exec, choose, Sem.run, Question.forced, Question.cut, seen_none]
        | rangeFunc f p a b => simp only [actC] at h; cases h
        | refuse s => simp only [actC] at h; cases h
      | inBlock id => simp only [actI] at h ⊢; obtain ⟨rfl, rfl, rfl⟩ := pure1 h; simp [G, stepG, stepG.exec, seen_none]
      | inScope c => simp only [actI] at h ⊢; obtain ⟨rfl, rfl, rfl⟩ := pure1 h; simp [G, stepG, stepG.exec, seen_none]
      | inLoop c => simp only [actI] at h ⊢; obtain ⟨rfl, rfl, rfl⟩ := pure1 h; simp [G, stepG, stepG.exec, seen_none]
      | inRegion ops l =>
        cases l with
        | nil => simp only [actI] at h ⊢; obtain ⟨rfl, rfl, rfl⟩ := pure1 h; simp [G, stepG, stepG.exec, seen_none]
        | cons j rest =>
          simp only [actI] at h ⊢
          cases ho : ops[j]? with
          | none =>
            simp only [ho] at h ⊢
            obtain ⟨rfl, rfl, rfl⟩ := pure1 h
            simp [G, stepG, stepG.exec, seen_none, ho]
          | some o =>
            simp only [ho] at h ⊢
            cases hw : Region.wanted o (yielded ops tmps) with
            | false =>
              simp only [hw, Bool.false_eq_true, if_false] at h ⊢
              obtain ⟨rfl, rfl, rfl⟩ := pure1 h
              simp [G, stepG, stepG.exec, seen_none, ho, hw]
            | true =>
              simp only [hw, if_true] at h ⊢
              cases he : (execOp (Frame.eval { fn := fn, tmps := tmps, todo := .inRegion ops (j :: rest) :: k, defers := [], mode := .run, kind := .normal, roundOf := none }) o).run P w with
              | halt x w1 =>
                rw [Sem.run_bind, he] at h
                cases h
              | ok n w1 =>
                rw [Sem.run_bind, he] at h
                simp only [Result.andThen] at h
                rw [Sem.events_bind, he]
                cases n with
                | value v =>
                  simp only [outOf] at h ⊢
                  obtain ⟨rfl, rfl, rfl⟩ := pure1 h
                  simp [G, stepG, stepG.exec, stepG.oper, stepG.apply, Frame.oper?, ho, hw, he, GStep.after]
                | skip =>
                  simp only [outOf] at h ⊢
                  obtain ⟨rfl, rfl, rfl⟩ := pure1 h
                  simp [G, stepG, stepG.exec, stepG.oper, stepG.apply, Frame.oper?, ho, hw, he, GStep.after]
                | enter f c =>
                  simp only [outOf, pure, Sem.run, Result.ok.injEq] at h ⊢
                  obtain ⟨rfl, rfl⟩ := h
                  simp only [place, Option.some.injEq, Prod.mk.injEq] at hpl
                  obtain ⟨rfl, rfl⟩ := hpl
                  simp [G, stepG, stepG.exec, stepG.oper, stepG.apply, Frame.oper?, ho, hw, he, GStep.after]
                | _ => cases h
      | _ => simp only [actI] at h; cases h
  · unfold act at h ⊢
    dsimp only at h ⊢
    cases hf : P.funcs[fn]? with
    | none => simp only [hf] at h; cases h
    | some f =>
      simp only [hf] at h ⊢
      cases he : (results f tmps).run P w with
      | halt x w1 => rw [Sem.run_bind, he] at h; cases h
      | ok v w1 =>
        rw [Sem.run_bind, he] at h
        simp only [Result.andThen, pure, Sem.run, Result.ok.injEq] at h
        obtain ⟨rfl, rfl⟩ := h
        rw [Sem.events_bind, he]
        cases cs with
        | nil => simp [place] at hpl
        | cons c r =>
          simp only [place, Option.some.injEq, Prod.mk.injEq] at hpl
          obtain ⟨rfl, rfl⟩ := hpl
          simp [G, stepG, unwind, doReturn, hf, he, GStep.after, pure]

theorem stepG_act2 {fr : Frame} {cs : List Frame} {w w' : World} {main : Bool} {out : Out} {fr' : Frame} {cs' : List Frame} (hp : Plain2 P F fr) (h : (act P fr).run P w = .ok out w') (hpl : place P fr cs out = some (fr', cs')) :
    stepG P main (G fr cs) w = .go (G fr' cs') w' (seen P fr.fn ((act P fr).events P w #[])) := stepG_act3 hp.com h hpl

/-- Where that program halts the goroutine panics, or the run ends. -/
theorem stepG_act_halt2 {fr : Frame} {cs : List Frame} {w w' : World} {main : Bool} {x : Halt} (hp : Plain2 P F fr) (hF : ∃ fn, P.funcs[fr.fn]? = some fn) (hN : ∀ o n w1, OpOk2 P F o.op → (execOp fr.eval o).run P w = .ok n w1 → (∃ v, n = .value v) ∨ n = .skip ∨ ∃ f c, n = .enter f c)
    (h : (act P fr).run P w = .halt x w') (hx : HaltOk x) :
    (∃ chain w1, (stepG P main (G fr cs) w).bare = .go (G (fr.raise chain) cs) w1) ∨ ∃ o w1, (stepG P main (G fr cs) w).bare = .ended o w1 := by
  obtain ⟨fn, tmps, todo, defers, mode, kind, round⟩ := fr
  obtain ⟨hm, hk, hd, hr, hok, -⟩ := hp
  dsimp only at hm hk hd hr hok
  subst hk hd hr
  rcases hm with rfl | rfl
  · unfold act at h
    dsimp only at h
    cases todo with
    | nil => cases h
    | cons i k =>
      cases i with
      | code c =>
        simp only [actI] at h
        cases c with
        | cond c a b =>
          simp only [actC] at h
          cases he : Frame.eval { fn := fn, tmps := tmps, todo := .code (.cond c a b) :: k, defers := [], mode := .run, kind := .normal, roundOf := none } c <;> simp only [he] at h <;> first | (cases h; done) | skip
          all_goals exact .inr ⟨_, _, by simp [G, stepG, stepG.exec, he]; exact ⟨rfl, rfl⟩⟩
        | exit id =>
          simp only [actC] at h
          cases he : exitTo id k <;> simp only [he] at h <;> first | (cases h; done) | skip
          exact .inr ⟨_, _, by simp [G, stepG, stepG.exec, he]; exact ⟨rfl, rfl⟩⟩
        | goto l =>
          simp only [actC] at h
          cases he : gotoIn l k <;> simp only [he] at h <;> first | (cases h; done) | skip
          exact .inr ⟨_, _, by simp [G, stepG, stepG.exec, he]; exact ⟨rfl, rfl⟩⟩
        | region id ops draw =>
          simp only [actC] at h
          cases draw with
          | false => cases h
          | true => simp [Sem.run, Question.forced, pure] at h
        | rangeFunc f p a b => exact False.elim (hok _ (List.mem_cons_self ..))
        | refuse s => exact False.elim (hok _ (List.mem_cons_self ..))
        | _ => cases h
      | inBlock id => cases h
      | inScope c => cases h
      | inLoop c => cases h
      | inRegion ops l =>
        cases l with
        | nil => cases h
        | cons j rest =>
          simp only [actI] at h
          cases ho : ops[j]? with
          | none => simp only [ho] at h; cases h
          | some o =>
            simp only [ho] at h
            cases hw : Region.wanted o (yielded ops tmps) with
            | false => simp only [hw] at h; cases h
            | true =>
              simp only [hw, if_true] at h
              cases he : (execOp (Frame.eval { fn := fn, tmps := tmps, todo := .inRegion ops (j :: rest) :: k, defers := [], mode := .run, kind := .normal, roundOf := none }) o).run P w with
              | halt y w1 =>
                rw [Sem.run_bind, he] at h
                simp only [Result.andThen, Result.halt.injEq] at h
                obtain ⟨rfl, rfl⟩ := h
                cases y with
                | panic v => exact .inl ⟨_, _, by simp [G, stepG, stepG.exec, stepG.oper, stepG.apply, Frame.oper?, ho, hw, he]; exact ⟨rfl, rfl⟩⟩
                | stuck s => exact .inr ⟨_, _, by simp [G, stepG, stepG.exec, stepG.oper, stepG.apply, Frame.oper?, ho, hw, he]; exact ⟨rfl, rfl⟩⟩
                | unsupported u =>
                  cases u with
                  | initOrder g => exact hx.elim
                  | _ => exact .inr ⟨_, _, by simp [G, stepG, stepG.exec, stepG.oper, stepG.apply, Frame.oper?, ho, hw, he]; exact ⟨rfl, rfl⟩⟩
                | _ => exact hx.elim
              | ok n w1 =>
                rw [Sem.run_bind, he] at h
                simp only [Result.andThen] at h
                rcases hN o n w1 (hok _ (List.mem_cons_self ..) j (List.mem_cons_self ..) o ho) he with ⟨v, rfl⟩ | rfl | ⟨f, c, rfl⟩ <;> cases h
      | _ => exact False.elim (hok _ (List.mem_cons_self ..))
  · unfold act at h
    dsimp only at h
    cases hf : P.funcs[fn]? with
    | none => obtain ⟨f, hF⟩ := hF; rw [hf] at hF; cases hF
    | some f =>
      simp only [hf] at h
      cases he : (results f tmps).run P w with
      | ok v w1 => rw [Sem.run_bind, he] at h; cases h
      | halt y w1 =>
        cases y <;> exact .inr ⟨_, _, by simp [G, stepG, unwind, hf, he]; exact ⟨rfl, rfl⟩⟩


/-! ### the step in both worlds -/
theorem Plain2.to {a : Frame} (h : Plain2 P F a) {k : List Item} (hk : ∀ x ∈ k, ItemOk2 P F x) : Plain2 P F { a with todo := k } := ⟨h.md, h.kind, h.defers, h.round, hk, h.fok⟩
theorem Plain2.back {a : Frame} (h : Plain2 P F a) : Plain2 P F { a with mode := .returning } := ⟨.inr rfl, h.kind, h.defers, h.round, h.ok, h.fok⟩
theorem Plain2.finish {a : Frame} (h : Plain2 P F a) (v : Value) : Plain2 P F (a.finish v) := by
  obtain ⟨fn, tmps, todo, defers, mode, kind, round⟩ := a
  have hok := h.ok
  dsimp only at hok
  cases todo with
  | nil => exact h
  | cons i k =>
    have hk : ∀ x ∈ k, ItemOk2 P F x := fun x hx => hok x (by simp [hx])
    cases i with
    | inRegion ops l =>
      cases l with
      | nil => exact h
      | cons j rest =>
        refine ⟨h.md, h.kind, h.defers, h.round, fun x hx => ?_, h.fok⟩
        rcases List.mem_cons.1 hx with rfl | hx
        · exact fun i hi => hok (.inRegion ops (j :: rest)) (List.mem_cons_self ..) i (List.mem_cons_of_mem _ hi)
        · exact hk x hx
    | code c => exact h
    | inBlock id => exact h
    | inLoop c => exact h
    | inScope c => exact h
    | _ => exact False.elim (hok _ (List.mem_cons_self ..))
theorem Plain2.enter (hF : ∀ f, F f → FuncOk2 P F f) {f : FuncId} (hf : F f) (c : Array Value) : Plain2 P F (Frame.enter P f c .normal) := by
  obtain ⟨fn, b, h1, h2, h3⟩ := hF f hf
  have e : Frame.enter P f c .normal = { fn := f, tmps := c ++ Array.replicate (fn.ntmps - c.size) undef, todo := [.code b], defers := [], mode := .run, kind := .normal } := by
    simp [Frame.enter, h1, h2]
  rw [e]
  refine ⟨.inl rfl, rfl, rfl, rfl, fun x hx => ?_, fn, h1⟩
  simp only [List.mem_singleton] at hx
  subst hx
  exact h3

def OutOk (P : Program) (F : FuncId → Prop) : Out → Prop
  | .inl fr => Plain2 P F fr
  | .inr (.inl (f, _)) => F f
  | .inr (.inr _) => True

structure SmO (P : Program) (F : FuncId → Prop) (s : Sem Out) : Prop where
  sm : Sm P s
  out : ∀ {w o w'}, s.run P w = .ok o w' → OutOk P F o

theorem SmO.pure {o : Out} (h : OutOk P F o) : SmO P F (pure o) := ⟨sm_pure _, fun {w n w'} hr => by cases hr; exact h⟩
theorem SmO.halt : SmO P F (.halt (.stuck "")) := ⟨Sm.halts trivial, fun {w n w'} hr => by cases hr⟩

theorem sm_results (fn : Func) (c : Array Value) : Sm P (results fn c) := by
  unfold results
  refine Sm.bind (sm_mapM _ fun v => ?_) fun _ => sm_pure _
  cases v with
  | tmp t => exact sm_pure _
  | cell a t => exact Sm.bind (sm_asAddr _) fun _ => sm_loadVar _ _

theorem smO_act {a : Frame} (h : Plain2 P F a) : SmO P F (act P a) := by
  have hok := h.ok
  unfold act
  rcases h.md with hm | hm
  · rw [hm]
    dsimp only
    cases ht : a.todo with
    | nil => exact .pure h.back
    | cons i k =>
      rw [ht] at hok
      have hk : ∀ x ∈ k, ItemOk2 P F x := fun x hx => hok x (by simp [hx])
      have hi := hok i (List.mem_cons_self ..)
      have to : ∀ {k' : List Item}, (∀ x ∈ k', ItemOk2 P F x) → SmO P F (pure (.go { a with todo := k' })) := fun hk' => .pure (h.to hk')
      have cons1 : ∀ {x : Item} {k' : List Item}, ItemOk2 P F x → (∀ x ∈ k', ItemOk2 P F x) → ∀ y ∈ x :: k', ItemOk2 P F y := by
        intro x k' hx hk' y hy
        rcases List.mem_cons.1 hy with rfl | hy
        · exact hx
        · exact hk' y hy
      cases i with
      | code c =>
        simp only [actI]
        cases c with
        | ret => exact .pure h.back
        | skip => exact to hk
        | label l => exact to hk
        | seq x y => exact to (cons1 hi.1 (cons1 hi.2 hk))
        | block id c => exact to (cons1 hi (cons1 trivial hk))
        | loop c => exact to (cons1 hi (cons1 hi hk))
        | scope c => exact to (cons1 hi (cons1 hi hk))
        | cond c x y =>
          simp only [actC]
          split
          · rename_i b _
            refine to (cons1 ?_ hk)
            cases b
            · exact hi.2.2
            · exact hi.2.1
          · exact .halt
        | exit id =>
          simp only [actC]
          cases he : exitTo id k with
          | none => exact .halt
          | some k' => exact to (exitTo_ok2 he hk)
        | goto l =>
          simp only [actC]
          cases he : gotoIn l k with
          | none => exact .halt
          | some k' => exact to (gotoIn_ok2 he hk)
        | region id ops draw =>
          simp only [actC]
          cases draw with
          | false => exact to (cons1 (x := .inRegion ops _) (fun _ _ o ho => hi o (Array.mem_of_getElem? ho)) hk)
          | true =>
            simp only [if_true]
            refine ⟨Sm.choose fun t => sm_pure _, fun {w o w'} hr => ?_⟩
            simp only [Sem.run, Question.forced, Bool.false_eq_true, if_false, pure, Result.ok.injEq] at hr
            obtain ⟨rfl, -⟩ := hr
            exact h.to (cons1 (x := .inRegion ops _) (fun _ _ o ho => hi o (Array.mem_of_getElem? ho)) hk)
        | rangeFunc f p x y => exact hi.elim
        | refuse s => exact hi.elim
      | inBlock id => exact to hk
      | inScope c => exact to hk
      | inLoop c => exact to (cons1 hi (cons1 hi hk))
      | inRegion ops l =>
        cases l with
        | nil => exact to hk
        | cons j rest =>
          simp only [actI]
          cases ho : ops[j]? with
          | none => exact .pure (h.finish _)
          | some o =>
            simp only []
            cases hw : Region.wanted o (yielded ops a.tmps) with
            | false => exact .pure (h.finish _)
            | true =>
              simp only [if_true]
              have hN := smN_execOp (P := P) (F := F) (ev := a.eval) (fun f => rfl) (hi j (List.mem_cons_self ..) o ho)
              refine ⟨Sm.bind hN.sm fun n => ?_, fun {w q w'} hr => ?_⟩
              · cases n <;> first | exact sm_pure _ | exact Sm.halts trivial
              · rw [Sem.run_bind] at hr
                cases h1 : (execOp a.eval o).run P w with
                | halt x w1 => rw [h1] at hr; cases hr
                | ok n w1 =>
                  rw [h1] at hr
                  have hn := hN.next h1
                  cases n with
                  | value v => cases hr; exact h.finish _
                  | skip => cases hr; exact h.finish _
                  | enter f c => cases hr; exact hn
                  | _ => exact hn.elim
      | _ => exact hi.elim
  · rw [hm]
    dsimp only
    cases hf : P.funcs[a.fn]? with
    | none => exact .halt
    | some fn =>
      refine ⟨Sm.bind (sm_results _ _) fun _ => sm_pure _, fun {w o w'} hr => ?_⟩
      simp only [] at hr
      rw [Sem.run_bind] at hr
      cases h1 : (results fn a.tmps).run P w with
      | halt x w1 => rw [h1] at hr; cases hr
      | ok n w1 => rw [h1] at hr; cases hr; trivial

end
end Go.Proofs.Ytgpplekabohneaa.Co

namespace Go.Proofs.Ytgpplekabohneaa.Co
open Go Go.Conc

section
variable {P : Program} {F : FuncId → Prop}

theorem Twin.self {K D : Nat → Prop} {x y : World} (h : Twin P K D x y) : Twin P (fun _ => False) (fun _ => False) x x :=
  ⟨rfl, rfl, rfl, rfl, rfl, fun _ _ => rfl, fun _ h => h.elim, fun _ h => h.elim, fun _ h => h, fun _ h => h.elim, h.bad, h.nop⟩
theorem Twin.tp {K D : Nat → Prop} {x y : World} (h : Twin P K D x y) (T : Nat → Question → Nat) (d : Nat) : Twin P K D (Co.tp x T d) (Co.tp y T d) :=
  ⟨h.sz, rfl, rfl, h.os, h.output, h.live, h.dead, h.tame, h.sub, h.hi, h.bad, h.nop⟩

/-- All its frames keep to plain code; nothing waits in memory. -/
structure PlainC (P : Program) (F : FuncId → Prop) (x : Cfg) : Prop where
  fr : Plain2 P F x.fr
  cs : ∀ c ∈ x.cs, Plain2 P F c
  w : Twin P (fun _ => False) (fun _ => False) x.w x.w

theorem PlainC.tp {x : Cfg} (h : PlainC P F x) (T : Nat → Question → Nat) (d : Nat) : PlainC P F (x.tp T d) := ⟨h.fr, h.cs, h.w.tp T d⟩

theorem place_plain (hF : ∀ f, F f → FuncOk2 P F f) {fr : Frame} {cs : List Frame} (h1 : Plain2 P F fr) (h2 : ∀ c ∈ cs, Plain2 P F c) {o : Out} (ho : OutOk P F o) {fr' : Frame} {cs' : List Frame} (hp : place P fr cs o = some (fr', cs')) : Plain2 P F fr' ∧ ∀ c ∈ cs', Plain2 P F c := by
  cases o using Out.cs with
  | go f =>
    simp only [place, Option.some.injEq, Prod.mk.injEq] at hp
    obtain ⟨rfl, rfl⟩ := hp
    exact ⟨ho, h2⟩
  | enter f c =>
    simp only [place, Option.some.injEq, Prod.mk.injEq] at hp
    obtain ⟨rfl, rfl⟩ := hp
    refine ⟨Plain2.enter hF ho c, fun c hc => ?_⟩
    rcases List.mem_cons.1 hc with rfl | hc
    · exact h1
    · exact h2 c hc
  | ret v =>
    cases cs with
    | nil => simp [place] at hp
    | cons c r =>
      simp only [place, Option.some.injEq, Prod.mk.injEq] at hp
      obtain ⟨rfl, rfl⟩ := hp
      exact ⟨(h2 c (List.mem_cons_self ..)).finish v, fun x hx => h2 x (List.mem_cons_of_mem _ hx)⟩

theorem PlainC.step (hF : ∀ f, F f → FuncOk2 P F f) {x y : Cfg} (h : PlainC P F x) {o : Out} (hr : (act P x.fr).run P x.w = .ok o y.w) (hp : place P x.fr x.cs o = some (y.fr, y.cs)) : PlainC P F y := by
  have hS := smO_act h.fr
  obtain ⟨g1, g2⟩ := place_plain hF h.fr h.cs (hS.out hr) hp
  obtain ⟨y', _, _, hs, _⟩ := (hS.sm.ok h.w hr).out
  exact ⟨g1, g2, hs.self⟩

theorem Dead.not2 {m : Machine} (h : Dead P m) {fr : Frame} {cs : List Frame} {w : World} (hm : ∀ ch, fr.mode ≠ .panicking ch) : m ≠ lone fr (cs ++ [trap P]) w := by
  rintro rfl
  generalize he : lone fr (cs ++ [trap P]) w = m at h
  cases h using Dead.cs with
  | @pan fr' cs w' ch h1 h2 h3 h4 =>
    obtain ⟨rfl, -, -⟩ := lone_inj he
    exact hm _ h1
  | out => have := (lone_inj he).2.1; simp at this
  | back => have := (lone_inj he).2.1; simp at this

theorem step_act2 {fr : Frame} {cs : List Frame} {w w' : World} {out : Out} {fr' : Frame} {cs' : List Frame} (hp : Plain2 P F fr) (h : (act P fr).run P w = .ok out w') (hpl : place P fr cs out = some (fr', cs')) : step P (lone fr cs w) = .next (lone fr' cs' w') :=
  step_lone_go (by
    have := stepG_act2 (main := true) hp h hpl
    unfold Conc.G at this
    rw [this]
    rfl)

variable {Tgt : Cfg → Prop}

/-- Along that tape the goroutine stands at no good state, or nobody comes to an end any more. -/
theorem glued_along2 {wT : Cfg → (Nat → Question → Nat) × Nat} {gT : Nat → Question → Nat} (hF : ∀ f, F f → FuncOk2 P F f) {x0 : Cfg} (hW : Wits P Tgt wT) (hgl : Glues P wT x0 gT) (h0 : ¬ Good P Tgt x0) (hc : PlainC P F x0) :
    ∀ n m, runN P n (lone x0.fr (x0.cs ++ [trap P]) (tp x0.w gT 0)) = .next m →
      (∃ x D, row P wT x0 n = some (x, D) ∧ ¬ Good P Tgt x ∧ PlainC P F x ∧ m = lone x.fr (x.cs ++ [trap P]) (tp x.w gT D)) ∨ Dead P m := by
  intro n
  induction n with
  | zero =>
    intro m hm
    simp only [runN, Stepped.next.injEq] at hm
    exact .inl ⟨x0, 0, rfl, h0, hc, hm.symm⟩
  | succ n ih =>
    intro m hm
    have split : ∃ m1, runN P n (lone x0.fr (x0.cs ++ [trap P]) (tp x0.w gT 0)) = .next m1 ∧ step P m1 = .next m := by
      rw [runN_add] at hm
      cases hr : runN P n (lone x0.fr (x0.cs ++ [trap P]) (tp x0.w gT 0)) with
      | ended o w => rw [hr] at hm; cases hm
      | next m1 =>
        rw [hr] at hm
        refine ⟨m1, rfl, ?_⟩
        simp only [runN] at hm
        cases hs : step P m1 with
        | ended o w => rw [hs] at hm; cases hm
        | next m2 => rw [hs] at hm; simpa using hm
    obtain ⟨m1, hm1, hst⟩ := split
    rcases ih m1 hm1 with ⟨x, D, hrow, hbad, hcr, rfl⟩ | hd
    · have hcT := hcr.tp (wT x).1 (wT x).2
      have hS := smO_act hcr.fr
      have hplain : Plain2 P F x.fr := hcr.fr
      obtain ⟨k, hk⟩ := hS.sm.tapes (Co.tp x.w (wT x).1 (wT x).2)
      rcases hk with ⟨a, w2, hk⟩ | ⟨hh, w2, hk⟩
      · have hT : (act P x.fr).run P (tp x.w (wT x).1 (wT x).2) = .ok a (tp w2 (wT x).1 ((wT x).2 + k)) := hk _ _ fun _ _ => rfl
        have hres : res P wT x = .ok a (tp w2 (wT x).1 ((wT x).2 + k)) := hT
        have hused : used P wT x = k := by simp [used, hres, worldOf, tp]
        have hg : (act P x.fr).run P (tp x.w gT D) = .ok a (tp w2 gT (D + k)) := hk _ _ fun j hj => hgl hrow (hused ▸ hj)
        cases hp : place P x.fr x.cs a with
        | some y =>
          obtain ⟨fr', cs'⟩ := y
          have hp' : place P x.fr (x.cs ++ [trap P]) a = some (fr', cs' ++ [trap P]) := place_app hp
          rw [step_act2 hplain hg hp'] at hst
          simp only [Stepped.next.injEq] at hst
          refine .inl ⟨⟨fr', cs', tp w2 (wT x).1 ((wT x).2 + k)⟩, D + used P wT x, ?_, ?_, ?_, ?_⟩
          · rw [row_succ hrow]
            simp [nxt, hres, hp]
          · exact fun hgood => hW _ hbad ⟨_, ⟨a, hT, hp⟩, hgood⟩
          · exact hcT.step hF (y := ⟨fr', cs', tp w2 (wT x).1 ((wT x).2 + k)⟩) hT hp
          · rw [← hst, hused]; rfl
        | none =>
          right
          have hret : ∃ v, a = .ret v ∧ x.cs = [] := by
            cases a using Out.cs with
            | go f => simp [place] at hp
            | enter f c => simp [place] at hp
            | ret v =>
              refine ⟨v, rfl, ?_⟩
              cases hx : x.cs with
              | nil => rfl
              | cons c r => simp [place, hx] at hp
          obtain ⟨v, rfl, hcs⟩ := hret
          have hp' : place P x.fr (x.cs ++ [trap P]) (.ret v) = some ((trap P).finish v, []) := by rw [hcs]; rfl
          rw [step_act2 hplain hg hp'] at hst
          simp only [Stepped.next.injEq] at hst
          exact hst ▸ .back
      · have hT : (act P x.fr).run P (tp x.w (wT x).1 (wT x).2) = .halt hh (tp w2 (wT x).1 ((wT x).2 + k)) := hk _ _ fun _ _ => rfl
        have hres : res P wT x = .halt hh (tp w2 (wT x).1 ((wT x).2 + k)) := hT
        have hused : used P wT x = k := by simp [used, hres, worldOf, tp]
        have hg : (act P x.fr).run P (tp x.w gT D) = .halt hh (tp w2 gT (D + k)) := hk _ _ fun j hj => hgl hrow (hused ▸ hj)
        have hok : HaltOk hh := hS.sm.halt hcT.w hT
        have hfun : ∃ fn, P.funcs[x.fr.fn]? = some fn := hplain.fok
        have hN : ∀ o n w1, OpOk2 P F o.op → (execOp x.fr.eval o).run P (tp x.w gT D) = .ok n w1 → (∃ v, n = .value v) ∨ n = .skip ∨ ∃ f c, n = .enter f c := by
          intro o n w1 ho hrun
          have := (smN_execOp (P := P) (F := F) (ev := x.fr.eval) (fun f => rfl) ho).next hrun
          cases n with
          | value v => exact .inl ⟨_, rfl⟩
          | skip => exact .inr (.inl rfl)
          | enter f c => exact .inr (.inr ⟨_, _, rfl⟩)
          | _ => exact this.elim
        rcases stepG_act_halt2 (main := true) (cs := x.cs ++ [trap P]) hplain hfun hN hg hok with ⟨chain, w1, he⟩ | ⟨o, w1, he⟩
        · rw [step_lone_go he] at hst
          simp only [Stepped.next.injEq] at hst
          obtain ⟨ch', hch⟩ := raise_mode x.fr chain
          exact .inr (hst ▸ .pan hch (by rw [raise_defers, hplain.defers]) (by rw [raise_fn]; exact hfun) (fun c hc => ⟨(hcr.cs c hc).defers, (hcr.cs c hc).fok⟩))
        · rw [step_lone_ended he] at hst
          cases hst
    · rcases hd.step with ⟨o, w, he⟩ | ⟨m', he, hd'⟩
      · rw [he] at hst; cases hst
      · rw [he] at hst
        simp only [Stepped.next.injEq] at hst
        exact .inr (hst ▸ hd')

/-- IT COMES THERE ON EVERY TAPE: so it comes there whatever is drawn in between. -/
theorem good_of_steps2 (hF : ∀ f, F f → FuncOk2 P F f) {x : Cfg} (hc : PlainC P F x) (hm : ∀ y T d, Tgt (y.tp T d) → (∀ ch, y.fr.mode ≠ .panicking ch) ∧ Tgt y)
    (h : ∀ T d, ∃ y : Cfg, Tgt y ∧ Steps P (lone x.fr (x.cs ++ [trap P]) (tp x.w T d)) (lone y.fr (y.cs ++ [trap P]) y.w)) : Good P Tgt x := by
  apply Classical.byContradiction
  intro hbad
  obtain ⟨wT, hW⟩ := wits P Tgt
  obtain ⟨gT, hgl⟩ := glues P wT x
  obtain ⟨y, hy, n, hn⟩ := h gT 0
  have hy' := hm y y.w.tape y.w.drawn hy
  rcases glued_along2 hF hW hgl hbad hc n _ hn with ⟨z, D, _, hz, _, he⟩ | hd
  · obtain ⟨h1, h2, h3⟩ := lone_inj he
    refine hz (.done ?_)
    have h2' : y.cs = z.cs := List.append_cancel_right h2
    have hyz : y = z.tp gT D := by
      obtain ⟨yfr, ycs, yw⟩ := y
      dsimp only at h1 h2' h3
      subst h1 h2' h3
      rfl
    exact (hm z _ _ (hyz ▸ hy)).2
  · exact hd.not2 hy'.1 rfl

end
end Go.Proofs.Ytgpplekabohneaa.Co
