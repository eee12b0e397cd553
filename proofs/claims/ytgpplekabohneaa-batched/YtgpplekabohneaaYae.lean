/- Operators, slices, places: the same in both worlds. · The makes of operation: the same in both worlds. · Slices, rows, calls; an operation as a whole: the same in both worlds. -/
import Derived.Test.YtgpplekabohneaaYad
namespace Go.Proofs.Ytgpplekabohneaa.Co
open Go

section
variable {P : Program} {α β σ : Type}

theorem sm_floatArith (op : BinOp) (k : FloatKind) (a b : Nat) : Sm P (Op.floatArith op k a b) := by
  unfold Op.floatArith
  repeat' first | exact sm_pure _ | exact sm_stuck _ | exact sm_choose _ | exact sm_unsup (by simp) | refine Sm.bind ?_ fun _ => ?_ | split | dsimp only
theorem sm_floatCmp (op : BinOp) (k : FloatKind) (a b : Nat) : Sm P (Op.floatCmp op k a b) := by
  unfold Op.floatCmp
  repeat' first | exact sm_pure _ | exact sm_stuck _ | exact sm_choose _ | exact sm_unsup (by simp) | refine Sm.bind ?_ fun _ => ?_ | split | dsimp only
theorem sm_floatToFloat (a : FloatKind) (n : Nat) (b : FloatKind) : Sm P (Conv.floatToFloat a n b) := by
  unfold Conv.floatToFloat
  repeat' first | exact sm_pure _ | exact sm_stuck _ | exact sm_choose _ | exact sm_unsup (by simp) | refine Sm.bind ?_ fun _ => ?_ | split | dsimp only
theorem sm_stringOp (op : BinOp) (a b : ByteArray) : Sm P (Op.stringOp op a b) := by
  unfold Op.stringOp
  repeat' first | exact sm_pure _ | exact sm_stuck _ | exact sm_choose _ | exact sm_unsup (by simp) | refine Sm.bind ?_ fun _ => ?_ | split | dsimp only
theorem sm_cArith (op : BinOp) (k : FloatKind) (a b : Nat) : Sm P (Op.Complex.arith op k a b) := by
  unfold Op.Complex.arith
  refine Sm.bind (sm_floatArith _ _ _ _) fun _ => ?_
  split <;> first | exact sm_pure _ | exact sm_stuck _
theorem sm_cCmp (op : BinOp) (k : FloatKind) (a b : Nat) : Sm P (Op.Complex.cmp op k a b) := by
  unfold Op.Complex.cmp
  exact Sm.bind (sm_floatCmp _ _ _ _) fun _ => sm_asBool _
theorem sm_cConv (a : FloatKind) (n : Nat) (b : FloatKind) : Sm P (Op.Complex.conv a n b) := by
  unfold Op.Complex.conv
  repeat' first | exact sm_pure _ | exact sm_stuck _ | exact sm_floatToFloat _ _ _ | refine Sm.bind ?_ fun _ => ?_ | split | dsimp only
theorem sm_cProduct (a b c d : Nat) : Sm P (Op.Complex.product a b c d) := by
  unfold Op.Complex.product
  repeat' first | exact sm_pure _ | exact sm_cArith _ _ _ _ | refine Sm.bind ?_ fun _ => ?_
theorem sm_cCorrected (s a b c d : Nat) : Sm P (Op.Complex.corrected s a b c d) := by
  unfold Op.Complex.corrected
  repeat' first | exact sm_pure _ | exact sm_cArith _ _ _ _ | refine Sm.bind ?_ fun _ => ?_
theorem sm_cQuotient (a b c d : Nat) : Sm P (Op.Complex.quotient a b c d) := by
  unfold Op.Complex.quotient
  simp only [Op.Complex.add, Op.Complex.sub, Op.Complex.mul, Op.Complex.quo]
  repeat' first | with_reducible exact sm_pure _ | with_reducible exact sm_cArith _ _ _ _ | with_reducible exact sm_cCmp _ _ _ _ | with_reducible exact sm_cCorrected _ _ _ _ _ | with_reducible refine Sm.bind ?_ fun _ => ?_ | split
theorem sm_complexOp (op : BinOp) (k : FloatKind) (a b c d : Nat) : Sm P (Op.complexOp op k a b c d) := by
  unfold Op.complexOp
  split
  all_goals try dsimp only
  all_goals repeat' first | with_reducible exact sm_pure _ | with_reducible exact sm_stuck _ | with_reducible exact sm_cArith _ _ _ _ | with_reducible exact sm_cCmp _ _ _ _ | with_reducible exact sm_cConv _ _ _ | with_reducible exact sm_cProduct _ _ _ _ | with_reducible exact sm_cQuotient _ _ _ _ | with_reducible refine Sm.bind ?_ fun _ => ?_ | split

theorem sm_intArith (op : BinOp) (k : IntKind) (a b : Int) : Sm P (Op.intArith op k a b) := by
  unfold Op.intArith
  split <;> first | exact sm_pure _ | exact sm_stuck _
theorem sm_intCmp (op : BinOp) (a b : Int) : Sm P (Op.intCmp op a b) := by
  unfold Op.intCmp
  split <;> first | exact sm_pure _ | exact sm_stuck _
theorem sm_intBits (op : BinOp) (k : IntKind) (a b : Int) : Sm P (Op.intBits op k a b) := by
  unfold Op.intBits
  dsimp only
  split <;> first | exact sm_pure _ | exact sm_stuck _
theorem sm_intDiv (op : BinOp) (k : IntKind) (a b : Int) : Sm P (Op.intDiv op k a b) := by
  unfold Op.intDiv
  split
  · exact sm_rtPanic (by simp) (by simp)
  · split <;> first | exact sm_pure _ | exact sm_stuck _
theorem sm_shift (op : BinOp) (k : IntKind) (a : Int) (j : IntKind) (b : Int) : Sm P (Op.shift op k a j b) := by
  unfold Op.shift
  split
  · exact sm_rtPanic (by simp) (by simp)
  · dsimp only
    split <;> first | exact sm_pure _ | exact sm_stuck _

/-! ### addresses as numbers -/
/-- A question whose answer at an empty row is a stop. -/
theorem Sm.shapeBad {r : Nat} {k : Option (TypeId × Nat) → Sem α} (h : ∀ s, Sm P (k s)) (hb : P.info? badT = none → ∀ w, ∃ hh, (k (some (badT, 0))).run P w = .halt hh w ∧ HaltOk hh) : Sm P (.shape r k) := by
  refine ⟨fun {K D x y a x'} hs hx => ?_, fun {K D x y hh x'} hs hx => ?_, Tapes.shape fun s => (h s).tapes⟩
  · simp only [Sem.run] at hx
    by_cases hd : D r
    · have e : x.shape? r = some (badT, 0) := by simp [World.shape?, hs.dead _ hd]
      obtain ⟨hh, e2, _⟩ := hb hs.bad x
      rw [e, e2] at hx
      cases hx
    · have e : y.shape? r = x.shape? r := by simp only [World.shape?, hs.live _ hd]
      exact ((h _).ok hs hx).step #[] (fun es => by simp [-Sem.runT_eq, Sem.runT, e]) (by simp) (Nat.le_refl _) fun _ _ => rfl
  · simp only [Sem.run] at hx
    exact (h _).halt hs hx

theorem sm_unsafeAdd (t : TypeId) (x y : Value) : Sm P (Builtin.unsafeAdd_ #[] t #[x, y]) := by
  cases x with
  | pointer ptr =>
    show Sm P (asInt y >>= fun n => _)
    refine Sm.bind (sm_asInt _) fun n => ?_
    refine sm_if ?_ (sm_if (sm_unsupB (by simp)) ?_)
    · cases ptr with
      | some a => exact Sm.bind (sm_viewAt _) fun o => sm_if (sm_unsupB (by simp)) (sm_pure _)
      | none => exact sm_unsupB (by simp)
    · cases ptr with
      | some a =>
        refine Sm.shapeBad (fun s => ?_) (fun hb w => ?_)
        · cases s with
          | none => exact sm_unsup (by simp)
          | some s =>
            obtain ⟨e, c⟩ := s
            refine Sm.program ?_
            simp only [Sem.bind]
            split
            · exact sm_pure _
            · exact sm_unsup (by simp)
        · refine ⟨.unsupported (.unsafePointer "Add"), ?_, trivial⟩
          have : ∀ c o b, cellAtBytes P P.depth badT c o b = none := by
            intro c o b
            have e : P.cellsOf badT = 0 := by simp [Program.cellsOf, hb]
            simp [cellAtBytes, e]
          simp [Sem.run, Sem.bind, bind, program, this, unsupported]
      | none => exact sm_unsup (by simp)
  | _ => exact sm_stuck _

end
end Go.Proofs.Ytgpplekabohneaa.Co

namespace Go.Proofs.Ytgpplekabohneaa.Co
open Go

section
variable {P : Program} {α β σ : Type}

theorem sm_movedNumber (t : TypeId) (x y : Value) : Sm P (movedNumber t x y) := by
  unfold movedNumber
  refine Sm.bind (sm_underlying t) fun d => ?_
  dsimp only
  refine sm_if (sm_unsupB (by simp)) ?_
  split
  · refine Sm.bind (sm_behind _) fun r => ?_
    refine Sm.bind (sm_unsafeAdd _ _ _) fun v => ?_
    split
    · exact Sm.bind (sm_new (by simp)) fun _ => sm_pure _
    · exact sm_pure _
  · exact sm_unsafeAdd _ _ _
theorem sm_movedPointer (t : TypeId) (x y : Value) : Sm P (movedPointer t x y) := by
  unfold movedPointer
  dsimp only
  split
  · exact Sm.bind (sm_numberAt _) fun _ => sm_if (sm_unsupB (by simp)) (sm_unsafeAdd _ _ _)
  · exact sm_unsafeAdd _ _ _
theorem sm_twoPlaces (a b : Addr) : Sm P (Op.twoPlaces a b) := by
  unfold Op.twoPlaces
  refine Sm.program ?_
  simp only [Sem.bind]
  split
  · exact sm_unsupB (by simp)
  · rename_i h
    have h1 : a.block = b.block ∧ a.block < P.globals.size := by simpa using h
    exact Sm.bind (sm_byteOf h1.2) fun _ => Sm.bind (sm_byteOf (h1.1 ▸ h1.2)) fun _ => sm_pure _
theorem sm_addrSub (k : IntKind) (a b : Addr) : Sm P (Op.addrSub k a b) := Sm.bind (sm_twoPlaces _ _) fun _ => sm_pure _
theorem sm_addrCmp (op : BinOp) (a b : Addr) : Sm P (Op.addrCmp op a b) := by
  refine Sm.bind (sm_twoPlaces _ _) fun r => ?_
  obtain ⟨x, y⟩ := r
  dsimp only
  split <;> first | exact sm_pure _ | exact sm_unsup (u := .addressObserved) (by simp)

theorem sm_eqGuardIn : ∀ (d : Nat) (t : TypeId) (x y : Value), Sm P (Op.eqGuardIn d t x y) := by
  intro d
  induction d with
  | zero => intro t x y; exact sm_unsup (by simp)
  | succ d ih =>
    intro t x y
    unfold Op.eqGuardIn
    refine Sm.bind (sm_underlying t) fun ty => ?_
    split
    · exact sm_pure _
    · refine Sm.bind (sm_forInArr (fun f s => ?_) _) fun s => ?_
      · refine sm_if ?_ (sm_pure _)
        exact Sm.bind (sm_part _ _ _) fun _ => Sm.bind (sm_part _ _ _) fun _ => Sm.bind (ih _ _ _) fun _ => sm_if (sm_pure _) (sm_pure _)
      · dsimp only
        split <;> exact sm_pure _
    · refine Sm.bind (sm_sizeOf _) fun n => ?_
      refine Sm.bind (sm_forInRange (fun f s => ?_) _) fun s => ?_
      · exact Sm.bind (sm_part _ _ _) fun _ => Sm.bind (sm_part _ _ _) fun _ => Sm.bind (ih _ _ _) fun _ => sm_if (sm_pure _) (sm_pure _)
      · dsimp only
        split <;> exact sm_pure _
    · exact sm_pure _

theorem sm_eqGuard (op : BinOp) (t : TypeId) (p q : Operand) (x y : Value) : Sm P (eqGuard op t p q x y) := by
  unfold eqGuard
  refine sm_if (sm_pure _) ?_
  split
  · refine sm_if (sm_pure _) ?_
    exact Sm.bind (sm_eqGuardIn _ _ _ _) fun _ => sm_if (sm_unsup (by simp)) (sm_pure _)
  · refine Sm.bind sm_prog fun a => Sm.bind sm_prog fun b => sm_if (sm_pure _) ?_
    exact Sm.bind (sm_eqGuardIn _ _ _ _) fun _ => sm_if (sm_unsup (by simp)) (sm_pure _)
  · exact sm_pure _

theorem sm_unary (op : UnOp) (x : Value) : Sm P (Op.unary op x) := by
  unfold Op.unary
  split <;> first | exact sm_pure _ | exact sm_stuck _ | exact sm_unsup (by simp) | exact sm_intArith _ _ _ _ | exact sm_intBits _ _ _ _

/-! ### places -/
theorem sm_fieldAt {s : TypeId} {n : Nat} (hf : FieldOk P s n) (a : Value) : Sm P (Instr.fieldAt s a n) := by
  unfold Instr.fieldAt
  refine Sm.program ?_
  simp only [Sem.bind]
  cases hu : P.underlying s with
  | none => exact sm_stuck _
  | some d =>
    cases d with
    | struct fs =>
      simp only [pure, Sem.bind]
      cases hn : fs[n]? with
      | none => exact sm_stuck _
      | some f =>
        dsimp only
        refine Sm.bind (sm_sureAddr _) fun a => ?_
        refine Sm.bind ?_ fun _ => sm_pure _
        unfold fieldPlace
        refine Sm.program ?_
        cases hi : P.info? f.type with
        | none => simp only [Sem.bind, hi]; exact sm_stuck _
        | some i =>
          have := hf fs f i hu hn hi
          simp only [Sem.bind, hi, pure]
          rw [if_neg this]
          exact Sm.pure _
    | _ => exact sm_stuck _

theorem sm_indexAt (t : TypeId) (x i : Value) : Sm P (Instr.indexAt t x i) := by
  unfold Instr.indexAt
  refine Sm.bind (sm_asIntOf _) fun k => ?_
  dsimp only
  refine Sm.bind (sm_underlying _) fun d => ?_
  have rest : ∀ (why : String) (base : Option Addr) (len : Nat) (elem : TypeId), Sm P (do
      let u ← underlying t
      let tiny := len ≤ 1 && (match u with | .array .. => true | _ => false)
      match base with
      | some a =>
        if 0 ≤ k.2 ∧ k.2 < len then pure (.pointer (some (a.add (k.2.toNat * (← sizeOf elem)))))
        else if tiny then unsupported (.noEntry why)
        else boundsPanic k.1 k.2 len .index
      | none => boundsPanic k.1 k.2 0 .index : Sem Value) := by
    intro why base len elem
    refine Sm.bind (sm_underlying _) fun u => ?_
    dsimp only
    split
    · refine sm_if (Sm.bind (sm_sizeOf _) fun _ => sm_pure _) (sm_if (sm_unsup (by simp)) (sm_bounds _ _ _ _))
    · exact sm_bounds _ _ _ _
  split
  · exact Sm.bind (sm_sureAddr _) fun a => Sm.bind (sm_pure _) fun _ => rest _ _ _ _
  · exact Sm.bind (sm_pure _) fun _ => rest _ _ _ _
  · exact sm_stuckB

theorem sm_extract (v : Value) (n : Nat) : Sm P (Instr.extract v n) := by
  unfold Instr.extract
  split
  · split
    · exact sm_pure _
    · exact sm_stuck _
  · exact sm_stuck _

end
end Go.Proofs.Ytgpplekabohneaa.Co

namespace Go.Proofs.Ytgpplekabohneaa.Co
open Go

section
variable {P : Program} {α β σ : Type}

theorem sm_sliceBound (x : Value) (y : Nat) (c : BoundsCode) : Sm P (Instr.sliceBound x y c) := by
  refine Sm.bind (sm_asIntOf _) fun k => ?_
  exact sm_if (sm_pure _) (sm_bounds _ _ _ _)
theorem sm_sliceBounds (b : Bool) (len cap : Nat) (lo hi mx : Option Value) : Sm P (Instr.sliceBounds b len cap lo hi mx) := by
  unfold Instr.sliceBounds
  cases lo <;> cases hi <;> cases mx <;> dsimp only <;> repeat' first | with_reducible exact sm_pure _ | with_reducible exact sm_sliceBound _ _ _ | with_reducible exact sm_stuckB | with_reducible refine Sm.bind ?_ fun _ => ?_
theorem sm_slice (t : TypeId) (x : Value) (lo hi mx : Option Value) : Sm P (Instr.slice t x lo hi mx) := by
  unfold Instr.slice
  refine Sm.bind (sm_underlying _) fun d => ?_
  split
  · dsimp only
    exact sm_if sm_stuckB (Sm.bind (sm_sliceBounds _ _ _ _ _ _) fun _ => sm_pure _)
  · exact Sm.bind (sm_sliceBounds _ _ _ _ _ _) fun _ => Sm.bind (sm_sizeOf _) fun _ => sm_pure _
  · refine Sm.bind (sm_asAddr _) fun a => Sm.bind (sm_underlying _) fun e => ?_
    split
    · exact Sm.bind (sm_sliceBounds _ _ _ _ _ _) fun _ => Sm.bind (sm_sizeOf _) fun _ => sm_pure _
    · exact sm_stuck _
  · exact sm_stuck _
theorem sm_sliceAt (t : TypeId) (x : Value) (lo hi mx : Option Value) : Sm P (Instr.sliceAt t x lo hi mx) := by
  unfold Instr.sliceAt
  refine Sm.bind (sm_underlying _) fun d => ?_
  split
  · exact Sm.bind (sm_sureAddr _) fun _ => Sm.bind (sm_sliceBounds _ _ _ _ _ _) fun _ => Sm.bind (sm_sizeOf _) fun _ => sm_pure _
  · exact sm_slice _ _ _ _ _

theorem sm_len (ts : Array TypeId) (t : TypeId) (args : Array Value) : Sm P (Builtin.len_ ts t args) := by
  unfold Builtin.len_
  split
  · refine Sm.bind (sm_underlying _) fun d => ?_
    split
    case h_3 =>
      refine Sm.bind (sm_underlying _) fun e => ?_
      split
      · exact sm_pure _
      · exact sm_stuck _
    case h_7 =>
      refine Sm.bind (sm_getObj _) fun o => ?_
      split
      · exact sm_pure _
      · exact sm_stuck _
    case h_8 =>
      refine Sm.bind (sm_getObj _) fun o => ?_
      split
      · exact sm_pure _
      · exact sm_stuck _
    all_goals first | exact sm_pure _ | exact sm_stuck _
  · exact sm_stuck _

theorem sm_build (t : TypeId) (ps : Array (Nat × Value)) : Sm P (Instr.build t ps) := by
  unfold Instr.build
  refine Sm.bind (sm_zeroValue _) fun z => Sm.bind (sm_underlying _) fun d => ?_
  split
  · refine Sm.bind (sm_mapM _ fun f => Sm.bind (sm_sizeOf _) fun _ => sm_pure _) fun pl => ?_
    split
    · exact sm_pure _
    · exact sm_stuck _
  · refine Sm.bind (sm_sizeOf _) fun n => ?_
    split
    · exact sm_pure _
    · exact sm_stuck _
  · exact sm_stuck _

theorem sm_buildSlice (t : TypeId) (n : Nat) (ps : Array (Nat × Value)) : Sm P (Instr.buildSlice t n ps) := by
  unfold Instr.buildSlice
  refine Sm.bind (sm_underlying _) fun d => ?_
  split
  · refine Sm.bind (sm_sizeOf _) fun k => ?_
    dsimp only
    refine sm_if (sm_unsupB (by simp)) ?_
    have rest : ∀ (why : String) (e : TypeId) (zero : Array Value), Sm P (do
        let some cells := Instr.fill (fun i => some (i * k, k)) ((Array.range (n * k)).map (zero[· % zero.size]!)) ps.toList
          | stuck why
        pure (.slice (some (← newRow e cells)) n n) : Sem Value) := by
      intro why e zero
      split
      · exact Sm.bind (sm_newRow _ _) fun _ => sm_pure _
      · exact sm_stuck _
    split
    · exact Sm.bind (sm_pure _) fun _ => rest _ _ _
    · exact Sm.bind (sm_zeroValue _) fun _ => Sm.bind (sm_pure _) fun _ => rest _ _ _
  · exact sm_stuck _

theorem sm_errB {m : String} {f : α → Sem β} : Sm P ((runtimePanic (.error m) : Sem α) >>= f) := by
  refine Sm.program ?_
  exact Sm.halts trivial

theorem sm_askRoom (n : Nat) : Sm P (askRoom n) := sm_if (Sm.noRoom (Sm.pure _)) (sm_pure _)

theorem sm_makeSlice (t : TypeId) (l c : Value) : Sm P (Instr.makeSlice t l c) := by
  unfold Instr.makeSlice
  refine Sm.bind (sm_underlying _) fun d => ?_
  split
  · refine Sm.bind (sm_asInt _) fun a => Sm.bind (sm_asInt _) fun b => Sm.bind (sm_typeInfo _) fun i => ?_
    dsimp only
    refine sm_if (sm_if sm_errB (sm_if sm_errB (Sm.bind (sm_choose _) fun _ => sm_errB))) ?_
    refine Sm.bind (sm_askRoom _) fun _ => Sm.bind (sm_sizeOf _) fun _ => ?_
    refine sm_if (Sm.bind (sm_pure _) fun _ => ?_) (Sm.bind (sm_zeroValue _) fun _ => Sm.bind (sm_pure _) fun _ => ?_)
    · exact Sm.bind (sm_newRow _ _) fun _ => sm_pure _
    · exact Sm.bind (sm_newRow _ _) fun _ => sm_pure _
  · exact sm_stuck _
theorem sm_makeMap (t : TypeId) (r : Option Value) : Sm P (Instr.makeMap t r) := by
  unfold Instr.makeMap
  dsimp only
  have h : Sm P (newObj (.map #[] 0) >>= fun n => pure (Value.map (some n))) := Sm.bind (sm_new (by simp)) fun _ => sm_pure _
  split
  · refine Sm.bind (sm_underlying _) fun d => ?_
    split
    · exact Sm.bind (sm_asInt _) fun _ => h
    · exact sm_stuckB
  · exact h

theorem sm_clear (ts : Array TypeId) (t : TypeId) (args : Array Value) : Sm P (Builtin.clear_ ts t args) := by
  unfold Builtin.clear_
  split
  · refine Sm.bind (sm_underlying _) fun d => ?_
    split
    · exact sm_pure _
    · exact sm_pure _
    · exact sm_pure _
    · refine Sm.bind (sm_getObj _) fun o => ?_
      split
      · exact Sm.bind (sm_setObj (by simp) rfl) fun _ => sm_pure _
      · exact sm_stuckB
    · exact Sm.bind (sm_zeroValue _) fun _ => Sm.bind (sm_storeCells _ _ _) fun _ => sm_pure _
    · exact sm_stuckB
  · exact sm_stuck _

theorem sm_lenOf (v : Value) : Sm P (Builtin.lenOf v) := by cases v <;> first | exact sm_pure _ | exact sm_stuck _
theorem sm_firstCells (s n : Nat) (v : Value) : Sm P (Builtin.firstCells s n v) := by
  unfold Builtin.firstCells
  split
  · exact sm_loadCells _ _
  · exact sm_pure _
  · exact sm_pure _
  · exact sm_stuck _

theorem sm_always {s : Sem α} (h : ∀ w, ∃ hh w', s.run P w = .halt hh w' ∧ HaltOk hh) (ht : Tapes P s) : Sm P s := by
  refine ⟨fun {K D x y a x'} hs hr => ?_, fun {K D x y hh x'} hs hr => ?_, ht⟩
  · obtain ⟨hh, w', e, _⟩ := h x
    rw [e] at hr; cases hr
  · obtain ⟨h2, w', e, h3⟩ := h x
    rw [e] at hr
    simp only [Result.halt.injEq] at hr
    exact hr.1 ▸ h3

theorem holdsCells_run (w : World) (a : Addr) (n : Nat) : ∃ b, (Builtin.holdsCells a n).run P w = .ok b w := by
  unfold Builtin.holdsCells
  show ∃ b, (Sem.shape a.block _).run P w = .ok b w
  simp only [Sem.run]
  cases w.shape? a.block with
  | none => exact ⟨_, rfl⟩
  | some s => exact ⟨_, rfl⟩

theorem mayShare_run (w : World) (k l n : Nat) (b : Option Addr) (x : Value) : ∃ c, (Builtin.mayShare k l n b x).run P w = .ok c w := by
  unfold Builtin.mayShare
  have tail : ∀ there : Bool, ∃ c, ((if (!there) = true then pure true else match x with
      | .slice (some b') _ _ => do pure (!(← Builtin.holdsCells b' (n * k)) || b.any (·.block == b'.block))
      | _ => pure false : Sem Bool)).run P w = .ok c w := by
    intro there
    split
    · exact ⟨_, rfl⟩
    · split
      · obtain ⟨c, hc⟩ := holdsCells_run (P := P) w _ (n * k)
        rw [Sem.run_bind, hc]
        exact ⟨_, rfl⟩
      · exact ⟨_, rfl⟩
  cases b with
  | none =>
    dsimp only
    rw [Sem.run_bind]
    exact tail true
  | some a =>
    dsimp only
    obtain ⟨c, hc⟩ := holdsCells_run (P := P) w a (l * k)
    rw [Sem.run_bind, hc]
    exact tail (c && !(w.frozen? (a.add (l / 2 * k))))

theorem sm_noShare (k l n : Nat) (b : Option Addr) (x : Value) (s : String) : Sm P (Builtin.mayShare k l n b x >>= fun c => if (!c) = true then mark .noRoom >>= fun _ => (unsupported (.resourceLimit s) : Sem Unit) else unsupported (.resourceLimit s)) := by
  have th : ∀ a n, Tapes P (Builtin.holdsCells a n) := fun a n => Tapes.shape fun s => by
    cases s with
    | none => exact Tapes.pure _
    | some s => exact Tapes.pure _
  have tm : Tapes P (Builtin.mayShare k l n b x) := by
    unfold Builtin.mayShare
    have tail : ∀ there : Bool, Tapes P ((if (!there) = true then pure true else match x with
        | .slice (some b') _ _ => do pure (!(← Builtin.holdsCells b' (n * k)) || b.any (·.block == b'.block))
        | _ => pure false : Sem Bool)) := by
      intro there
      split
      · exact Tapes.pure _
      · split
        · exact Tapes.bind' (th _ _) fun _ => Tapes.pure _
        · exact Tapes.pure _
    cases b with
    | none => exact tail true
    | some a => exact Tapes.bind' (th _ _) fun c => Tapes.frozen fun f => tail (c && !f)
  refine sm_always (fun w => ?_) (Tapes.bind' tm fun c => ?_)
  rotate_left
  · cases c
    · exact Tapes.mark (Tapes.halt _)
    · exact Tapes.halt _
  obtain ⟨c, hc⟩ := mayShare_run (P := P) w k l n b x
  rw [Sem.run_bind, hc]
  cases c <;> exact ⟨_, _, rfl, trivial⟩

theorem sm_append (ts : Array TypeId) (t : TypeId) (args : Array Value) : Sm P (Builtin.append_ ts t args) := by
  unfold Builtin.append_
  split
  · refine Sm.bind (sm_underlying _) fun d => ?_
    split
    · split
      · refine Sm.bind (sm_sizeOf _) fun k => ?_
        dsimp only
        have hrt : ∀ m, Sm P (runtimePanic (.error m) : Sem Unit) := fun m => sm_rtPanic (by simp) (by simp)
        repeat' first | with_reducible exact sm_pure _ | with_reducible exact sm_errB | with_reducible exact hrt _ | with_reducible exact sm_noShare _ _ _ _ _ _ | with_reducible exact sm_underlying _ | with_reducible exact sm_asInt _ | with_reducible exact sm_lenOf _ | with_reducible exact sm_typeInfo _ | with_reducible exact sm_choose _ | with_reducible exact sm_firstCells _ _ _ | with_reducible exact sm_zeroValue _ | with_reducible exact sm_newRow _ _ | with_reducible exact sm_storeCells _ _ _ | with_reducible exact sm_askRoom _ | with_reducible refine Sm.bind ?_ fun _ => ?_ | with_reducible refine sm_if ?_ ?_ | split
      · exact sm_stuck _
    · exact sm_stuck _
  · exact sm_stuck _

end
end Go.Proofs.Ytgpplekabohneaa.Co
