/- Which functions keep to plain code: by a test that the kernel runs. · Which functions keep to plain code, of those that a batch's test calls: by a test that the kernel runs. · Steps of a walk of goroutine 0's beside leavers, in the order of the code; worlds without what waits. -/
import Derived.Test.YtgpplekabohneaaYai
import Derived.Test.YtgpplekabohneaaChecked
import Derived.Tactics
namespace Go.Proofs.Ytgpplekabohneaa.Co
open Go Go.Conc

/-- A value without an address, as deep as 'n'. -/
def flatB : Nat → Value → Bool
  | _, .bool _ | _, .int _ _ | _, .pointer none | _, .slice none _ _ | _, .map none | _, .nilFunc | _, .nilIface => true
  | n + 1, .agg cs | n + 1, .tuple cs => cs.toList.all (flatB n)
  | _, _ => false

theorem flatB_sound : ∀ (n : Nat) (v : Value), flatB n v = true → ∀ r, VR r v v := by
  intro n
  induction n with
  | zero =>
    intro v h r
    cases v with
    | bool b => exact .bool b
    | int k m => exact .int k m
    | pointer a => cases a with
      | none => exact .nilPtr
      | some a => simp [flatB] at h
    | slice a l c => cases a with
      | none => exact .nilSlice l c
      | some a => simp [flatB] at h
    | map a => cases a with
      | none => exact .nilMap
      | some a => simp [flatB] at h
    | nilFunc => exact .nilFunc
    | nilIface => exact .nilIface
    | _ => simp [flatB] at h
  | succ n ih =>
    intro v h r
    have arr : ∀ cs : Array Value, cs.toList.all (flatB n) = true → ∀ (i : Nat) (h : i < cs.size) (h' : i < cs.size), VR r cs[i] cs[i] := by
      intro cs hc i hi _
      rw [List.all_eq_true] at hc
      exact ih _ (hc _ (by rw [Array.mem_toList_iff]; exact Array.getElem_mem hi)) r
    cases v with
    | bool b => exact .bool b
    | int k m => exact .int k m
    | pointer a => cases a with
      | none => exact .nilPtr
      | some a => simp [flatB] at h
    | slice a l c => cases a with
      | none => exact .nilSlice l c
      | some a => simp [flatB] at h
    | map a => cases a with
      | none => exact .nilMap
      | some a => simp [flatB] at h
    | nilFunc => exact .nilFunc
    | nilIface => exact .nilIface
    | agg cs => exact .agg rfl (arr cs (by simpa only [flatB] using h))
    | tuple cs => exact .tuple rfl (arr cs (by simpa only [flatB] using h))
    | _ => simp [flatB] at h

section
variable (P : Program) (Fl : List FuncId)

def zeroB (t : TypeId) : Bool := match P.info? t with
  | some i => match i.zero with
    | some v => flatB 8 v
    | none => true
  | none => true

def opdB : Operand → Bool
  | .tmp _ | .func _ => true
  | .const v => flatB 8 v
  | .global _ => false
def optB : Option Operand → Bool
  | none => true
  | some x => opdB x

def binB (op : BinOp) (t : TypeId) : Bool := match op with
  | .add => match P.underlying t with
    | some (.int _) => true
    | _ => false
  | .lss | .leq | .gtr | .geq => true
  | .eql | .neq => !P.eqGuardType P.depth t
  | _ => false

def fieldB (s : TypeId) (n : Nat) : Bool := match P.underlying s with
  | some (.struct fs) => match fs[n]? with
    | some f => match P.info? f.type with
      | some i => i.size != 0
      | none => true
    | none => true
  | _ => true

def sliceZeroB (t : TypeId) : Bool := match P.underlying t with
  | some (.slice e) => zeroB P e
  | _ => true

def callB (c : Call) : Bool := match c.callee with
  | .value (.func f) => Fl.contains f && (match P.funcs[f]? with | some fn => !(fn.name == "runtime.NumGoroutine") && !fn.body.isNone | none => false) && c.args.toList.all opdB
  | .builtin .len => match c.args.toList with
    | [x] => opdB x
    | _ => false
  | .builtin .clear => (match c.args.toList with
    | [x] => opdB x
    | _ => false) && (match c.argTypes[0]? with | some t => sliceZeroB P t | none => true)
  | .builtin .append => (match c.args.toList with
    | [x, y] => opdB x && opdB y
    | _ => false) && (match c.argTypes[0]? with | some t => sliceZeroB P t | none => true) && (match c.argTypes[1]? with | some t => (match P.underlying t with | some (.int _) => false | _ => true) | none => true)
  | _ => false

def opB : Op → Bool
  | .move x | .assign x | .nilCheck x | .unOp .not _ x | .extract x _ | .box _ x | .load _ x => opdB x
  | .pick c a b => opdB c && opdB a && opdB b
  | .alloc t => zeroB P t
  | .build t ps => zeroB P t && ps.toList.all fun x => opdB x.2
  | .buildSlice t _ ps => sliceZeroB P t && ps.toList.all fun x => opdB x.2
  | .store _ a v => opdB a && opdB v
  | .binOp op t x y _ => binB P op t && opdB x && opdB y
  | .slice t x a b c => (match P.underlying t with | some (.slice _) => true | _ => false) && opdB x && optB a && optB b && optB c
  | .fieldAddr s x n => fieldB P s n && opdB x
  | .indexAddr _ x i => opdB x && opdB i
  | .lookup t x i _ => (match P.underlying t with | some (.map _ e) => zeroB P e | _ => true) && opdB x && opdB i
  | .mapUpdate _ m k v => opdB m && opdB k && opdB v
  | .call c => callB P Fl c
  | _ => false

def codeB : Code → Bool
  | .skip | .exit _ | .goto _ | .label _ | .ret => true
  | .region _ ops _ => ops.toList.all fun o => opB P Fl o.op
  | .seq a b => codeB a && codeB b
  | .cond c a b => opdB c && codeB a && codeB b
  | .block _ c | .loop c | .scope c => codeB c
  | _ => false

def funcB (f : FuncId) : Bool := match P.funcs[f]? with
  | some fn => match fn.body with
    | some c => codeB P Fl c
    | none => false
  | none => false
end

section
variable {P : Program} {Fl : List FuncId}

theorem zeroB_sound {t : TypeId} (h : zeroB P t = true) : ZeroFlat P t := by
  intro i v hi hv
  simp only [zeroB, hi, hv] at h
  exact flatB_sound 8 v h

theorem opdB_sound {x : Operand} (h : opdB x = true) : OpdOk x := by
  cases x with
  | tmp t => trivial
  | func f => trivial
  | const v => exact flatB_sound 8 v h
  | global g => simp [opdB] at h
theorem optB_sound {x : Option Operand} (h : optB x = true) : OptOk x := by
  cases x with
  | none => trivial
  | some x => exact opdB_sound h

theorem binB_sound {op : BinOp} {t : TypeId} (h : binB P op t = true) : BinOk P op t := by
  unfold binB at h
  unfold BinOk
  cases op <;> simp at h ⊢ <;> try assumption
  split at h
  · exact ⟨_, by assumption⟩
  · cases h

theorem fieldB_sound {s : TypeId} {n : Nat} (h : fieldB P s n = true) : FieldOk P s n := by
  intro fs f i h1 h2 h3
  simp only [fieldB, h1, h2, h3] at h
  simpa using h

theorem sliceZeroB_sound {t : TypeId} (h : sliceZeroB P t = true) : ∀ e, P.underlying t = some (.slice e) → ZeroFlat P e := by
  intro e he
  simp only [sliceZeroB, he] at h
  exact zeroB_sound h

theorem mem_all {α : Type} {l : Array α} {f : α → Bool} (h : l.toList.all f = true) : ∀ x ∈ l, f x = true := by
  intro x hx
  rw [List.all_eq_true] at h
  exact h x (by simpa using hx)

theorem arr1 {α : Type} {l : Array α} {x : α} (h : l.toList = [x]) : l = #[x] := by cases l; simp_all
theorem arr2 {α : Type} {l : Array α} {x y : α} (h : l.toList = [x, y]) : l = #[x, y] := by cases l; simp_all

theorem opB_sound {op : Op} (h : opB P Fl op = true) : OpOk P (fun f => f ∈ Fl) op := by
  cases op with
  | move x => exact opdB_sound h
  | assign x => exact opdB_sound h
  | nilCheck x => exact opdB_sound h
  | extract x n => exact opdB_sound h
  | box t x => exact opdB_sound h
  | load t x => exact opdB_sound h
  | unOp op t x =>
    cases op with
    | not => exact opdB_sound h
    | _ => simp [opB] at h
  | pick c a b =>
    simp only [opB, Bool.and_eq_true] at h
    exact ⟨opdB_sound h.1.1, opdB_sound h.1.2, opdB_sound h.2⟩
  | alloc t => exact zeroB_sound h
  | build t ps =>
    simp only [opB, Bool.and_eq_true] at h
    exact ⟨zeroB_sound h.1, fun x hx => opdB_sound (mem_all h.2 x hx)⟩
  | buildSlice t n ps =>
    simp only [opB, Bool.and_eq_true] at h
    exact ⟨sliceZeroB_sound h.1, fun x hx => opdB_sound (mem_all h.2 x hx)⟩
  | store t a v =>
    simp only [opB, Bool.and_eq_true] at h
    exact ⟨opdB_sound h.1, opdB_sound h.2⟩
  | binOp op t x y u =>
    simp only [opB, Bool.and_eq_true] at h
    exact ⟨binB_sound h.1.1, opdB_sound h.1.2, opdB_sound h.2⟩
  | slice t x a b c =>
    simp only [opB, Bool.and_eq_true] at h
    obtain ⟨⟨⟨⟨h1, h2⟩, h3⟩, h4⟩, h5⟩ := h
    refine ⟨?_, opdB_sound h2, optB_sound h3, optB_sound h4, optB_sound h5⟩
    split at h1
    · exact ⟨_, by assumption⟩
    · cases h1
  | fieldAddr s x n =>
    simp only [opB, Bool.and_eq_true] at h
    exact ⟨fieldB_sound h.1, opdB_sound h.2⟩
  | indexAddr t x i =>
    simp only [opB, Bool.and_eq_true] at h
    exact ⟨opdB_sound h.1, opdB_sound h.2⟩
  | lookup t x i ok =>
    simp only [opB, Bool.and_eq_true] at h
    refine ⟨fun k e he => ?_, opdB_sound h.1.2, opdB_sound h.2⟩
    have := h.1.1
    simp only [he] at this
    exact zeroB_sound this
  | mapUpdate t m k v =>
    simp only [opB, Bool.and_eq_true] at h
    exact ⟨opdB_sound h.1.1, opdB_sound h.1.2, opdB_sound h.2⟩
  | call c =>
    obtain ⟨callee, args, ts⟩ := c
    simp only [opB, callB] at h
    cases callee with
    | invoke a b => simp at h
    | value f =>
      cases f with
      | func f =>
        simp only [Bool.and_eq_true] at h
        obtain ⟨⟨h1, h2⟩, h3⟩ := h
        refine ⟨by simpa using h1, ?_, fun x hx => opdB_sound (mem_all h3 x hx)⟩
        cases hf : P.funcs[f]? with
        | none => simp [hf] at h2
        | some fn =>
          simp only [hf, Bool.and_eq_true, Bool.not_eq_true'] at h2
          exact ⟨fn, rfl, h2.1, h2.2⟩
      | _ => simp at h
    | builtin b =>
      cases b with
      | len =>
        simp only at h
        split at h
        · rename_i x hx; exact ⟨x, arr1 hx, opdB_sound h⟩
        · cases h
      | clear =>
        simp only [Bool.and_eq_true] at h
        obtain ⟨h1, h2⟩ := h
        refine ⟨?_, fun t0 e h0 he => ?_⟩
        · split at h1
          · rename_i x hx; exact ⟨x, arr1 hx, opdB_sound h1⟩
          · cases h1
        · simp only [h0] at h2
          exact sliceZeroB_sound h2 e he
      | append =>
        simp only [Bool.and_eq_true] at h
        obtain ⟨⟨h1, h2⟩, h3⟩ := h
        refine ⟨?_, fun t0 e h0 he => ?_, fun t1 ht k hk => ?_⟩
        · split at h1
          · rename_i x y hx
            simp only [Bool.and_eq_true] at h1
            exact ⟨x, y, arr2 hx, opdB_sound h1.1, opdB_sound h1.2⟩
          · cases h1
        · simp only [h0] at h2
          exact sliceZeroB_sound h2 e he
        · simp only [ht, hk] at h3
          cases h3
      | _ => simp at h
  | _ => simp [opB] at h

theorem codeB_sound {c : Code} (h : codeB P Fl c = true) : CodeOk P (fun f => f ∈ Fl) c := by
  induction c with
  | skip => trivial
  | exit _ => trivial
  | goto _ => trivial
  | label _ => trivial
  | ret => trivial
  | region _ _ _ => exact fun o ho => opB_sound (mem_all h o ho)
  | seq _ _ ih1 ih2 =>
    simp only [codeB, Bool.and_eq_true] at h
    exact ⟨ih1 h.1, ih2 h.2⟩
  | cond _ _ _ ih1 ih2 =>
    simp only [codeB, Bool.and_eq_true] at h
    exact ⟨opdB_sound h.1.1, ih1 h.1.2, ih2 h.2⟩
  | block _ _ ih => exact ih (by simpa only [codeB] using h)
  | loop _ ih => exact ih (by simpa only [codeB] using h)
  | scope _ ih => exact ih (by simpa only [codeB] using h)
  | rangeFunc _ _ _ _ _ _ => simp [codeB] at h
  | refuse _ => simp [codeB] at h

theorem funcB_sound {f : FuncId} (h : funcB P Fl f = true) : FuncOk P (fun f => f ∈ Fl) f := by
  unfold funcB at h
  cases hf : P.funcs[f]? with
  | none => simp [hf] at h
  | some fn =>
    simp only [hf] at h
    cases hb : fn.body with
    | none => simp [hb] at h
    | some c =>
      simp only [hb] at h
      exact ⟨fn, c, hf, hb, codeB_sound h⟩
end

/-- A tenant's pass, and whatever it calls. -/
def passFns : List FuncId := [29, 50, 70, 105, 69, 103, 102, 101, 68, 49, 67, 48, 66, 104, 100, 65, 47]

theorem passFns_all : passFns.all (funcB Try.prog passFns) = true := by kernel_rfl

theorem passFns_ok : ∀ f, f ∈ passFns → FuncOk Try.prog (fun f => f ∈ passFns) f := by
  intro f hf
  have := passFns_all
  rw [List.all_eq_true] at this
  exact funcB_sound (this f hf)

theorem globals_size : Try.prog.globals.size ≤ 0 := of_decide_eq_true (by kernel_rfl)

end Go.Proofs.Ytgpplekabohneaa.Co

namespace Go.Proofs.Ytgpplekabohneaa.Co
open Go Go.Conc

section
variable (P : Program) (Fl : List FuncId)

def callB2 (c : Call) : Bool := match c.callee with
  | .value (.func f) => Fl.contains f && (match P.funcs[f]? with | some fn => !(fn.name == "runtime.NumGoroutine") && !fn.body.isNone | none => false)
  | .builtin .len | .builtin .clear | .builtin .append => true
  | _ => false

def opB2 : Op → Bool
  | .move _ | .assign _ | .nilCheck _ | .unOp _ _ _ | .extract _ _ | .box _ _ | .load _ _ | .pick _ _ _ | .alloc _ | .build _ _ | .buildSlice _ _ _ | .store _ _ _ | .binOp _ _ _ _ _ | .slice _ _ _ _ _ | .indexAddr _ _ _ | .lookup _ _ _ _ | .mapUpdate _ _ _ _ | .makeSlice _ _ _ | .makeMap _ _ => true
  | .fieldAddr s _ n => fieldB P s n
  | .call c => callB2 P Fl c
  | _ => false

def codeB2 : Code → Bool
  | .skip | .exit _ | .goto _ | .label _ | .ret => true
  | .region _ ops _ => ops.toList.all fun o => opB2 P Fl o.op
  | .seq a b => codeB2 a && codeB2 b
  | .cond _ a b => codeB2 a && codeB2 b
  | .block _ c | .loop c | .scope c => codeB2 c
  | _ => false

def funcB2 (f : FuncId) : Bool := match P.funcs[f]? with
  | some fn => match fn.body with
    | some c => codeB2 P Fl c
    | none => false
  | none => false
end

section
variable {P : Program} {Fl : List FuncId}

theorem opB2_sound {op : Op} (h : opB2 P Fl op = true) : OpOk2 P (fun f => f ∈ Fl) op := by
  cases op with
  | fieldAddr s x n => exact fieldB_sound h
  | call c =>
    obtain ⟨callee, args, ts⟩ := c
    simp only [opB2, callB2] at h
    cases callee with
    | invoke a b => simp at h
    | value f =>
      cases f with
      | func f =>
        simp only [Bool.and_eq_true] at h
        obtain ⟨h1, h2⟩ := h
        refine ⟨by simpa using h1, ?_⟩
        cases hf : P.funcs[f]? with
        | none => simp [hf] at h2
        | some fn =>
          simp only [hf, Bool.and_eq_true, Bool.not_eq_true'] at h2
          exact ⟨fn, rfl, h2.1, h2.2⟩
      | _ => simp at h
    | builtin b =>
      cases b with
      | len => trivial
      | clear => trivial
      | append => trivial
      | _ => simp at h
  | _ => first | trivial | (simp [opB2] at h; done)

theorem codeB2_sound {c : Code} (h : codeB2 P Fl c = true) : CodeOk2 P (fun f => f ∈ Fl) c := by
  induction c with
  | skip => trivial
  | exit _ => trivial
  | goto _ => trivial
  | label _ => trivial
  | ret => trivial
  | region _ _ _ => exact fun o ho => opB2_sound (mem_all h o ho)
  | seq _ _ ih1 ih2 =>
    simp only [codeB2, Bool.and_eq_true] at h
    exact ⟨ih1 h.1, ih2 h.2⟩
  | cond _ _ _ ih1 ih2 =>
    simp only [codeB2, Bool.and_eq_true] at h
    exact ⟨trivial, ih1 h.1, ih2 h.2⟩
  | block _ _ ih => exact ih (by simpa only [codeB2] using h)
  | loop _ ih => exact ih (by simpa only [codeB2] using h)
  | scope _ ih => exact ih (by simpa only [codeB2] using h)
  | rangeFunc _ _ _ _ _ _ => simp [codeB2] at h
  | refuse _ => simp [codeB2] at h

theorem funcB2_sound {f : FuncId} (h : funcB2 P Fl f = true) : FuncOk2 P (fun f => f ∈ Fl) f := by
  unfold funcB2 at h
  cases hf : P.funcs[f]? with
  | none => simp [hf] at h
  | some fn =>
    simp only [hf] at h
    cases hb : fn.body with
    | none => simp [hb] at h
    | some c =>
      simp only [hb] at h
      exact ⟨fn, c, hf, hb, codeB2_sound h⟩
end

/-- What a batch's test calls, but for the batch itself. -/
def tFns : List FuncId := [14, 15, 17, 18, 19, 20, 21, 22, 26, 28, 29, 30, 31, 40, 41, 44, 45, 46, 47, 48, 49, 50, 51, 63, 64, 65, 66, 67, 68, 69, 70, 71, 99, 100, 101, 102, 103, 104, 105]

abbrev TF : FuncId → Prop := fun f => f ∈ tFns

theorem tFns_all : tFns.all (funcB2 Try.prog tFns) = true := by kernel_rfl

theorem tFns_ok : ∀ f, TF f → FuncOk2 Try.prog TF f := by
  intro f hf
  have := tFns_all
  rw [List.all_eq_true] at this
  exact funcB2_sound (this f hf)

theorem bad_type : Try.prog.info? badT = none := by kernel_rfl

end Go.Proofs.Ytgpplekabohneaa.Co

namespace Go.Proofs.Ytgpplekabohneaa.Co
open Go Go.Conc Go.ConcN

section
variable {P : Program} {Shun : Loc → Prop} {K D : Nat → Prop} {Z : Nat → Option Obj} {F : FuncId → Prop} {Tp : Nat → Trace → Prop} {n : Nat} {b : Frame} {a : Go.Act} {k : List Item} {cs : List Frame} {w : World} {m : Machine} {t : Trace} {R : Machine → Trace → Prop}

/-- What is fixed in a walk. -/
structure Env (P : Program) (F : FuncId → Prop) (Shun : Loc → Prop) (K : Nat → Prop) (n : Nat) (Tp : Nat → Trace → Prop) (b : Frame) : Prop where
  fok : ∀ f, F f → FuncOk2 P F f
  shun : ShunIn Shun K
  tr : TrKeeps K n Tp
  fn : ∃ fn, P.funcs[b.fn]? = some fn
  kind : b.kind = .normal

theorem Be.seq (E : Env P F Shun K n Tp b) {x y : Code} (hb : Be P Shun K D Z Tp n (b.at a (.code (.seq x y) :: k)) cs w m t) (h : ∀ m t, Be P Shun K D Z Tp n (b.at a (.code x :: .code y :: k)) cs w m t → Reaches P m t R) : Reaches P m t R :=
  hb.ctl E.shun E.tr (fun _ => stepG_seq) h

/-- A piece of plain code. -/
theorem Be.code (E : Env P F Shun K n Tp b) {x : Code} (hx : CodeOk2 P F x) (hd : a.defers = []) (hb : Be P Shun K D Z Tp n (b.at a (.code x :: k)) cs w m t)
    (hwp : ∀ T d, x.wp P (fun e a' w' => e = .normal ∧ (a'.defers = [] → ∀ m t, Be P Shun K D Z Tp n (b.at a' k) cs w' m t → Reaches P m t R)) a (tp w T d)) : Reaches P m t R := by
  refine (hb.seg (F := F) (i := .code x) E.fok E.shun E.tr hx E.fn E.kind hd (fun T d => IWp.code (hwp T d))).bind ?_
  rintro m' t' ⟨a', w', hq, hd', hb'⟩
  exact hq hd' m' t' hb'

/-- The first piece of a row of pieces. -/
theorem Be.first (E : Env P F Shun K n Tp b) {x y : Code} (hx : CodeOk2 P F x) (hd : a.defers = []) (hb : Be P Shun K D Z Tp n (b.at a (.code (.seq x y) :: k)) cs w m t)
    (hwp : ∀ T d, x.wp P (fun e a' w' => e = .normal ∧ (a'.defers = [] → ∀ m t, Be P Shun K D Z Tp n (b.at a' (.code y :: k)) cs w' m t → Reaches P m t R)) a (tp w T d)) : Reaches P m t R :=
  hb.seq E fun _ _ hb' => hb'.code E hx hd hwp

/-- The same, for a walk. -/
theorem Be.walk (E : Env P F Shun K n Tp b) {x y : Code} (hx : CodeOk2 P F x) (hd : a.defers = []) (hb : Be P Shun K D Z Tp n (b.at a (.code (.seq x y) :: k)) cs w m t)
    (hwp : ∀ T d (Q : Exit → Go.Act → World → Prop), (∀ a' w', (a'.defers = [] → ∀ m t, Be P Shun K D Z Tp n (b.at a' (.code y :: k)) cs w' m t → Reaches P m t R) → Q .normal a' w') → x.wp P Q a (tp w T d)) : Reaches P m t R :=
  hb.first E hx hd fun T d => hwp T d _ fun _ _ h => ⟨rfl, h⟩

theorem Be.region (E : Env P F Shun K n Tp b) {id : Nat} {ops : Array Oper} (hb : Be P Shun K D Z Tp n (b.at a (.code (.region id ops false) :: k)) cs w m t) (h : ∀ m t, Be P Shun K D Z Tp n (b.at a (.inRegion ops (List.range ops.size) :: k)) cs w m t → Reaches P m t R) : Reaches P m t R :=
  hb.ctl E.shun E.tr (fun _ => stepG_region) h

theorem Be.regionEnd (E : Env P F Shun K n Tp b) {ops : Array Oper} (hb : Be P Shun K D Z Tp n (b.at a (.inRegion ops [] :: k)) cs w m t) (h : ∀ m t, Be P Shun K D Z Tp n (b.at a k) cs w m t → Reaches P m t R) : Reaches P m t R :=
  hb.ctl E.shun E.tr (fun _ => stepG_region_end) h

/-- The rest of a region. -/
theorem Be.rest (E : Env P F Shun K n Tp b) {ops : Array Oper} {l : List Nat} {i : Nat} {lo : List Oper} (hl : l = List.range' i lo.length) (hlo : ∀ j, lo[j]? = ops[i + j]?) (hx : ∀ o ∈ lo, OpOk2 P F o.op) (hd : a.defers = []) (hb : Be P Shun K D Z Tp n (b.at a (.inRegion ops l :: k)) cs w m t)
    (hwp : ∀ T d, wpList P ops (fun e a' w' => e = .normal ∧ (a'.defers = [] → ∀ m t, Be P Shun K D Z Tp n (b.at a' k) cs w' m t → Reaches P m t R)) lo a (tp w T d)) : Reaches P m t R := by
  subst hl
  refine (hb.seg (F := F) (i := .inRegion ops (List.range' i lo.length)) (Q := fun a' w' => a'.defers = [] → ∀ m t, Be P Shun K D Z Tp n (b.at a' k) cs w' m t → Reaches P m t R) E.fok E.shun E.tr (fun j hj o ho => ?_) E.fn E.kind hd (fun T d => IWp.ops ?_)).bind ?_
  · obtain ⟨h1, h2⟩ := List.mem_range'_1.1 hj
    refine hx o (List.mem_of_getElem? (i := j - i) ?_)
    rw [hlo, Nat.add_sub_cancel' h1]
    exact ho
  · rw [wpOps_eq_wpList lo i hlo]
    exact hwp T d
  · rintro m' t' ⟨a', w', hq, hd', hb'⟩
    exact hq hd' m' t' hb'

theorem Be.tail (E : Env P F Shun K n Tp b) {ops : Array Oper} {l : List Nat} {i : Nat} {lo : List Oper} (hl : l = List.range' i lo.length) (hlo : ∀ j, lo[j]? = ops[i + j]?) (hx : ∀ o ∈ lo, OpOk2 P F o.op) (hd : a.defers = []) (hb : Be P Shun K D Z Tp n (b.at a (.inRegion ops l :: k)) cs w m t)
    (hwp : ∀ T d (Q : Exit → Go.Act → World → Prop), (∀ a' w', (a'.defers = [] → ∀ m t, Be P Shun K D Z Tp n (b.at a' k) cs w' m t → Reaches P m t R) → Q .normal a' w') → wpList P ops Q lo a (tp w T d)) : Reaches P m t R :=
  hb.rest E hl hlo hx hd fun T d => hwp T d _ fun _ _ h => ⟨rfl, h⟩

theorem finish_op {ops : Array Oper} {i : Nat} {o : Oper} {rest : List Nat} (ho : ops[i]? = some o) (v : Value) : (b.at a (.inRegion ops (i :: rest) :: k)).finish v = b.at (a.put o.dst v) (.inRegion ops rest :: k) := by
  simp only [Frame.finish, Frame.at, ho, Option.bind_some, Act.put]
  cases o.dst <;> rfl

theorem act_op {ops : Array Oper} {i : Nat} {o : Oper} {rest : List Nat} (ho : ops[i]? = some o) (hw : Region.wanted o (yielded ops a.tmps) = true) : Co.act P (b.at a (.inRegion ops (i :: rest) :: k)) = execOp a.eval o >>= outOf (b.at a (.inRegion ops (i :: rest) :: k)) := by
  have he : Frame.eval (b.at a (.inRegion ops (i :: rest) :: k)) = a.eval := Frame.eval_at' ..
  have h1 : Co.act P (b.at a (.inRegion ops (i :: rest) :: k)) = Co.actI P (b.at a (.inRegion ops (i :: rest) :: k)) (.inRegion ops (i :: rest) :: k) := rfl
  have hw' : Region.wanted o (yielded ops (b.at a (.inRegion ops (i :: rest) :: k)).tmps) = true := hw
  rw [h1]
  simp only [Co.actI, ho, hw', if_true, he]

/-- An operation that yields a value. -/
theorem Be.op (E : Env P F Shun K n Tp b) {ops : Array Oper} {i : Nat} {o : Oper} {rest : List Nat} {v : Value} {w' : World} (ho : ops[i]? = some o) (hw : Region.wanted o (yielded ops a.tmps) = true) (hx : OpOk2 P (fun _ => True) o.op) (hd : a.defers = [])
    (hb : Be P Shun K D Z Tp n (b.at a (.inRegion ops (i :: rest) :: k)) cs w m t) (hrun : ∀ T d, (execOp a.eval o).run P (tp w T d) = .ok (.value v) (tp w' T d))
    (h : ∀ m t, Be P Shun K D Z Tp n (b.at (a.put o.dst v) (.inRegion ops rest :: k)) cs w' m t → Reaches P m t R) : Reaches P m t R := by
  have hact := act_op (P := P) (b := b) (a := a) (k := k) (rest := rest) ho hw
  refine hb.act E.shun E.tr (show Com (b.at a (.inRegion ops (i :: rest) :: k)) from ⟨.inl rfl, E.kind, hd, rfl⟩) ?_ fun T d => ⟨.go (b.at (a.put o.dst v) (.inRegion ops rest :: k)), tp w' T d, _, _, ?_, rfl, fun m t hb' => h m t ?_⟩
  · rw [hact]
    refine Sm.bind (smN_execOp (F := fun _ => True) (fun f => rfl) hx).sm fun q => ?_
    cases q <;> first | exact sm_pure _ | exact Sm.halts trivial
  · rw [hact, Sem.run_bind, hrun]
    simp only [Result.andThen, outOf, finish_op ho]
    rfl
  · obtain ⟨Y, gs, sl, q, h1, h2, h3, h4, h5⟩ := hb'.out
    exact ⟨Y, gs, sl, q, h1, h2, h3, h4, h5⟩

/-- An operation that enters a function. -/
theorem Be.enter (E : Env P F Shun K n Tp b) {ops : Array Oper} {i : Nat} {o : Oper} {rest : List Nat} {f : FuncId} {args : Array Value} (ho : ops[i]? = some o) (hw : Region.wanted o (yielded ops a.tmps) = true) (hx : OpOk2 P (fun _ => True) o.op) (hd : a.defers = [])
    (hb : Be P Shun K D Z Tp n (b.at a (.inRegion ops (i :: rest) :: k)) cs w m t) (hrun : ∀ T d, (execOp a.eval o).run P (tp w T d) = .ok (.enter f args) (tp w T d))
    (h : ∀ m t, Be P Shun K D Z Tp n (Frame.enter P f args .normal) (b.at a (.inRegion ops (i :: rest) :: k) :: cs) w m t → Reaches P m t R) : Reaches P m t R := by
  have hact := act_op (P := P) (b := b) (a := a) (k := k) (rest := rest) ho hw
  refine hb.act E.shun E.tr (show Com (b.at a (.inRegion ops (i :: rest) :: k)) from ⟨.inl rfl, E.kind, hd, rfl⟩) ?_ fun T d => ⟨.enter f args, tp w T d, _, _, ?_, rfl, fun m t hb' => h m t ?_⟩
  · rw [hact]
    refine Sm.bind (smN_execOp (F := fun _ => True) (fun f => rfl) hx).sm fun q => ?_
    cases q <;> first | exact sm_pure _ | exact Sm.halts trivial
  · rw [hact, Sem.run_bind, hrun]
    rfl
  · obtain ⟨Y, gs, sl, q, h1, h2, h3, h4, h5⟩ := hb'.out
    exact ⟨Y, gs, sl, q, h1, h2, h3, h4, h5⟩

/-- A call of a function that keeps to plain code, in a region. -/
theorem Be.callOp (E : Env P F Shun K n Tp b) {ops : Array Oper} {i : Nat} {o : Oper} {rest : List Nat} {f : FuncId} {args : Array Value} (hf : F f) (ho : ops[i]? = some o) (hw : Region.wanted o (yielded ops a.tmps) = true) (hx : OpOk2 P (fun _ => True) o.op) (hd : a.defers = [])
    (hb : Be P Shun K D Z Tp n (b.at a (.inRegion ops (i :: rest) :: k)) cs w m t) (hrun : ∀ T d, (execOp a.eval o).run P (tp w T d) = .ok (.enter f args) (tp w T d))
    (hc : ∀ T d, Calls P f args (tp w T d) fun e w' => ∃ v, e = .returned v ∧ ∀ m t, Be P Shun K D Z Tp n (b.at (a.put o.dst v) (.inRegion ops rest :: k)) cs w' m t → Reaches P m t R) : Reaches P m t R := by
  refine hb.enter E ho hw hx hd hrun fun m t hb' => ?_
  refine (hb'.call E.fok E.shun E.tr hf hc).bind ?_
  rintro m' t' ⟨v, w', hq, hb2⟩
  rw [finish_op ho] at hb2
  exact hq m' t' hb2

/-- A return: to the caller. -/
theorem Be.ret (E : Env P F Shun K n Tp b) {c : Frame} {fn : Func} {v : Value} (hd : a.defers = []) (hfn : P.funcs[b.fn]? = some fn) (hb : Be P Shun K D Z Tp n (b.at a (.code .ret :: k)) (c :: cs) w m t) (hrun : ∀ T d, (results fn a.tmps).run P (tp w T d) = .ok v (tp w T d))
    (h : ∀ m t, Be P Shun K D Z Tp n (c.finish v) cs w m t → Reaches P m t R) : Reaches P m t R := by
  refine hb.ctl E.shun E.tr (fun _ => stepG_ret') fun m t hb' => ?_
  have hact : Co.act P { b.at a (.code .ret :: k) with mode := .returning } = results fn a.tmps >>= fun v => pure (.ret v) := by
    unfold Co.act
    simp only [Frame.at, hfn]
  refine hb'.act E.shun E.tr (show Com { b.at a (.code .ret :: k) with mode := .returning } from ⟨.inr rfl, E.kind, hd, rfl⟩) ?_ fun T d => ⟨.ret v, tp w T d, c.finish v, cs, ?_, rfl, fun m t hb2 => h m t ?_⟩
  · rw [hact]
    exact Sm.bind (sm_results _ _) fun _ => sm_pure _
  · rw [hact, Sem.run_bind, hrun]
    rfl
  · obtain ⟨Y, gs, sl, q, h1, h2, h3, h4, h5⟩ := hb2.out
    exact ⟨Y, gs, sl, q, h1, h2, h3, h4, h5⟩
end

/-! ### a function's body, piece by piece -/
def fstC : Code → Code
  | .seq a _ => a
  | c => c
def sndC : Code → Code
  | .seq _ b => b
  | c => c
/-- The body behind its first i pieces. -/
def restC (c : Code) : Nat → Code
  | 0 => c
  | i + 1 => sndC (restC c i)

def noF (f : FuncId) : Frame := { fn := f, tmps := #[], todo := [], defers := [], mode := .run, kind := .normal }

theorem enter_at2 {P : Program} {f : FuncId} {fn : Func} {c : Code} (hf : P.funcs[f]? = some fn) (hb : fn.body = some c) (args : Array Value) : Frame.enter P f args .normal = (noF f).at ⟨args ++ Array.replicate (fn.ntmps - args.size) undef, []⟩ [.code c] := by
  simp [Frame.enter, hf, hb, Frame.at, noF]

/-! ### a world without what waits -/
open Classical
def blank (D : Nat → Prop) [(i : Nat) → Decidable (D i)] (w : World) : World := { w with heap := w.heap.mapIdx fun i o => if D i then .cells #[] badT (0, 0) else o }

theorem blank_live {D : Nat → Prop} {w : World} {k : Nat} (h : ¬ D k) : (blank D w).heap[k]? = w.heap[k]? := by
  simp only [blank, Array.getElem?_mapIdx, h, if_false]
  cases w.heap[k]? <;> rfl
theorem blank_dead {D : Nat → Prop} {w : World} {k : Nat} (h : D k) (hk : k < w.heap.size) : (blank D w).heap[k]? = some (.cells #[] badT (0, 0)) := by
  simp only [blank, Array.getElem?_mapIdx, h, if_true]
  rw [Array.getElem?_eq_getElem hk]
  rfl
theorem blank_size {D : Nat → Prop} {w : World} : (blank D w).heap.size = w.heap.size := by simp [blank]

/-- The blocks of K and those that wait. -/
def deadOf (K : Nat → Prop) (w : World) : Nat → Prop := fun k => K k ∨ ∃ c t, w.heap[k]? = some (.pending c t)

theorem same_blank {K : Nat → Prop} {w : World} (hK : ∀ k, K k → ∃ c t, w.heap[k]? = some (.cells c t (0, 0))) : Twin Try.prog K (deadOf K w) (blank (deadOf K w) w) w := by
  have hlt : ∀ k, deadOf K w k → k < w.heap.size := by
    rintro k (h | ⟨c, t, h⟩)
    · obtain ⟨c, t, h⟩ := hK k h
      exact (Array.getElem?_eq_some_iff.1 h).1
    · exact (Array.getElem?_eq_some_iff.1 h).1
  refine ⟨blank_size, rfl, rfl, rfl, rfl, fun k h => blank_live h, fun k h => blank_dead h (hlt k h), fun k h => ?_, fun k h => .inl h, fun k h => Nat.le_trans globals_size (Nat.zero_le _), bad_type, fun k c t h => ?_⟩
  · rcases Classical.em (K k) with h1 | h1
    · exact .inl ⟨h1, hK k h1⟩
    · exact .inr ⟨h1, h.resolve_left h1⟩
  · rcases Classical.em (deadOf K w k) with h1 | h1
    · rw [blank_dead h1 (hlt k h1)] at h; cases h
    · rw [blank_live h1] at h
      exact h1 (.inr ⟨c, t, h⟩)

end Go.Proofs.Ytgpplekabohneaa.Co
