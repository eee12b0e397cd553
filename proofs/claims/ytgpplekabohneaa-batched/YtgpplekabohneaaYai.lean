/- A frame with more to do behind what it does. · A segment of plain code, with what follows it, carried out beside leavers. · A lone contract, carried into company. -/
import Derived.Test.YtgpplekabohneaaYah
import Derived.Test.YtgpplekabohneaaYag
import Derived.Conc.Listed
namespace Go.Proofs.Ytgpplekabohneaa.Co
open Go Go.Conc

def addK (k : List Item) (fr : Frame) : Frame := { fr with todo := fr.todo ++ k }

theorem exitTo_app {id : Nat} {k : List Item} : ∀ {t t' : List Item}, exitTo id t = some t' → exitTo id (t ++ k) = some (t' ++ k)
  | [], _, h => by simp [exitTo] at h
  | i :: t, t', h => by
    cases i with
    | inBlock j =>
      simp only [exitTo, List.cons_append] at h ⊢
      split at h
      · rename_i hj; rw [if_pos hj]; cases h; rfl
      · rename_i hj; rw [if_neg hj]; exact exitTo_app h
    | _ => simp only [exitTo, List.cons_append] at h ⊢; exact exitTo_app h

theorem gotoIn_app {l : Nat} {k : List Item} : ∀ {t t' : List Item}, gotoIn l t = some t' → gotoIn l (t ++ k) = some (t' ++ k)
  | [], _, h => by simp [gotoIn] at h
  | i :: t, t', h => by
    cases i with
    | inScope body =>
      simp only [gotoIn, List.cons_append] at h ⊢
      split at h
      · cases h; rfl
      · exact gotoIn_app h
    | _ => simp only [gotoIn, List.cons_append] at h ⊢; exact gotoIn_app h

def addO (k : List Item) : Out → Out
  | .inl fr => .go (addK k fr)
  | o => o

theorem finish_addK {k : List Item} {a : Frame} (v : Value) (h : a.todo ≠ []) : (addK k a).finish v = addK k (a.finish v) := by
  obtain ⟨fn, tmps, todo, defers, mode, kind, round⟩ := a
  cases todo with
  | nil => exact absurd rfl h
  | cons i t =>
    cases i with
    | inRegion ops l => cases l <;> rfl
    | _ => rfl

theorem act_addK {P : Program} {k : List Item} {a : Frame} (hm : a.mode = .run) (ht : a.todo ≠ []) {w w' : World} {o : Out} (h : (act P a).run P w = .ok o w') : (act P (addK k a)).run P w = .ok (addO k o) w' := by
  have hfin : ∀ v, (addK k a).finish v = addK k (a.finish v) := fun v => finish_addK v ht
  obtain ⟨fn, tmps, todo, defers, mode, kind, round⟩ := a
  dsimp only at hm ht
  subst hm
  cases todo with
  | nil => exact absurd rfl ht
  | cons i t =>
    unfold act addK at *
    simp only [List.cons_append] at *
    cases i with
    | code c =>
      simp only [actI] at h ⊢
      cases c with
      | cond c x y =>
        simp only [actC] at h ⊢
        have e : ∀ td, Frame.eval { fn := fn, tmps := tmps, todo := td, defers := defers, mode := .run, kind := kind, roundOf := round } c = Frame.eval { fn := fn, tmps := tmps, todo := .code (.cond c x y) :: t, defers := defers, mode := .run, kind := kind, roundOf := round } c := fun td => by cases c <;> rfl
        rw [e]
        split at h
        · cases h; rfl
        · cases h
      | exit id =>
        simp only [actC] at h ⊢
        cases he : exitTo id t with
        | none => rw [he] at h; cases h
        | some k' => rw [he] at h; rw [exitTo_app he]; cases h; rfl
      | goto l =>
        simp only [actC] at h ⊢
        cases he : gotoIn l t with
        | none => rw [he] at h; cases h
        | some k' => rw [he] at h; rw [gotoIn_app he]; cases h; rfl
      | region id ops draw =>
        simp only [actC] at h ⊢
        cases draw with
        | false => cases h; rfl
        | true =>
          simp only [if_true, Sem.run, Question.forced, Bool.false_eq_true, if_false, pure, Result.ok.injEq] at h ⊢
          obtain ⟨rfl, rfl⟩ := h
          exact ⟨rfl, rfl⟩
      | _ => first | (cases h; rfl) | (cases h; done)
    | inRegion ops l =>
      cases l with
      | nil => cases h; rfl
      | cons j rest =>
        simp only [actI] at h ⊢
        have ee : ∀ td, Frame.eval { fn := fn, tmps := tmps, todo := td, defers := defers, mode := .run, kind := kind, roundOf := round } = Frame.eval { fn := fn, tmps := tmps, todo := .inRegion ops (j :: rest) :: t, defers := defers, mode := .run, kind := kind, roundOf := round } := fun td => by funext c; cases c <;> rfl
        cases ho : ops[j]? with
        | none =>
          simp only [ho] at h ⊢
          rw [hfin]
          cases h; rfl
        | some q =>
          simp only [ho] at h ⊢
          cases hw : Region.wanted q (yielded ops tmps) with
          | false =>
            simp only [hw, Bool.false_eq_true, if_false] at h ⊢
            rw [hfin]
            cases h; rfl
          | true =>
            simp only [hw, if_true] at h ⊢
            rw [ee]
            rw [Sem.run_bind] at h ⊢
            generalize (execOp _ q).run P w = r at h ⊢
            cases r with
            | halt x w1 => cases h
            | ok n w1 =>
              simp only [Result.andThen] at h ⊢
              cases n with
              | value v => simp only [outOf] at h ⊢; rw [hfin]; cases h; rfl
              | skip => simp only [outOf] at h ⊢; rw [hfin]; cases h; rfl
              | enter f c => cases h; rfl
              | _ => cases h
    | _ => first | (cases h; rfl) | (cases h; done)

/-- The lowest frame with more to do, more callers beneath. -/
def liftC (k : List Item) (base : List Frame) : Frame → List Frame → Frame × List Frame
  | fr, [] => (addK k fr, base)
  | fr, c :: cs => (fr, (liftC k base c cs).1 :: (liftC k base c cs).2)

theorem act_enter {P : Program} {a : Frame} {w w' : World} {f : FuncId} {c : Array Value} (h : (act P a).run P w = .ok (.enter f c) w') : a.todo ≠ [] := by
  intro ht
  unfold act at h
  split at h
  · rw [ht] at h; simp only [actI] at h; cases h
  · split at h
    · rw [Sem.run_bind] at h
      rename_i fn _
      cases hr : (results fn a.tmps).run P w with
      | ok v w1 => rw [hr] at h; cases h
      | halt x w1 => rw [hr] at h; cases h
    · cases h
  · cases h

theorem no_leads {P : Program} {x y : Cfg} {T : Nat → Question → Nat} {d : Nat} (hc : x.cs = []) (hm : x.fr.mode = .returning) : ¬ Leads P x T d y := by
  rintro ⟨out, h1, h2⟩
  unfold act at h1
  rw [hm] at h1
  dsimp only at h1
  split at h1
  · rename_i fn _
    rw [Sem.run_bind] at h1
    cases hr : (results fn x.fr.tmps).run P (tp x.w T d) with
    | ok v w1 => rw [hr] at h1; cases h1; rw [hc] at h2; cases h2
    | halt v w1 => rw [hr] at h1; cases h1
  · cases h1

end Go.Proofs.Ytgpplekabohneaa.Co

namespace Go.Proofs.Ytgpplekabohneaa.Co
open Go Go.Conc Go.ConcN

theorem events_addK {P : Program} {k : List Item} {a : Frame} (hm : a.mode = .run) (ht : a.todo ≠ []) {w w' : World} {o : Out} (h : (act P a).run P w = .ok o w') : (act P (addK k a)).events P w #[] = (act P a).events P w #[] := by
  obtain ⟨fn, tmps, todo, defers, mode, kind, round⟩ := a
  dsimp only at hm ht
  subst hm
  cases todo with
  | nil => exact absurd rfl ht
  | cons i t =>
    unfold act addK at *
    simp only [List.cons_append] at *
    cases i with
    | code c =>
      simp only [actI] at h ⊢
      cases c with
      | cond c x y =>
        simp only [actC] at h ⊢
        have e : ∀ td, Frame.eval { fn := fn, tmps := tmps, todo := td, defers := defers, mode := .run, kind := kind, roundOf := round } c = Frame.eval { fn := fn, tmps := tmps, todo := .code (.cond c x y) :: t, defers := defers, mode := .run, kind := kind, roundOf := round } c := fun td => by cases c <;> rfl
        rw [e]
        split at h
        · rfl
        · cases h
      | exit id =>
        simp only [actC] at h ⊢
        cases he : exitTo id t with
        | none => rw [he] at h; cases h
        | some k' => rw [exitTo_app he]; rfl
      | goto l =>
        simp only [actC] at h ⊢
        cases he : gotoIn l t with
        | none => rw [he] at h; cases h
        | some k' => rw [gotoIn_app he]; rfl
      | region id ops draw =>
        simp only [actC] at h ⊢
        cases draw with
        | false => rfl
        | true => simp only [if_true]; rw [events_order, events_order]
      | _ => first | rfl | (cases h; done)
    | inRegion ops l =>
      cases l with
      | nil => rfl
      | cons j rest =>
        simp only [actI] at h ⊢
        have ee : ∀ td, Frame.eval { fn := fn, tmps := tmps, todo := td, defers := defers, mode := .run, kind := kind, roundOf := round } = Frame.eval { fn := fn, tmps := tmps, todo := .inRegion ops (j :: rest) :: t, defers := defers, mode := .run, kind := kind, roundOf := round } := fun td => by funext c; cases c <;> rfl
        cases ho : ops[j]? with
        | none => rfl
        | some q =>
          simp only [ho] at h ⊢
          cases hw : Region.wanted q (yielded ops tmps) with
          | false => rfl
          | true =>
            simp only [hw, if_true] at h ⊢
            rw [ee]
            rw [Sem.run_bind] at h
            rw [Sem.events_bind, Sem.events_bind]
            generalize (execOp _ q).run P w = r at h ⊢
            cases r with
            | halt x w1 => rfl
            | ok n w1 => cases n <;> rfl
    | _ => first | rfl | (cases h; done)

theorem addK_com {k : List Item} {a : Frame} (h : Com a) : Com (addK k a) := ⟨h.md, h.kind, h.defers, h.round⟩

/-- The step of what is lifted. -/
theorem stepG_lift {P : Program} {k : List Item} {base : List Frame} {fr fr' : Frame} {cs cs' : List Frame} {W W' : World} {out : Out} {main : Bool} (hp : Com fr) (hcs : ∀ c ∈ cs, c.todo ≠ []) (hb : cs = [] → (fr.mode = .run ∧ fr.todo ≠ []) ∨ (k = [] ∧ ∀ f c, out = .enter f c → fr.todo ≠ []))
    (h : (act P fr).run P W = .ok out W') (hpl : place P fr cs out = some (fr', cs')) :
    stepG P main (G (liftC k base fr cs).1 (liftC k base fr cs).2) W = .go (G (liftC k base fr' cs').1 (liftC k base fr' cs').2) W' (seen P fr.fn ((act P fr).events P W #[])) ∧ ∀ c ∈ cs', c.todo ≠ [] := by
  cases cs with
  | nil =>
    obtain ⟨ha, hev, ht'⟩ : (act P (addK k fr)).run P W = .ok (addO k out) W' ∧ (act P (addK k fr)).events P W #[] = (act P fr).events P W #[] ∧ (∀ f c, out = .enter f c → fr.todo ≠ []) := by
      rcases hb rfl with ⟨hm, ht⟩ | ⟨rfl, hx⟩
      · exact ⟨act_addK hm ht h, events_addK hm ht h, fun _ _ _ => ht⟩
      · have e1 : addK [] fr = fr := by simp [addK]
        rw [e1]
        refine ⟨?_, rfl, hx⟩
        rw [h]
        cases out using Out.cs <;> simp [addO, addK]
    cases out using Out.cs with
    | go f =>
      simp only [place, Option.some.injEq, Prod.mk.injEq] at hpl
      obtain ⟨rfl, rfl⟩ := hpl
      refine ⟨?_, by simp⟩
      have := stepG_act3 (main := main) (cs := base) (addK_com (k := k) hp) ha (fr' := addK k f) (cs' := base) rfl
      rw [hev] at this
      exact this
    | enter f c =>
      simp only [place, Option.some.injEq, Prod.mk.injEq] at hpl
      obtain ⟨rfl, rfl⟩ := hpl
      refine ⟨?_, by simpa using ht' f c rfl⟩
      have := stepG_act3 (main := main) (cs := base) (addK_com (k := k) hp) ha (fr' := Frame.enter P f c .normal) (cs' := addK k fr :: base) rfl
      rw [hev] at this
      exact this
    | ret v => simp [place] at hpl
  | cons c cs =>
    cases out using Out.cs with
    | go f =>
      simp only [place, Option.some.injEq, Prod.mk.injEq] at hpl
      obtain ⟨rfl, rfl⟩ := hpl
      exact ⟨stepG_act3 hp h rfl, hcs⟩
    | enter f a =>
      simp only [place, Option.some.injEq, Prod.mk.injEq] at hpl
      obtain ⟨rfl, rfl⟩ := hpl
      refine ⟨stepG_act3 hp h rfl, fun z hz => ?_⟩
      rcases List.mem_cons.1 hz with rfl | hz
      · exact act_enter h
      · exact hcs z hz
    | ret v =>
      simp only [place, Option.some.injEq, Prod.mk.injEq] at hpl
      obtain ⟨rfl, rfl⟩ := hpl
      refine ⟨stepG_act3 hp h ?_, fun z hz => hcs z (List.mem_cons_of_mem _ hz)⟩
      cases cs with
      | nil =>
        have hc := hcs c (List.mem_cons_self ..)
        simp only [liftC, place, finish_addK v hc]
      | cons e r => rfl

theorem Good.busy {P : Program} {Tgt : Cfg → Prop} (hT : ∀ y, Tgt y → y.fr.mode = .run) {x : Cfg} {next : (Nat → Question → Nat) → Nat → Cfg} (h1 : ∀ T d, Leads P x T d (next T d)) (h2 : ∀ T d, Good P Tgt (next T d)) : x.cs = [] → x.fr.mode = .run ∧ x.fr.todo ≠ [] := by
  intro hc
  have hl := h1 (fun _ _ => 0) 0
  cases hm : x.fr.mode with
  | returning => exact absurd hl (no_leads hc hm)
  | panicking ch =>
    obtain ⟨out, e1, _⟩ := hl
    unfold act at e1
    rw [hm] at e1
    cases e1
  | run =>
    refine ⟨rfl, fun ht => ?_⟩
    obtain ⟨out, e1, e2⟩ := hl
    unfold act at e1
    rw [hm] at e1
    simp only [ht, actI, pure, Sem.run, Result.ok.injEq] at e1
    obtain ⟨rfl, -⟩ := e1
    rw [hc] at e2
    simp only [place, Option.some.injEq, Prod.mk.injEq] at e2
    have hg := h2 (fun _ _ => 0) 0
    have m1 : (next (fun _ _ => 0) 0).fr.mode = .returning := by rw [← e2.1]
    cases hg using Good.cs with
    | done h => have := hT _ h; rw [m1] at this; cases this
    | step nx g1 _ => exact no_leads e2.2.symm m1 (g1 (fun _ _ => 0) 0)

section
variable {P : Program} {Shun : Loc → Prop} {K D : Nat → Prop} {Z : Nat → Option Obj} {F : FuncId → Prop}

/-- What is kept of the trace while goroutine 0 keeps to plain code and others leave. -/
structure TrKeeps (K : Nat → Prop) (n : Nat) (Tp : Nat → Trace → Prop) : Prop where
  own : ∀ {t fn pos es N N'}, Tp N t → N ≤ N' → (∀ e ∈ es, EvN K N' e) → Tp N' (t ++ MemOp.ofEvents 0 fn pos es)
  mute : ∀ {t ops N}, Tp N t → MuteOps n ops → Tp N (t ++ ops)

/-- The machine beside leavers, goroutine 0 at a place, its lone world x. -/
structure Be (P : Program) (Shun : Loc → Prop) (K D : Nat → Prop) (Z : Nat → Option Obj) (Tp : Nat → Trace → Prop) (n : Nat) (fr : Frame) (cs : List Frame) (x : World) (m : Machine) (t : Trace) : Prop where
  out : ∃ (Y : World) (gs : Array Goroutine) (sl : Option (Nat × Nat)) (q : Nat → Nat), m = crowd gs Y sl ∧ gs.size = n ∧ Bes P Shun ⟨allO K Y, 0, G fr cs, Y⟩ gs t q ∧ Twin P K D (tp x Y.tape Y.drawn) Y ∧ Tp Y.heap.size t ∧ ∀ b, D b → Y.heap[b]? = Z b

/-- One step of goroutine 0's beside leavers. -/
theorem one_beside (hSh : ShunIn Shun K) {Tp : Nat → Trace → Prop} {n : Nat} (hK : TrKeeps K n Tp) {Q : Machine → Trace → Prop} {fr : Frame} {cs : List Frame} {Y : World}
    (hstep : ∀ d, ∃ fr' cs' Y' es, stepG P true (G fr cs) (Y.at d) = .go (G fr' cs') Y' es ∧ (∀ e ∈ es, EvN K Y'.heap.size e) ∧ Y.heap.size ≤ Y'.heap.size ∧ ∀ gs sl t q, gs.size = n → Tp Y'.heap.size t → Bes P Shun ⟨allO K Y', 0, G fr' cs', Y'⟩ gs t q → Reaches P (crowd gs Y' sl) t Q) :
    ∀ {gs : Array Goroutine} {sl : Option (Nat × Nat)} {t : Trace} {q : Nat → Nat}, gs.size = n → Tp Y.heap.size t → Bes P Shun ⟨allO K Y, 0, G fr cs, Y⟩ gs t q → Reaches P (crowd gs Y sl) t Q := by
  intro gs sl t q hn hT hb
  have inner : ∀ M (d0 : Nat) (gs : Array Goroutine) (sl : Option (Nat × Nat)) (t : Trace) (q : Nat → Nat), sumTo gs.size q ≤ M → gs.size = n → Tp Y.heap.size t → Bes P Shun ⟨allO K Y, 0, G fr cs, Y.at d0⟩ gs t q → Reaches P (crowd gs (Y.at d0) sl) t Q := by
    have main : ∀ (d d0 : Nat) (gs : Array Goroutine) (sl sl' : Option (Nat × Nat)) (t : Trace) (q : Nat → Nat), gs.size = n → Tp Y.heap.size t → Bes P Shun ⟨allO K Y, 0, G fr cs, Y.at d0⟩ gs t q → stepT P (crowd gs (Y.at d0) sl) = runT P (crowd gs (Y.at d) sl') 0 → Reaches P (crowd gs (Y.at d0) sl) t Q := by
      intro d d0 gs sl sl' t q hn hT hb hstp
      obtain ⟨fr', cs', Y', es, g1, g3, g4, g5⟩ := hstep d
      have hT1 := runT_crowd_go (P := P) (sl := sl') (i := 0) hb.main (show stepG P (0 == 0) (G fr cs) (Y.at d) = _ from g1)
      refine .step (hstp.trans hT1) ?_
      have hb3 := hb.move (y := ⟨allO K Y', 0, G fr' cs', Y'⟩) g4 (allO_lies _) (allO_nosh hSh _) (fun e he => (g3 e he).evB) (by
        refine (deafBehind_still (fun e he => ?_) 0).symm
        have := g3 e he
        unfold EvN at this
        constructor <;> (intro hx; rw [hx] at this; exact this))
      exact g5 _ _ _ _ (by simpa using hn) (hK.own hT g4 g3) hb3
    intro M
    induction M with
    | zero =>
      intro d0 gs sl t q hM hn hT hb
      obtain ⟨d, sl', hp' | ⟨gs', ops, q', hp', hb', hlt, hsz, hmu⟩⟩ := hb.pick sl rfl
      · exact main d d0 gs sl sl' t q hn hT hb hp'
      · omega
    | succ M ihM =>
      intro d0 gs sl t q hM hn hT hb
      obtain ⟨d, sl', hp' | ⟨gs', ops, q', hp', hb', hlt, hsz, hmu⟩⟩ := hb.pick sl rfl
      · exact main d d0 gs sl sl' t q hn hT hb hp'
      · exact .step hp' (ihM d gs' sl' (t ++ ops) q' (by omega) (hsz.trans hn) (hK.mute hT (hn ▸ hmu)) hb')
  exact inner _ Y.drawn gs sl t q (Nat.le_refl _) hn hT hb

/-- A TREE OF A SEGMENT, LIFTED, BESIDE LEAVERS. -/
theorem lift_beside (hF : ∀ f, F f → FuncOk2 P F f) (hSh : ShunIn Shun K) {Tp : Nat → Trace → Prop} {n : Nat} (hK : TrKeeps K n Tp) {Tgt : Cfg → Prop} {k : List Item} {base : List Frame} (hTr : (∀ y, Tgt y → y.fr.mode = .run) ∨ k = [])
    {x : Cfg} (h : Good P Tgt x) : PlainC P F x → (∀ c ∈ x.cs, c.todo ≠ []) → ∀ {Y : World} {gs : Array Goroutine} {sl : Option (Nat × Nat)} {t : Trace} {q : Nat → Nat}, Twin P K D (tp x.w Y.tape Y.drawn) Y → (∀ b, D b → Y.heap[b]? = Z b) → gs.size = n → Tp Y.heap.size t → Bes P Shun ⟨allO K Y, 0, G (liftC k base x.fr x.cs).1 (liftC k base x.fr x.cs).2, Y⟩ gs t q →
      Reaches P (crowd gs Y sl) t fun m t => ∃ y : Cfg, Tgt y ∧ PlainC P F y ∧ Be P Shun K D Z Tp n (liftC k base y.fr y.cs).1 (liftC k base y.fr y.cs).2 y.w m t := by
  induction h using Good.ind with
  | @done x h =>
    intro hp _ Y gs sl t q hs hZ hn hT hb
    exact .here ⟨x, h, hp, ⟨Y, gs, sl, q, rfl, hn, hb, hs, hT, hZ⟩⟩
  | @step x next h1 h2 ih =>
    intro hp hcs Y gs sl t q hs hZ hn hT hb
    refine one_beside hSh hK (fun d => ?_) hn hT hb
    obtain ⟨out, e1, e2⟩ := h1 Y.tape d
    have hsm : Twin P K D (tp x.w Y.tape d) (Y.at d) := ⟨hs.sz, rfl, rfl, hs.os, hs.output, hs.live, hs.dead, hs.tame, hs.sub, hs.hi, hs.bad, hs.nop⟩
    obtain ⟨Y', es, g1, g2, g3, g4, g5⟩ := ((smO_act hp.fr).sm.ok hsm e1).out
    have hrunT := g1 #[]
    rw [Array.empty_append] at hrunT
    have hrun : (act P x.fr).run P (Y.at d) = .ok out Y' := by
      have := congrArg Prod.fst hrunT
      simpa [Sem.runT_eq] using this
    have hev : (act P x.fr).events P (Y.at d) #[] = es := by
      have := congrArg Prod.snd hrunT
      simpa [Sem.runT_eq] using this
    obtain ⟨hst, hcs'⟩ := stepG_lift (main := true) (k := k) (base := base) hp.fr.com hcs (fun hc => hTr.elim (fun h => .inl (Good.busy h h1 h2 hc)) fun h => .inr ⟨h, fun f c ho => by subst ho; exact act_enter hrun⟩) hrun e2
    rw [hev] at hst
    have hes : ∀ e ∈ seen P x.fr.fn es, EvN K Y'.heap.size e := fun e he => g3 e (mem_seen he)
    have hpl : PlainC P F (next Y.tape d) := (hp.tp Y.tape d).step hF e1 e2
    refine ⟨_, _, Y', _, hst, hes, g4, fun gs sl t q hn hT hb => ?_⟩
    exact ih Y.tape d hpl hcs' (Y := Y') ⟨g2.sz, rfl, rfl, g2.os, g2.output, g2.live, g2.dead, g2.tame, g2.sub, g2.hi, g2.bad, g2.nop⟩ (fun b hd => (g5 b hd).trans (hZ b hd)) hn hT hb

/-- What is proved of an item alone. -/
def IWp (P : Program) (i : Item) (Q : Go.Act → World → Prop) (a : Go.Act) (w : World) : Prop := ∀ (b : Frame) (k : List Item) (cs : List Frame), ∃ a' w', Q a' w' ∧ Steps P (lone (b.at a (i :: k)) cs w) (lone (b.at a' k) cs w')

theorem IWp.code {c : Code} {Q : Go.Act → World → Prop} {a : Go.Act} {w : World} (h : c.wp P (fun e a' w' => e = .normal ∧ Q a' w') a w) : IWp P (.code c) Q a w := by
  intro b k cs
  obtain ⟨e, a', w', ⟨rfl, hq⟩, harr⟩ := h b k cs
  exact ⟨a', w', hq, harr⟩

theorem IWp.ops {ops : Array Oper} {l : List Nat} {Q : Go.Act → World → Prop} {a : Go.Act} {w : World} (h : wpOps P ops (fun e a' w' => e = .normal ∧ Q a' w') l a w) : IWp P (.inRegion ops l) Q a w := by
  intro b k cs
  obtain ⟨e, a', w', ⟨rfl, hq⟩, harr⟩ := wp_ops l a w h b k cs
  exact ⟨a', w', hq, harr⟩

/-- A SEGMENT: from what is proved of it alone to the machine beside leavers. -/
theorem Be.seg (hF : ∀ f, F f → FuncOk2 P F f) (hSh : ShunIn Shun K) {Tp : Nat → Trace → Prop} {n : Nat} (hK : TrKeeps K n Tp) {i : Item} (hc : ItemOk2 P F i) {b : Frame} {a : Go.Act} {k : List Item} {base : List Frame} {w : World} {Q : Go.Act → World → Prop}
    (hfn : ∃ fn, P.funcs[b.fn]? = some fn) (hkind : b.kind = .normal) (hdf : a.defers = []) (hwp : ∀ T d, IWp P i Q a (tp w T d)) {m : Machine} {t : Trace} (hb : Be P Shun K D Z Tp n (b.at a (i :: k)) base w m t) :
    Reaches P m t fun m t => ∃ a' w', Q a' w' ∧ a'.defers = [] ∧ Be P Shun K D Z Tp n (b.at a' k) base w' m t := by
  obtain ⟨Y, gs, sl, q, rfl, hn, hb, hs, hT, hZ⟩ := hb.out
  let Tgt : Cfg → Prop := fun y => y.cs = [] ∧ ∃ a' T d, y.fr = b.at a' [] ∧ Q a' (tp y.w T d)
  have hp : PlainC P F ⟨b.at a [i], [], w⟩ := by
    refine ⟨⟨.inl rfl, hkind, hdf, rfl, fun x hx => ?_, hfn⟩, by simp, (hs.self.tp w.tape w.drawn)⟩
    have : x = i := by simpa [Frame.at] using hx
    subst this
    exact hc
  have hg : Good P Tgt ⟨b.at a [i], [], w⟩ := by
    refine good_of_steps2 hF hp (fun y T d h => ?_) fun T d => ?_
    · obtain ⟨h1, a', T', d', h2, h3⟩ := h
      have h2' : y.fr = b.at a' [] := h2
      refine ⟨fun ch hch => ?_, h1, a', T', d', h2', h3⟩
      rw [h2'] at hch
      cases hch
    · obtain ⟨a', w', hq, harr⟩ := hwp T d b [] ([] ++ [trap P])
      exact ⟨⟨b.at a' [], [], w'⟩, ⟨rfl, a', w'.tape, w'.drawn, rfl, hq⟩, harr⟩
  have := lift_beside (D := D) (Z := Z) (k := k) (base := base) hF hSh hK (.inl fun y h => by obtain ⟨_, a', _, _, h2, _⟩ := h; rw [h2]; rfl) hg hp (by simp) (Y := Y) (gs := gs) (sl := sl) (t := t) (q := q) hs hZ hn hT hb
  refine this.bind ?_
  rintro m' t' ⟨⟨fr, cs, w'⟩, ⟨h1, a', T, d, h2, h3⟩, hp', hbe⟩
  dsimp only at h1 h2 h3 hbe
  subst h1 h2
  refine .here ⟨a', tp w' T d, h3, hp'.fr.defers, ?_⟩
  obtain ⟨Y, gs, sl, q, rfl, hn, hb, hs, hT, hZ⟩ := hbe.out
  exact ⟨Y, gs, sl, q, rfl, hn, hb, hs, hT, hZ⟩

/-- One step of any kind that the two worlds share. -/
theorem Be.act (hSh : ShunIn Shun K) {Tp : Nat → Trace → Prop} {n : Nat} (hK : TrKeeps K n Tp) {fr : Frame} {cs : List Frame} {x : World} (hcom : Com fr) (hsm : Sm P (Co.act P fr)) {Q : Machine → Trace → Prop}
    (hrun : ∀ T d, ∃ out x' fr' cs', (Co.act P fr).run P (tp x T d) = .ok out x' ∧ place P fr cs out = some (fr', cs') ∧ ∀ m t, Be P Shun K D Z Tp n fr' cs' x' m t → Reaches P m t Q) {m : Machine} {t : Trace} (hb : Be P Shun K D Z Tp n fr cs x m t) : Reaches P m t Q := by
  obtain ⟨Y, gs, sl, q, rfl, hn, hb, hs, hT, hZ⟩ := hb.out
  refine one_beside hSh hK (fun d => ?_) hn hT hb
  obtain ⟨out, x', fr', cs', e1, e2, e3⟩ := hrun Y.tape d
  have hsm' : Twin P K D (tp x Y.tape d) (Y.at d) := ⟨hs.sz, rfl, rfl, hs.os, hs.output, hs.live, hs.dead, hs.tame, hs.sub, hs.hi, hs.bad, hs.nop⟩
  obtain ⟨Y', es, g1, g2, g3, g4, g5⟩ := (hsm.ok hsm' e1).out
  have hrunT := g1 #[]
  rw [Array.empty_append] at hrunT
  have hrun' : (Co.act P fr).run P (Y.at d) = .ok out Y' := by
    have := congrArg Prod.fst hrunT
    simpa [Sem.runT_eq] using this
  have hev : (Co.act P fr).events P (Y.at d) #[] = es := by
    have := congrArg Prod.snd hrunT
    simpa [Sem.runT_eq] using this
  have hst := stepG_act3 (main := true) hcom hrun' e2
  rw [hev] at hst
  refine ⟨_, _, Y', _, hst, fun e he => g3 e (mem_seen he), g4, fun gs sl t q hn hT hb => ?_⟩
  exact e3 _ _ ⟨Y', gs, sl, q, rfl, hn, hb, ⟨g2.sz, rfl, rfl, g2.os, g2.output, g2.live, g2.dead, g2.tame, g2.sub, g2.hi, g2.bad, g2.nop⟩, hT, fun b hd => (g5 b hd).trans (hZ b hd)⟩

/-- A CALL of a function that keeps to plain code. -/
theorem Be.call (hF : ∀ f, F f → FuncOk2 P F f) (hSh : ShunIn Shun K) {Tp : Nat → Trace → Prop} {n : Nat} (hK : TrKeeps K n Tp) {f : FuncId} (hf : F f) {args : Array Value} {c : Frame} {cs : List Frame} {w : World} {Q : Value → World → Prop}
    (hwp : ∀ T d, Calls P f args (tp w T d) fun e w' => ∃ v, e = .returned v ∧ Q v w') {m : Machine} {t : Trace} (hb : Be P Shun K D Z Tp n (Frame.enter P f args .normal) (c :: cs) w m t) :
    Reaches P m t fun m t => ∃ v w', Q v w' ∧ Be P Shun K D Z Tp n (c.finish v) cs w' m t := by
  obtain ⟨Y, gs, sl, q, rfl, hn, hb, hs, hT, hZ⟩ := hb.out
  let Tgt : Cfg → Prop := fun y => y.cs = [] ∧ ∃ v T d, y.fr.leaving P (tp y.w T d) (.returned v) ∧ Q v (tp y.w T d)
  have hp : PlainC P F ⟨Frame.enter P f args .normal, [], w⟩ := ⟨Plain2.enter hF hf args, by simp, hs.self.tp w.tape w.drawn⟩
  have hg : Good P Tgt ⟨Frame.enter P f args .normal, [], w⟩ := by
    refine good_of_steps2 hF hp (fun y T d h => ?_) fun T d => ?_
    · obtain ⟨h1, v, T', d', h2, h3⟩ := h
      have h2' : y.fr.leaving P (tp y.w T' d') (.returned v) := h2
      refine ⟨fun ch hch => ?_, h1, v, T', d', h2', h3⟩
      rw [h2'.1] at hch
      cases hch
    · obtain ⟨e, w', fr, ⟨v, rfl, hq⟩, hst, -, hl⟩ := hwp T d ([] ++ [trap P])
      exact ⟨⟨fr, [], w'⟩, ⟨rfl, v, w'.tape, w'.drawn, hl, hq⟩, hst⟩
  have := lift_beside (D := D) (Z := Z) (k := []) (base := c :: cs) hF hSh hK (.inr rfl) hg hp (by simp) (Y := Y) (gs := gs) (sl := sl) (t := t) (q := q) hs hZ hn hT (by simpa [liftC, addK] using hb)
  refine this.bind ?_
  rintro m' t' ⟨⟨fr, cs', w'⟩, ⟨h1, v, T, d, h2, h3⟩, hp', hbe⟩
  dsimp only at h1 h2 h3 hbe
  subst h1
  obtain ⟨l1, l2, l3, fn, l4, l5⟩ := h2
  have hbe' : Be P Shun K D Z Tp n fr (c :: cs) w' m' t' := by simpa [liftC, addK] using hbe
  have hact : Co.act P fr = results fn fr.tmps >>= fun v => pure (.ret v) := by
    unfold Co.act
    rw [l1]
    simp only [l4]
  refine hbe'.act hSh hK hp'.fr.com (smO_act hp'.fr).sm (fun T' d' => ?_)
  obtain ⟨k, hk⟩ := (sm_results (P := P) fn fr.tmps).tapes (tp w' T d)
  rcases hk with ⟨v', w2, hk⟩ | ⟨h, w2, hk⟩
  · have h5 : (results fn fr.tmps).run P (tp w' T d) = .ok v' (tp w2 T (d + k)) := hk T d fun _ _ => rfl
    rw [l5] at h5
    simp only [Result.ok.injEq] at h5
    obtain ⟨rfl, h6⟩ := h5
    have hk0 : k = 0 := by have := congrArg World.drawn h6; simp [tp] at this; exact this
    subst hk0
    have h7 : tp w2 T' d' = tp w' T' d' := by
      have := congrArg (fun z => tp z T' d') h6
      exact this.symm
    have h8 := hk T' d' (fun j hj => absurd hj (by omega))
    rw [Nat.add_zero, h7] at h8
    refine ⟨.ret v, tp w' T' d', c.finish v, cs, ?_, rfl, fun m t hb => .here ⟨v, tp w' T d, h3, ?_⟩⟩
    · rw [hact, Sem.run_bind, show (results fn fr.tmps).run P (tp w' T' d') = .ok v (tp w' T' d') from h8]; rfl
    · obtain ⟨Y, gs, sl, q, rfl, hn, hb, hs, hT, hZ⟩ := hb.out
      exact ⟨Y, gs, sl, q, rfl, hn, hb, hs, hT, hZ⟩
  · have h5 : (results fn fr.tmps).run P (tp w' T d) = .halt h (tp w2 T (d + k)) := hk T d fun _ _ => rfl
    rw [l5] at h5
    cases h5

/-- A step of control: nothing is done to memory. -/
theorem Be.ctl (hSh : ShunIn Shun K) {Tp : Nat → Trace → Prop} {n : Nat} (hK : TrKeeps K n Tp) {fr fr' : Frame} {cs cs' : List Frame} {x : World} (hst : ∀ Y : World, stepG P true (G fr cs) Y = .go (G fr' cs') Y #[]) {Q : Machine → Trace → Prop}
    (hnext : ∀ m t, Be P Shun K D Z Tp n fr' cs' x m t → Reaches P m t Q) {m : Machine} {t : Trace} (hb : Be P Shun K D Z Tp n fr cs x m t) : Reaches P m t Q := by
  obtain ⟨Y, gs, sl, q, rfl, hn, hb, hs, hT, hZ⟩ := hb.out
  refine one_beside hSh hK (fun d => ⟨fr', cs', Y.at d, #[], hst _, by simp, Nat.le_refl _, fun gs sl t q hn hT hb => ?_⟩) hn hT hb
  exact hnext _ _ ⟨_, gs, sl, q, rfl, hn, hb, ⟨hs.sz, rfl, rfl, hs.os, hs.output, hs.live, hs.dead, hs.tame, hs.sub, hs.hi, hs.bad, hs.nop⟩, hT, hZ⟩

end
end Go.Proofs.Ytgpplekabohneaa.Co

namespace Go.Proofs.Ytgpplekabohneaa.Co
open Go Go.Conc

/-- .. and whatever else is owned. -/
def Own.add (O : Own) (r : Ren) : Own := ⟨fun B => O.B B ∨ ∃ b, r b B, O.C, O.X⟩

/-- The rest that is owned lies apart from what corresponds. -/
structure Aside (O : Own) (r : Ren) (W : World) : Prop where
  B : ∀ b, O.B b → b < W.heap.size ∧ ∀ a, ¬ r a b
  C : ∀ b o, O.C b o → b < W.heap.size ∧ ∀ a, ¬ r a b
  X : ∀ b, O.X b → b < W.heap.size ∧ ∀ a, ¬ r a b

/-- Where the lone run stands at its aim. -/
def Come (P : Program) (F : FuncId → Prop) (Gl : Nat) (Tgt : Cfg → Prop) (base : List Frame) (O : Own) (d : Nat) (r : Ren) (W : World) (x : Pos) : Prop :=
  ∃ y r' fr cs, Tgt y ∧ x.g = G fr (cs ++ base) ∧ CR P F Gl r' (y.tp x.w.tape x.w.drawn) ⟨fr, cs, x.w⟩ ∧ Sub r r' ∧ x.O = O.add r' ∧ x.d = d ∧ Rely O W x.w ∧ Aside O r' x.w ∧ ∀ a b, r' a b → r a b ∨ W.heap.size ≤ b

theorem Aside.grow {O : Own} {r r' : Ren} {w W W' : World} (h : Aside O r W) (hf : Fresh r r' w W) (hs : W.heap.size ≤ W'.heap.size) : Aside O r' W' := by
  have key : ∀ b, (b < W.heap.size ∧ ∀ a, ¬ r a b) → b < W'.heap.size ∧ ∀ a, ¬ r' a b := by
    rintro b ⟨h1, h2⟩
    refine ⟨Nat.lt_of_lt_of_le h1 hs, fun a ha => ?_⟩
    rcases hf a b ha with x | ⟨_, x⟩
    · exact h2 a x
    · omega
  exact ⟨fun b hb => key b (h.B b hb), fun b o hb => key b (h.C b o hb), fun b hb => key b (h.X b hb)⟩

theorem Aside.wide {O : Own} {r : Ren} {W W' : World} (h : Aside O r W) (hs : W.heap.size ≤ W'.heap.size) : Aside O r W' :=
  ⟨fun b hb => ⟨Nat.lt_of_lt_of_le (h.B b hb).1 hs, (h.B b hb).2⟩, fun b o hb => ⟨Nat.lt_of_lt_of_le (h.C b o hb).1 hs, (h.C b o hb).2⟩, fun b hb => ⟨Nat.lt_of_lt_of_le (h.X b hb).1 hs, (h.X b hb).2⟩⟩

theorem Keeps.rely {O : Own} {r : Ren} {W W' : World} (h : Keeps r W W') (ha : Aside O r W) : Rely O W W' := by
  refine ⟨h.size, h.tape, h.os, h.output, fun b hb => h.rest b (ha.B b hb).1 (ha.B b hb).2, fun b o hb => ?_, h.shape, fun b hb ⟨st, sm, y⟩ => ⟨st, sm, (h.rest b (ha.X b hb).1 (ha.X b hb).2).trans y⟩⟩
  have := h.rest b (ha.C b o hb).1 (ha.C b o hb).2
  unfold World.cell?
  dsimp only
  rw [this]

theorem Rely.less {O U : Own} {w w₁ : World} (h : Rely O w w₁) (hb : ∀ b, U.B b → O.B b) (hc : ∀ b o, U.C b o → O.C b o) (hx : ∀ b, U.X b → O.X b) : Rely U w w₁ := ⟨h.size, h.tape, h.os, h.output, fun b x => h.blk b (hb b x), fun b o x => h.cell b o (hc b o x), h.shape, fun b x => h.live b (hx b x)⟩

section
variable {P : Program} {F : FuncId → Prop} {Gl : Nat} {Tgt : Cfg → Prop}

theorem CR.relied {r : Ren} {x : Cfg} {fr : Frame} {cs : List Frame} {W W₁ : World} {O : Own} (h : CR P F Gl r (x.tp W.tape W.drawn) ⟨fr, cs, W⟩) (hr : Rely O W W₁) (hO : ∀ b B, r b B → O.B B) : CR P F Gl r (x.tp W₁.tape W₁.drawn) ⟨fr, cs, W₁⟩ := by
  refine ⟨h.fr, h.cs, ⟨fun b B hb => ?_, rfl, rfl⟩, h.bi, h.lo, Nat.le_trans h.hi hr.size⟩
  obtain ⟨o, O', h1, h2, h3⟩ := h.wr.obj b B hb
  exact ⟨o, O', h1, by rw [hr.blk B (hO b B hb)]; exact h2, h3⟩

theorem Run.of_good (hG : P.globals.size ≤ Gl) (hF : ∀ f, F f → FuncOk P F f) {main : Bool} {Ev : Own → Event → Prop} (hEv : ∀ O e r, EvOk r e → (∀ b B, r b B → O.B B) → Ev O e)
    {base : List Frame} {O : Own} {d : Nat} {x : Cfg} (hg : Good P Tgt x) : ∀ {r : Ren} {fr : Frame} {cs : List Frame} {W : World}, CR P F Gl r (x.tp W.tape W.drawn) ⟨fr, cs, W⟩ → Aside O r W →
      Run P main Ev (Come P F Gl Tgt base O d r W) ⟨O.add r, d, G fr (cs ++ base), W⟩ := by
  induction hg using Good.ind with
  | @done x ht =>
    intro r fr cs W h hA
    refine Run.here fun w₁ h₁ => ⟨x, r, fr, cs, ht, rfl, h.relied h₁ (fun b B hb => .inr ⟨b, hb⟩), Sub.refl r, rfl, rfl, h₁.less (fun _ x => .inl x) (fun _ _ x => x) (fun _ x => x), hA.wide h₁.size, fun _ _ x => .inl x⟩
  | @step x next hl _ ih =>
    intro r fr cs W h hA
    refine Run.one rfl fun w₁ h₁ => ?_
    have hA₁ := hA.wide h₁.size
    have h₁' : Rely O W w₁ := h₁.less (fun _ x => .inl x) (fun _ _ x => x) (fun _ x => x)
    have h' := h.relied h₁ (fun b B hb => .inr ⟨b, hb⟩)
    obtain ⟨out, hrun, hpl⟩ := hl w₁.tape w₁.drawn
    obtain ⟨r', OUT, Y, es, e1, e2, e3, e4, e5, e6, e7, e8⟩ := (CR.walks (x := x.tp w₁.tape w₁.drawn) hG hF h' hrun hpl).out
    have hrun' : (act P fr).run P w₁ = .ok OUT Y.w := by
      have := congrArg Prod.fst e1
      rw [Sem.runT_fst] at this
      exact this
    have hev : (act P fr).events P w₁ #[] = es := congrArg Prod.snd e1
    have hst := stepG_act (main := main) h'.fr.pb hrun' (place_app (base := base) e2)
    dsimp only at hst
    rw [hev] at hst
    have hes : ∀ e ∈ seen P fr.fn es, EvOk r' e := fun e he => e7 e (mem_seen he)
    have hY : CR P F Gl r' ((next w₁.tape w₁.drawn).tp Y.w.tape Y.w.drawn) ⟨Y.fr, Y.cs, Y.w⟩ := by
      have := e3.tp Y.w.tape Y.w.drawn
      exact this
    refine ⟨⟨O.add r', d, G Y.fr (Y.cs ++ base), Y.w⟩, ⟨_, hst, ?_, fun e he => hEv _ _ _ (hes e he) (fun b B hb => .inr ⟨b, hb⟩), ?_⟩, ?_⟩
    · refine ⟨e5.size, e5.tape, e5.os, e5.output, ?_, fun _ _ h => h, fun _ h => h, ?_, ?_, e5.shape⟩
      · rintro B (hB | ⟨b, hb⟩)
        · exact .inl (.inl hB)
        · rcases e6 b B hb with h0 | ⟨_, h0⟩
          · exact .inl (.inr ⟨b, h0⟩)
          · exact .inr ⟨h0, (e3.wr.lt hb).2⟩
      · intro B hB hn _
        exact e5.rest B hB fun b hb => hn (.inr ⟨b, hb⟩)
      · intro B o hB hn _
        have := e5.rest B hB fun b hb => hn (.inr ⟨b, hb⟩)
        unfold World.cell?
        dsimp only at this ⊢
        rw [this]
    · refine (deafBehind_still (fun e he => ?_) d).symm
      have := hes e he
      unfold EvOk at this
      constructor <;> (intro hx; rw [hx] at this; exact this)
    · refine Run.bind (ih w₁.tape w₁.drawn hY (hA₁.grow e6 e5.size)) ?_
      rintro y ⟨z, r2, fr2, cs2, h1, h2, h3, h4, h5, h6, h7, h8, h9⟩
      refine Run.here fun w₂ h₂ => ?_
      refine ⟨z, r2, fr2, cs2, h1, h2, ?_, e4.trans h4, ?_, h6, (h₁'.trans ((e5.rely hA₁).trans h7)).trans (h₂.less (fun b hb => by rw [h5]; exact .inl hb) (fun b o hb => by rw [h5]; exact hb) (fun b hb => by rw [h5]; exact hb)), h8.wide h₂.size, fun a b hab => (h9 a b hab).elim (fun y => (e6 a b y).imp id (fun z => Nat.le_trans h₁.size z.2)) (fun y => .inr (Nat.le_trans h₁.size (Nat.le_trans e5.size y)))⟩
      · refine h3.relied h₂ fun b B hb => ?_
        rw [h5]
        exact .inr ⟨b, hb⟩
      · exact h5

end
end Go.Proofs.Ytgpplekabohneaa.Co
