/- The group's Add and Wait, called from whatever frame. · The starter: a tenant's first packet: its queue is made, and its goroutine started. · A loop over a map, in company: its operations, and what they list. -/
import Derived.Test.YtgpplekabohneaaYao
import Derived.Test.YtgpplekabohneaaYaq
import Derived.Maps.RangeRun
import Derived.Laws.IdiomRangeMap
import Derived.Conc.TokenWalk
namespace Go.Proofs.Ytgpplekabohneaa.Co
open Go Go.Conc Go.ConcN Go.RowKit Go.Conc.Lib Go.ConcR.Gen Go.ConcN.Gen
open Go.ConcR (KK WgAt)

section
variable {Ev : Own → Event → Prop} {O : Own} {Wg : Nat} {w : World} {b : Frame} {a : Act} {ops : Array Oper} {i : Nat} {rest : List Nat} {k : List Item} {cs : List Frame} {o : Oper} {args : Array Operand} {ats : Array TypeId}

set_option maxRecDepth 100000 in
theorem add_arr (Wg : Nat) : (#[Value.pointer (some ⟨Wg, 0, none⟩), .int .i64 1] ++ Array.replicate ((addFn link).ntmps - (#[Value.pointer (some ⟨Wg, 0, none⟩), .int .i64 1] : Array Value).size) undef) = #[.pointer (some ⟨Wg, 0, none⟩), .int .i64 1, undef, undef, undef, undef, undef, undef, undef, undef, undef, undef, undef, undef, undef, undef, undef, undef, undef, undef, undef, undef, undef, undef, undef, undef, undef, undef, undef, undef, undef, undef, undef, undef, undef, undef, undef, undef, undef, undef, undef, undef, undef, undef, undef, undef, undef, undef, undef, undef, undef, undef, undef, undef, undef, undef, undef, undef, undef, undef, undef, undef, undef, undef, undef, undef, undef, undef, undef, undef, undef, undef, undef, undef, undef, undef, undef, undef, undef, undef, undef, undef, undef, undef, undef, undef, undef, undef, undef, undef, undef, undef, undef, undef, undef, undef, undef, undef, undef, undef, undef, undef, undef, undef, undef, undef, undef, undef, undef, undef, undef, undef, undef, undef, undef, undef, undef] := by kernel_rfl
set_option maxRecDepth 100000 in
theorem wait_arr (Wg : Nat) : (#[Value.pointer (some ⟨Wg, 0, none⟩)] ++ Array.replicate ((waitFn link).ntmps - (#[Value.pointer (some ⟨Wg, 0, none⟩)] : Array Value).size) undef) = #[.pointer (some ⟨Wg, 0, none⟩), undef, undef, undef, undef, undef, undef, undef, undef, undef, undef, undef, undef, undef, undef, undef, undef, undef, undef, undef, undef, undef, undef, undef, undef, undef, undef, undef, undef, undef, undef, undef, undef, undef, undef, undef, undef, undef, undef, undef, undef, undef, undef, undef, undef, undef, undef, undef, undef, undef, undef, undef, undef, undef, undef, undef, undef, undef, undef, undef, undef, undef, undef, undef, undef, undef, undef, undef, undef, undef, undef, undef, undef, undef, undef, undef, undef, undef, undef, undef, undef, undef, undef, undef] := by kernel_rfl

theorem run_add {Stop : Pos → Prop} (ho : ops[i]? = some o) (hw : Region.wanted o (yielded ops a.tmps) = true) (hkd : b.kind ≠ .early) (hop : o.op = .call { callee := .value (.func 52), args, argTypes := ats }) (hvs : args.map a.eval = #[.pointer (some ⟨Wg, 0, none⟩), .int .i64 1])
    (hO : O.B Wg) (hE : GEv Ev Wg) {v : Nat} (hv : v < 2147483647) (hF : WgAt 125 Wg w ((v : Int) * KK) 0)
    (hk : ∀ w', WgAt 125 Wg w' (((v : Int) + 1) * KK) 0 → Rely (O.less Wg) w w' → Run Try.prog true Ev Stop ⟨O, 0, G (b.at (a.put o.dst (.tuple #[])) (.inRegion ops rest :: k)) cs, w'⟩) :
    Run Try.prog true Ev Stop ⟨O, 0, G (b.at a (.inRegion ops (i :: rest) :: k)) cs, w⟩ := by
  refine Run.enter (c := body_add link) ho hw hkd hop wgLib.f_add (nm_add link) rfl _ hvs ?_
  rw [enter_at (c := body_add link) _ wgLib.f_add rfl, add_arr]
  refine add_run1 (L := link) wgLib hO hE hv hF fun w' h1 h2 => ?_
  rw [ho]
  exact hk w' h1 h2

theorem run_wait {Next : Pos → Prop} (ho : ops[i]? = some o) (hw : Region.wanted o (yielded ops a.tmps) = true) (hkd : b.kind ≠ .early) (hop : o.op = .call { callee := .value (.func 54), args, argTypes := ats }) (hvs : args.map a.eval = #[.pointer (some ⟨Wg, 0, none⟩)])
    (hE : GEv Ev Wg) (hSW : ∀ O, Ev O (Go.ConcR.mk (.write (Go.ConcR.smA Wg)))) (N : Nat) (hN : N < 2147483648) (hlive : ∀ a b, Rely O a b → WgLive 125 Wg a → WgLive 125 Wg b) (hl : WgLive 125 Wg w)
    (hk : ∀ w', Rely O w w' → Run Try.prog true Ev Next ⟨O, 0, G (b.at (a.put o.dst (.tuple #[])) (.inRegion ops rest :: k)) cs, w'⟩) :
    Run Try.prog true Ev (W1Stop Try.prog Ev 125 Wg Next N) ⟨O, 0, G (b.at a (.inRegion ops (i :: rest) :: k)) cs, w⟩ := by
  refine Run.enter (c := body_wait link) ho hw hkd hop wgLib.f_wait (nm_wait link) rfl _ hvs ?_
  rw [enter_at (c := body_wait link) _ wgLib.f_wait rfl, wait_arr]
  refine wait_run (L := link) wgLib hE hSW (w0 := w) (fun w' h => ?_) N hN hlive w hl (Rely.refl _ _)
  rw [ho]
  exact hk w' h
end

end Go.Proofs.Ytgpplekabohneaa.Co

namespace Go.Proofs.Ytgpplekabohneaa.Co
open Go Go.Conc Go.RowKit Go.ConcR.Gen Go.ConcN.Gen
open Go.ConcR (DC0 KK WgAt)
open Go.ChangeMaps (setBlock)

theorem op_makeChan {a : Act} {o : Oper} {x : Operand} (hop : o.op = .makeChan 126 x) (hx : a.eval x = .int .i64 0) (w : World) :
    (execOp a.eval o).run Try.prog w = .ok (.value (.chan (some w.heap.size))) (w.alloc (.chan 0 #[] false 0 0 false)) ∧ (execOp a.eval o).events Try.prog w #[] = #[] := by
  have hi : Try.prog.info? 131 = some Try.t131 := by kernel_rfl
  have h1 := run_makeChan (P := Try.prog) (w := w) Try.underlying126 hi .i64 0 (by omega) (by simp)
  have h2 := events_makeChan (P := Try.prog) (w := w) Try.underlying126 hi .i64 0 (by omega) (by simp) #[]
  unfold execOp
  simp only [hop, hx]
  exact ⟨by simpa using congrArg (fun r : Result Value => r.andThen fun v w => Result.ok (Next.value v) w) h1, by simpa using h2⟩

theorem run_update15 (w : World) (r : Nat) (es : Array MapEntry) (clock : Nat) (k : Int) (v : Value) (hr : w.heap[r]? = some (.map es clock)) (hk : ∀ e ∈ es.toList, ∃ b, e.key = .int .i64 b ∧ b ≠ k) :
    (Instr.mapUpdate 115 (.map (some r)) (.int .i64 k) v).run Try.prog w = .ok () (setBlock w r (.map (es.push { key := .int .i64 k, val := v, born := clock }) (clock + 1))) ∧ ∀ e ∈ (Instr.mapUpdate 115 (.map (some r)) (.int .i64 k) v).events Try.prog w #[], ∃ wr, e = ⟨.obj r, wr, false⟩ := by
  have hd : MapKept.IsKey (.int .i64) (.int .i64 k) := rfl
  rcases MapKept.findNow_spec hd es.toList 0 (fun x hx => by obtain ⟨b, hb, _⟩ := hk x hx; rw [hb]; rfl) with ⟨h1, _⟩ | ⟨j, e, h1, h2, h3⟩
  · refine ⟨?_, ?_⟩
    · simp [Instr.mapUpdate, run_underlying Try.underlying115, MapKept.run_getObj_map hr, MapKept.run_checkKey Try.underlying3 hd, MapKept.run_findKey Try.underlying3 h1, MapKept.run_setObj_map _ hr, Result.andThen, setBlock]
    · intro e he
      unfold Instr.mapUpdate at he
      have hs : ∀ ms n evs, (setObj r (.map ms n)).events Try.prog w evs = evs.push ⟨.obj r, true, false⟩ := fun ms n evs => by
        show ((Sem.setObj r (.map ms n) (pure ())).runT Try.prog w evs).2 = _
        simp only [Sem.runT, hr]
        rfl
      simp [run_underlying Try.underlying115, MapKept.run_getObj_map hr, ev_getObj_map hr, MapKept.run_checkKey Try.underlying3 hd, MapKept.run_findKey Try.underlying3 h1, ev_checkKey, ev_findKey h1, hs] at he
      rcases he with he | he
      · exact ⟨_, he⟩
      · exact ⟨_, he⟩
  · obtain ⟨b, hb, hne⟩ := hk e (List.mem_of_getElem? h2)
    exact absurd (show b = k by have := hb.symm.trans h3; simpa using this) hne

theorem op_update {a : Act} {o : Oper} {x y z : Operand} {r : Nat} {es : Array MapEntry} {clock : Nat} {k : Int} {v : Value} {w : World} (hop : o.op = .mapUpdate 115 x y z) (hx : a.eval x = .map (some r)) (hy : a.eval y = .int .i64 k) (hz : a.eval z = v) (hr : w.heap[r]? = some (.map es clock)) (hk : ∀ e ∈ es.toList, ∃ b, e.key = .int .i64 b ∧ b ≠ k) :
    (execOp a.eval o).run Try.prog w = .ok .skip (setBlock w r (.map (es.push { key := .int .i64 k, val := v, born := clock }) (clock + 1))) ∧ ∀ e ∈ (execOp a.eval o).events Try.prog w #[], ∃ wr, e = ⟨.obj r, wr, false⟩ := by
  obtain ⟨h1, h2⟩ := run_update15 w r es clock k v hr hk
  unfold execOp
  simp only [hop, hx, hy, hz]
  refine ⟨by simp [h1], fun e he => h2 e ?_⟩
  simpa [h1] using he

theorem setBlock_ne {w : World} {r x : Nat} {o : Obj} (h : x ≠ r) : (setBlock w r o).heap[x]? = w.heap[x]? := by
  unfold setBlock
  simp only
  rw [Array.getElem?_setIfInBounds_ne (Ne.symm h)]
theorem setBlock_eq {w : World} {r : Nat} {o : Obj} (h : r < w.heap.size) : (setBlock w r o).heap[r]? = some o := by
  unfold setBlock
  simp only
  rw [Array.getElem?_setIfInBounds_self_of_lt h]
theorem setBlock_size (w : World) (r : Nat) (o : Obj) : (setBlock w r o).heap.size = w.heap.size := by simp [setBlock]

theorem shaped_setBlock {w : World} {r : Nat} {o : Obj} {es : Array MapEntry} {c : Nat} (h : w.heap[r]? = some (.map es c)) : Shaped w (setBlock w r o) := by
  intro x cs e f hx
  have : x ≠ r := fun y => by subst y; rw [h] at hx; cases hx
  exact ⟨cs, (setBlock_ne this).trans hx, rfl⟩

theorem guar_setBlock {O : Own} {w : World} {r : Nat} {o : Obj} {es : Array MapEntry} {c : Nat} (hO : O.B r) (h : w.heap[r]? = some (.map es c)) : Guar O O w (setBlock w r o) := by
  refine ⟨Nat.le_of_eq (setBlock_size w r o).symm, rfl, rfl, rfl, fun _ h => .inl h, fun _ _ h => h, fun _ h => h, fun b _ hb _ => setBlock_ne (x := b) (fun e => hb (e ▸ hO)), fun b o' _ hb _ => ?_, shaped_setBlock h⟩
  unfold World.cell?
  dsimp only
  rw [setBlock_ne (x := b) (fun e => hb (e ▸ hO))]

theorem rely_setBlock {O : Own} {w : World} {r : Nat} {o : Obj} {es : Array MapEntry} {c : Nat} (h : w.heap[r]? = some (.map es c)) (hB : ¬ O.B r) (hC : ∀ o, ¬ O.C r o) (hX : ¬ O.X r) : Rely O w (setBlock w r o) := by
  refine ⟨Nat.le_of_eq (setBlock_size w r o).symm, rfl, rfl, rfl, fun b hb => setBlock_ne (r := r) (x := b) (fun e => hB (e ▸ hb)), fun b o' hb => ?_, shaped_setBlock h, fun b hb ⟨st, sm, y⟩ => ⟨st, sm, (setBlock_ne (r := r) (x := b) (fun e => hX (e ▸ hb))).trans y⟩⟩
  unfold World.cell?
  dsimp only
  rw [setBlock_ne (r := r) (x := b) (fun e => hC o' (e ▸ hb))]

def newOf : Code → Code
  | .seq (.seq _ (.cond _ x _)) _ => x
  | x => x
/-- At the go statement. -/
def MS.atG (m : MS) (cs : List Frame) (i : Nat) (j : Nat → Value) (F : Func := Try.f32) : Goroutine := G ((base 32).at ⟨m.tmps i j, []⟩ [.inRegion (opsIn (restOf (restOf (restOf (newOf (code11 F)))))) [3], .code (code16 F), .inBlock 1, .code (code17 (mLoop F)), .inLoop (mLoop F), .inBlock 0, .code (mRest F)]) cs

/-- At the call of Add. -/
def MS.atA (m : MS) (cs : List Frame) (i : Nat) (j : Nat → Value) (F : Func := Try.f32) : Goroutine := G ((base 32).at ⟨m.tmps i j, []⟩ [.inRegion (opsOf (restOf (restOf (newOf (code11 F))))) [0], .code (restOf (restOf (restOf (newOf (code11 F))))), .code (code16 F), .inBlock 1, .code (code17 (mLoop F)), .inLoop (mLoop F), .inBlock 0, .code (mRest F)]) cs

set_option maxRecDepth 100000 in
set_option maxHeartbeats 8000000 in
/-- A NEW QUEUE. -/
theorem at11_new (m : MS) (cs : List Frame) (i : Nat) (j : Nat → Value) {Ev : Own → Event → Prop} {Z : Nat → Prop} (hE : LetsOwn Ev Z) (hEo : LetsObj Ev Z) {Stop : Pos → Prop} {O : Own} {w : World} {n9 : Nat} {p : Pk} {v10 : Value} (h8 : j 8 = .int .i64 i) (h9 : j 9 = .pointer (some ⟨n9, 0, none⟩)) (h10 : j 10 = v10) (h11 : j 11 = .bool false)
    (hO : Lies O w) (hO9 : O.B n9) (hOq : O.B m.q) (hZ9 : ¬ Z n9) (hZq : ¬ Z m.q) (hn9 : w.heap[n9]? = some (.cells (pkC p) 38 (0, 0))) {es : Array MapEntry} {c : Nat} (hq : w.heap[m.q]? = some (.map es c)) (hk : ∀ e ∈ es.toList, ∃ n : Int, e.key = .int .i64 n ∧ n ≠ p.tag)
    (hn : ∀ w₁ ch j', j' 8 = .int .i64 i → j' 9 = .pointer (some ⟨n9, 0, none⟩) → j' 10 = v10 → j' 12 = .chan (some ch) → w.heap.size ≤ ch → w₁.heap[ch]? = some (.chan 0 #[] false 0 0 false) → w₁.heap[m.q]? = some (.map (es.push { key := .int .i64 p.tag, val := .chan (some ch), born := c }) (c + 1)) → Rely (O.less m.q) w w₁ →
      Run Try.prog true Ev Stop ⟨O.new ch, 0, m.atA cs i j', w₁⟩) :
    Run Try.prog true Ev Stop ⟨O, 0, m.at11 cs i j, w⟩ := by
  unfold MS.at11
  unfold MS.atA at hn
  simp only [code11, code16, newOf, opsOf, mLoop, firstLoop, mRest, behind, code7, code17, restOf, Try.f32, Option.getD_some, MS.tmps, MS.ps, MS.sl, h8, h9, h10, h11] at hn ⊢
  have hF : Rely O w w := Rely.refl _ _
  refine Run.of_goes (R := Rely O) (D := DC0) (S := fun g x => Run Try.prog true Ev Stop ⟨O, 0, g, x⟩) (n := 40) (fun _ _ h => h) dc0_ok (fun _ _ h => h) ?_
  u_c stepG_seq rl_trans hF
  u_c stepG_seq rl_trans hF
  u_reg rl_trans hF
  u_op rl_trans hF
  u_op rl_trans hF
  u_c stepG_region_end rl_trans hF
  u_cnd true rl_trans hF
  u_c stepG_seq rl_trans hF
  u_reg rl_trans hF
  refine Goes.stop (fun w₁ h₁ => ?_)
  replace hF := rl_trans hF h₁
  clear h₁

  refine Run.oper rfl rfl (by k_ne) fun w₂ h₂ => ⟨_, _, O.new w₂.heap.size, (op_makeChan rfl rfl w₂).1, guar_alloc O w₂ _, fun e he => by rw [(op_makeChan rfl rfl w₂).2] at he; simp at he, ?_⟩
  have hR2 := hF.trans h₂
  obtain ⟨ch, hch⟩ : ∃ ch, ch = w₂.heap.size := ⟨_, rfl⟩
  have hsz : w.heap.size ≤ ch := by rw [hch]; exact hR2.size
  have hO2 := hO.wide hR2.size
  have hR3 : Rely O w (w₂.alloc (.chan 0 #[] false 0 0 false)) := hR2.trans (rely_alloc w₂ _ hO2.B hO2.C hO2.X)
  have hc3 : (w₂.alloc (.chan 0 #[] false 0 0 false)).heap[ch]? = some (.chan 0 #[] false 0 0 false) := by rw [hch]; exact heap_alloc_new w₂ _
  rw [← hch]
  generalize w₂.alloc (.chan 0 #[] false 0 0 false) = w₃ at hR3 hc3
  clear hF h₂ hR2 hch hO2
  have hF : Rely (O.new ch) w₃ w₃ := Rely.refl _ _
  refine Run.of_goes (R := Rely (O.new ch)) (D := DC0) (S := fun g x => Run Try.prog true Ev Stop ⟨(O.new ch), 0, g, x⟩) (n := 30) (fun _ _ h => h) dc0_ok (fun _ _ h => h) ?_
  try walk_nrm
  u_op rl_trans hF
  u_c stepG_region_end rl_trans hF
  u_c stepG_seq rl_trans hF
  u_reg rl_trans hF
  u_op rl_trans hF
  u_op rl_trans hF
  refine Goes.stop (fun w₁ h₁ => ?_)
  replace hF := rl_trans hF h₁
  clear h₁

  have hb9 := (hF.blk n9 (.inl hO9)).trans ((hR3.blk n9 hO9).trans hn9)
  refine Run.load1 (g := n9) (off := 0) (v := .int .i64 p.tag) hE rfl rfl (by k_ne) rfl rfl Try.isAgg3 (ev_agg 3) (.inl hO9) hZ9 (by rw [cell_at hb9]; rfl) ?_
  try walk_nrm
  refine Run.of_goes (R := Rely (O.new ch)) (D := DC0) (S := fun g x => Run Try.prog true Ev Stop ⟨(O.new ch), 0, g, x⟩) (n := 10) (fun _ _ h => h) dc0_ok (fun _ _ h => h) ?_
  try walk_nrm
  u_op rl_trans hF
  refine Goes.stop (fun w₁ h₁ => ?_)
  replace hF := rl_trans hF h₁
  clear h₁

  refine Run.operS rfl rfl (by k_ne) fun w₄ h₄ => ?_
  have hR4 := hF.trans h₄
  have hq4 : w₄.heap[m.q]? = some (.map es c) := (hR4.blk m.q (.inl hOq)).trans ((hR3.blk m.q hOq).trans hq)
  refine ⟨_, _, (op_update (r := m.q) (k := p.tag) (v := .chan (some ch)) rfl rfl rfl rfl hq4 hk).1, guar_setBlock (.inl hOq) hq4, fun e he => ?_, ?_⟩
  · obtain ⟨wr, rfl⟩ := (op_update (r := m.q) (k := p.tag) (v := .chan (some ch)) rfl rfl rfl rfl hq4 hk).2 e he
    exact ⟨hEo _ m.q wr (.inl hOq) hZq, by simp [Plainly]⟩
  have hqlt : m.q < w₄.heap.size := (Array.getElem?_eq_some_iff.1 hq4).1
  have hchq : ch ≠ m.q := fun e => by have := hO.B m.q hOq; omega
  have hq5 : (setBlock w₄ m.q (.map (es.push { key := .int .i64 p.tag, val := .chan (some ch), born := c }) (c + 1))).heap[m.q]? = some (.map (es.push { key := .int .i64 p.tag, val := .chan (some ch), born := c }) (c + 1)) := setBlock_eq hqlt
  have hc5 : (setBlock w₄ m.q (.map (es.push { key := .int .i64 p.tag, val := .chan (some ch), born := c }) (c + 1))).heap[ch]? = some (.chan 0 #[] false 0 0 false) := (setBlock_ne hchq).trans ((hR4.blk ch (.inr rfl)).trans hc3)
  have hR5 : Rely ((O.new ch).less m.q) w₃ (setBlock w₄ m.q (.map (es.push { key := .int .i64 p.tag, val := .chan (some ch), born := c }) (c + 1))) := (hR4.but m.q).trans (rely_setBlock hq4 (fun x => x.2 rfl) (fun o x => x.2 rfl) (fun x => x.2 rfl))
  generalize setBlock w₄ m.q (.map (es.push { key := .int .i64 p.tag, val := .chan (some ch), born := c }) (c + 1)) = w₅ at hq5 hc5 hR5
  clear hF h₄ hR4 hq4 hqlt hb9
  have hF : Rely (O.new ch) w₅ w₅ := Rely.refl _ _
  refine Run.of_goes (R := Rely (O.new ch)) (D := DC0) (S := fun g x => Run Try.prog true Ev Stop ⟨(O.new ch), 0, g, x⟩) (n := 30) (fun _ _ h => h) dc0_ok (fun _ _ h => h) ?_
  try walk_nrm
  u_c stepG_region_end rl_trans hF
  u_c stepG_seq rl_trans hF
  u_reg rl_trans hF
  refine Goes.stop (fun w₁ h₁ => ?_)
  replace hF := rl_trans hF h₁
  clear h₁

  have hR6 : Rely (O.less m.q) w w₁ := ((hR3.less (U := O.less m.q) (fun _ x => x.1) (fun _ _ x => x.1) (fun _ x => x.1)).trans (hR5.less (U := O.less m.q) (fun _ x => ⟨.inl x.1, x.2⟩) (fun _ _ x => ⟨x.1, x.2⟩) (fun _ x => ⟨x.1, x.2⟩))).trans (hF.less (U := O.less m.q) (fun _ x => .inl x.1) (fun _ _ x => x.1) (fun _ x => x.1))
  have hk2 := fun (x2 x3 x8 x9 x10 x11 x12 x13 x14 x15 x16 x17 x18 x22 x23 x24 x25 x26 x27 x28 x29 x30 x31 x32 x33 x34 x35 x36 x37 x38 x39 x40 x41 x42 x43 x44 x45 x46 x47 x48 x49 x50 x51 x52 x53 x54 x55 x56 x57 x58 x59 x60 x61 x62 x63 x64 x65 x66 x67 x68 x69 x70 x71 x72 x73 : Value) (e8 : x8 = .int .i64 i) (e9 : x9 = .pointer (some ⟨n9, 0, none⟩)) (e10 : x10 = v10) (e12 : x12 = .chan (some ch)) => (hn w₁ ch (fun n => match n with | 2 => x2 | 3 => x3 | 8 => x8 | 9 => x9 | 10 => x10 | 11 => x11 | 12 => x12 | 13 => x13 | 14 => x14 | 15 => x15 | 16 => x16 | 17 => x17 | 18 => x18 | 22 => x22 | 23 => x23 | 24 => x24 | 25 => x25 | 26 => x26 | 27 => x27 | 28 => x28 | 29 => x29 | 30 => x30 | 31 => x31 | 32 => x32 | 33 => x33 | 34 => x34 | 35 => x35 | 36 => x36 | 37 => x37 | 38 => x38 | 39 => x39 | 40 => x40 | 41 => x41 | 42 => x42 | 43 => x43 | 44 => x44 | 45 => x45 | 46 => x46 | 47 => x47 | 48 => x48 | 49 => x49 | 50 => x50 | 51 => x51 | 52 => x52 | 53 => x53 | 54 => x54 | 55 => x55 | 56 => x56 | 57 => x57 | 58 => x58 | 59 => x59 | 60 => x60 | 61 => x61 | 62 => x62 | 63 => x63 | 64 => x64 | 65 => x65 | 66 => x66 | 67 => x67 | 68 => x68 | 69 => x69 | 70 => x70 | 71 => x71 | 72 => x72 | 73 => x73 | _ => undef) e8 e9 e10 e12 hsz ((hF.blk ch (.inr rfl)).trans hc5) ((hF.blk m.q (.inl hOq)).trans hq5) hR6)
  exact hk2 _ _ _ _ _ _ _ _ _ _ _ _ _ _ _ _ _ _ _ _ _ _ _ _ _ _ _ _ _ _ _ _ _ _ _ _ _ _ _ _ _ _ _ _ _ _ _ _ _ _ _ _ _ _ _ _ _ _ _ _ _ _ _ _ _ rfl rfl rfl rfl

set_option maxRecDepth 100000 in
set_option maxHeartbeats 2000000 in
/-- THE GROUP's Add. -/
theorem atA_add (m : MS) (cs : List Frame) (i : Nat) (j : Nat → Value) {Ev : Own → Event → Prop} (hEg : GEv Ev m.Wg) {Stop : Pos → Prop} {O : Own} {w : World} {v ch : Nat} {v9 v10 : Value} (h8 : j 8 = .int .i64 i) (h9 : j 9 = v9) (h10 : j 10 = v10) (h12 : j 12 = .chan (some ch)) (hOW : O.B m.Wg) (hv : v < 2147483647) (hwg : WgAt 125 m.Wg w ((v : Int) * KK) 0)
    (hn : ∀ w₁ j', j' 8 = .int .i64 i → j' 9 = v9 → j' 12 = .chan (some ch) → j' 57 = v10 → j' 58 = .chan (some ch) → j' 59 = m.sl → WgAt 125 m.Wg w₁ (((v : Int) + 1) * KK) 0 → Rely (O.less m.Wg) w w₁ → Run Try.prog true Ev Stop ⟨O, 0, m.atG cs i j', w₁⟩) :
    Run Try.prog true Ev Stop ⟨O, 0, m.atA cs i j, w⟩ := by
  unfold MS.atA
  unfold MS.atG at hn
  simp only [code11, code16, newOf, opsIn, opsOf, mLoop, firstLoop, mRest, behind, code7, code17, restOf, Try.f32, Option.getD_some, MS.tmps, MS.ps, MS.sl, h8, h9, h10, h12] at hn ⊢
  refine run_add rfl rfl (by k_ne) rfl (by simp [Act.eval]) hOW hEg hv hwg (fun w₇ hW7 hR7 => ?_)
  have hF : Rely O w₇ w₇ := Rely.refl _ _
  refine Run.of_goes (R := Rely O) (D := DC0) (S := fun g x => Run Try.prog true Ev Stop ⟨O, 0, g, x⟩) (n := 30) (fun _ _ h => h) dc0_ok (fun _ _ h => h) ?_
  try walk_nrm
  u_c stepG_region_end rl_trans hF
  u_reg rl_trans hF
  u_op rl_trans hF
  u_op rl_trans hF
  u_op rl_trans hF
  refine Goes.stop (fun w₁ h₁ => ?_)
  replace hF := rl_trans hF h₁
  clear h₁

  have hk2 := fun (x2 x3 x8 x9 x10 x11 x12 x13 x14 x15 x16 x17 x18 x22 x23 x24 x25 x26 x27 x28 x29 x30 x31 x32 x33 x34 x35 x36 x37 x38 x39 x40 x41 x42 x43 x44 x45 x46 x47 x48 x49 x50 x51 x52 x53 x54 x55 x56 x57 x58 x59 x60 x61 x62 x63 x64 x65 x66 x67 x68 x69 x70 x71 x72 x73 : Value) (e8 : x8 = .int .i64 i) (e9 : x9 = v9) (e12 : x12 = .chan (some ch)) (e57 : x57 = v10) (e58 : x58 = .chan (some ch)) (e59 : x59 = m.sl) => (hn w₁ (fun n => match n with | 2 => x2 | 3 => x3 | 8 => x8 | 9 => x9 | 10 => x10 | 11 => x11 | 12 => x12 | 13 => x13 | 14 => x14 | 15 => x15 | 16 => x16 | 17 => x17 | 18 => x18 | 22 => x22 | 23 => x23 | 24 => x24 | 25 => x25 | 26 => x26 | 27 => x27 | 28 => x28 | 29 => x29 | 30 => x30 | 31 => x31 | 32 => x32 | 33 => x33 | 34 => x34 | 35 => x35 | 36 => x36 | 37 => x37 | 38 => x38 | 39 => x39 | 40 => x40 | 41 => x41 | 42 => x42 | 43 => x43 | 44 => x44 | 45 => x45 | 46 => x46 | 47 => x47 | 48 => x48 | 49 => x49 | 50 => x50 | 51 => x51 | 52 => x52 | 53 => x53 | 54 => x54 | 55 => x55 | 56 => x56 | 57 => x57 | 58 => x58 | 59 => x59 | 60 => x60 | 61 => x61 | 62 => x62 | 63 => x63 | 64 => x64 | 65 => x65 | 66 => x66 | 67 => x67 | 68 => x68 | 69 => x69 | 70 => x70 | 71 => x71 | 72 => x72 | 73 => x73 | _ => undef) e8 e9 e12 e57 e58 e59 ((hF.blk m.Wg hOW).trans hW7) (hR7.trans (hF.but m.Wg)))
  exact hk2 _ _ _ _ _ _ _ _ _ _ _ _ _ _ _ _ _ _ _ _ _ _ _ _ _ _ _ _ _ _ _ _ _ _ _ _ _ _ _ _ _ _ _ _ _ _ _ _ _ _ _ _ _ _ _ _ _ _ _ _ _ _ _ _ _ rfl rfl rfl rfl rfl rfl

set_option maxRecDepth 100000 in
/-- The go statement itself. -/
theorem atG_spawn (m : MS) (cs : List Frame) (i : Nat) (j : Nat → Value) (s : WS) (hN : s.N = m.N) (hrs : s.rs = m.rs) (hW : s.Wg = m.Wg) (h57 : j 57 = .pointer (some ⟨s.g, 0, none⟩)) (h58 : j 58 = .chan (some s.c)) (h59 : j 59 = m.sl) :
    ∃ g', (∀ w₁, stepG Try.prog true (m.atG cs i j) w₁ = .spawn g' s.born w₁ #[]) ∧ ∀ {Ev : Own → Event → Prop} {Stop : Pos → Prop} {O : Own} {w : World}, (∀ w₁, Rely O w w₁ → Run Try.prog true Ev Stop ⟨O, 0, m.at16 cs i j, w₁⟩) → Run Try.prog true Ev Stop ⟨O, 0, g', w⟩ := by
  refine ⟨G ((base 32).at ⟨m.tmps i j, []⟩ [.inRegion (opsIn (restOf (restOf (restOf (newOf code11))))) [], .code code16, .inBlock 1, .code (code17 mLoop), .inLoop mLoop, .inBlock 0, .code mRest]) cs, fun w₁ => ?_, fun hk => ?_⟩
  · unfold MS.atG WS.born
    simp only [code11, code16, newOf, opsIn, mLoop, firstLoop, mRest, behind, code7, code17, restOf, Try.f32, Option.getD_some, MS.tmps, MS.ps, MS.sl, h57, h58, h59]
    have := stepG_spawn (P := Try.prog) (main := true) (w := w₁) (b := base 32) (cs := cs) (i := 3) (rest := []) (d := ⟨.fn (.func 53) #[], #[.pointer (some ⟨s.g, 0, none⟩), .chan (some s.c), s.sl, .pointer (some ⟨s.Wg, 0, none⟩)]⟩) (f := .func 53) (c := #[]) (w' := w₁) (ops := opsIn (restOf (restOf (restOf (newOf code11))))) (o := (opsIn (restOf (restOf (restOf (newOf code11)))))[3]!) (a := ⟨m.tmps i j, []⟩) (k := [.code code16, .inBlock 1, .code (code17 mLoop), .inLoop mLoop, .inBlock 0, .code mRest]) (by simp only [code11, newOf, opsIn, mLoop, firstLoop, code7, restOf, Try.f32, Option.getD_some]; rfl) (by simp only [code11, newOf, opsIn, mLoop, firstLoop, code7, restOf, Try.f32, Option.getD_some]; rfl) (by k_ne) (by
      simp only [code11, newOf, opsIn, mLoop, firstLoop, code7, restOf, Try.f32, Option.getD_some, MS.tmps, MS.ps, MS.sl, WS.sl, hN, hrs, hW]
      simp [go_sem, h57, h58, h59, MS.sl]) rfl
    simp only [code11, code16, newOf, opsIn, mLoop, firstLoop, mRest, behind, code7, code17, restOf, Try.f32, Option.getD_some, MS.tmps, MS.ps, MS.sl, h57, h58, h59] at this
    rw [this]
    rfl
  · unfold MS.at16 at hk
    refine Run.ctl rfl (fun _ => stepG_region_end) ?_
    exact hk _ (Rely.refl _ _)

end Go.Proofs.Ytgpplekabohneaa.Co

namespace Go.Proofs.Ytgpplekabohneaa.Co
open Go Go.Conc
open Go.ChangeMaps (setBlock)

theorem ev_getObj_iter {P : Program} {w : World} {r : Nat} {m : Option Nat} {s c : Nat} {seen : Array Nat} {evs : Array Event} (h : w.heap[r]? = some (.mapIter m s seen c)) : (getObj r).events P w evs = evs.push ⟨.obj r, false, false⟩ := by
  show ((Sem.getObj r pure).runT P w evs).2 = _
  simp only [Sem.runT, h]
  rfl
theorem run_getObj_iter {P : Program} {w : World} {r : Nat} {m : Option Nat} {s c : Nat} {seen : Array Nat} (h : w.heap[r]? = some (.mapIter m s seen c)) : (getObj r).run P w = .ok (.mapIter m s seen c) w := by
  simp [getObj, Sem.run, h]
theorem ev_setObj_iter {P : Program} {w : World} {r : Nat} {m m' : Option Nat} {s c s' c' : Nat} {seen seen' : Array Nat} {evs : Array Event} (h : w.heap[r]? = some (.mapIter m s seen c)) : (setObj r (.mapIter m' s' seen' c')).events P w evs = evs.push ⟨.obj r, true, false⟩ := by
  show ((Sem.setObj r (.mapIter m' s' seen' c') (pure ())).runT P w evs).2 = _
  simp only [Sem.runT, h]
  rfl
theorem ev_choose {P : Program} {w : World} {q : Question} {evs : Array Event} : (choose q).events P w evs = evs := by
  show ((Sem.choose q pure).runT P w evs).2 = _
  unfold Sem.runT
  split <;> rfl

theorem choose_heap {P : Program} {w w' : World} {q : Question} {j : Nat} (h : (choose q).run P w = .ok j w') : w'.heap = w.heap := by
  simp only [choose, Sem.run] at h
  split at h <;> (cases h; rfl)

/-- What 'next' lists. -/
def NextEv (r bm : Nat) (evs : Array Event) : Prop := ∀ e ∈ evs, (∃ wr, e = ⟨.obj r, wr, false⟩) ∨ e = ⟨.obj bm, false, false⟩

theorem ev_next {P : Program} (w : World) (ty : TypeId) (r bm since c0 : Nat) (seen : Array Nat) (es : Array MapEntry) (clock : Nat)
    (hr : w.heap[r]? = some (.mapIter (some bm) since seen c0)) (hb : w.heap[bm]? = some (.map es clock)) (hold : ∀ x ∈ es.toList, x.born < since) (hsc : since ≤ c0) :
    NextEv r bm ((Instr.next (.pointer (some ⟨r, 0, none⟩)) false ty).events P w #[]) := by
  unfold Instr.next
  simp only [Sem.events_bind, run_getObj_iter hr, ev_getObj_iter hr, Result.evThen_ok, MapKept.run_getObj_map hb, ev_getObj_map hb, next_test_false seen es since c0 hold hsc, Bool.false_eq_true, if_false]
  have base : NextEv r bm ((#[].push (⟨.obj r, false, false⟩ : Event)).push ⟨.obj bm, false, false⟩) := by
    intro e he
    simp at he
    rcases he with rfl | rfl
    · exact .inl ⟨_, rfl⟩
    · exact .inr rfl
  generalize (#[].push (⟨.obj r, false, false⟩ : Event)).push ⟨.obj bm, false, false⟩ = evs at base
  simp only [ev_choose]
  cases hch : (choose (Question.mapNext ((if (Array.filter (fun (x : MapEntry) => decide (x.born < since)) (Array.filter (fun (e : MapEntry) => !seen.contains e.born) es)).isEmpty = true then #[none] else #[]) ++ Array.map some (Array.filter (fun (x : MapEntry) => decide (x.born < since)) (Array.filter (fun (e : MapEntry) => !seen.contains e.born) es) ++ Array.filter (fun (x : MapEntry) => decide (x.born ≥ since)) (Array.filter (fun (e : MapEntry) => !seen.contains e.born) es))).size)).run P w with
  | halt h w' => exact base
  | ok j w' =>
    have hw' : w'.heap = w.heap := choose_heap hch
    simp only [Result.evThen_ok]
    split
    · rename_i e _
      simp only [Sem.events_bind, ev_setObj_iter (w := w') (by rw [hw']; exact hr)]
      intro x hx
      cases hs : (setObj r (.mapIter (some bm) since (seen.push e.born) clock)).run P w' with
      | halt h w'' =>
        rw [hs] at hx
        simp only [Result.evThen] at hx
        rcases Array.mem_push.1 hx with y | y
        · exact base x y
        · exact .inl ⟨_, y⟩
      | ok u w'' =>
        rw [hs] at hx
        simp only [Result.evThen_ok, Sem.events_pure] at hx
        rcases Array.mem_push.1 hx with y | y
        · exact base x y
        · exact .inl ⟨_, y⟩
    · exact base
    · exact base

theorem ev_entry {P : Program} (w : World) (r bm since : Nat) (seen : Array Nat) (es : Array MapEntry) (clock : Nat) (e : MapEntry)
    (hr : w.heap[r]? = some (.mapIter (some bm) since (seen.push e.born) clock)) (hb : w.heap[bm]? = some (.map es clock)) : NextEv r bm ((Instr.entry (.pointer (some ⟨r, 0, none⟩))).events P w #[]) := by
  unfold Instr.entry
  simp only [Sem.events_bind, run_getObj_iter hr, ev_getObj_iter hr, Result.evThen_ok, Array.back?_push, MapKept.run_getObj_map hb, ev_getObj_map hb, bne_self_eq_false, Bool.false_eq_true, if_false]
  have base : NextEv r bm ((#[].push (⟨.obj r, false, false⟩ : Event)).push ⟨.obj bm, false, false⟩) := by
    intro e he
    simp at he
    rcases he with rfl | rfl
    · exact .inl ⟨_, rfl⟩
    · exact .inr rfl
  split <;> exact base

theorem op_range {a : Act} {o : Oper} {x : Operand} {r : Nat} {es : Array MapEntry} {clock : Nat} {w : World} (hop : o.op = .range 115 x) (hx : a.eval x = .map (some r)) (hr : w.heap[r]? = some (.map es clock)) :
    (execOp a.eval o).run Try.prog w = .ok (.value (.pointer (some ⟨w.heap.size, 0, none⟩))) (w.alloc (.mapIter (some r) clock #[] clock)) ∧ (execOp a.eval o).events Try.prog w #[] = #[⟨.obj r, false, false⟩] := by
  have h1 := run_range_map (P := Try.prog) w 115 _ _ r es clock Try.underlying115 hr
  unfold execOp
  simp only [hop, hx]
  refine ⟨by simp [h1], ?_⟩
  have h2 : (Instr.range 115 (.map (some r))).events Try.prog w #[] = #[⟨.obj r, false, false⟩] := by
    unfold Instr.range
    simp [run_underlying Try.underlying115, MapKept.run_getObj_map hr, ev_getObj_map hr]
  simpa [h1] using h2

theorem op_next {a : Act} {o : Oper} {x : Operand} {r bm since c0 : Nat} {seen : Array Nat} {es : Array MapEntry} {clock : Nat} {w : World} (hop : o.op = .next x false) (hx : a.eval x = .pointer (some ⟨r, 0, none⟩))
    (hr : w.heap[r]? = some (.mapIter (some bm) since seen c0)) (hb : w.heap[bm]? = some (.map es clock)) (hold : ∀ x ∈ es.toList, x.born < since) (hsc : since ≤ c0) :
    (((leftOf es seen).size = 0 ∧ (execOp a.eval o).run Try.prog w = .ok (.value (.tuple #[.bool false])) w) ∨
    ∃ e ∈ (leftOf es seen).toList, ∃ w1 : World, (w1 = w ∨ w1 = w.drew) ∧ (execOp a.eval o).run Try.prog w = .ok (.value (.tuple #[.bool true, e.key, e.val])) (setBlock w1 r (.mapIter (some bm) since (seen.push e.born) clock))) ∧
    NextEv r bm ((execOp a.eval o).events Try.prog w #[]) := by
  have h2 := ev_next (P := Try.prog) w o.type r bm since c0 seen es clock hr hb hold hsc
  unfold execOp
  simp only [hop, hx]
  rcases run_next_at (P := Try.prog) w o.type r bm since c0 seen es clock hr hb hold hsc with ⟨h0, hrun⟩ | ⟨e, he, w1, hal, hrun⟩
  · exact ⟨.inl ⟨h0, by simp [hrun]⟩, by simpa [hrun] using h2⟩
  · exact ⟨.inr ⟨e, he, w1, hal, by simp [hrun]⟩, by simpa [hrun] using h2⟩

theorem op_entry {a : Act} {o : Oper} {x : Operand} {r bm since : Nat} {seen : Array Nat} {es : Array MapEntry} {clock : Nat} {e : MapEntry} {w : World} (hop : o.op = .entry x) (hx : a.eval x = .pointer (some ⟨r, 0, none⟩))
    (hr : w.heap[r]? = some (.mapIter (some bm) since (seen.push e.born) clock)) (hb : w.heap[bm]? = some (.map es clock)) (he : e ∈ es.toList) (hn : (es.toList.map (·.born)).Nodup) :
    (execOp a.eval o).run Try.prog w = .ok (.value (.tuple #[e.key, e.val])) w ∧ NextEv r bm ((execOp a.eval o).events Try.prog w #[]) := by
  have h1 := run_entry_at (P := Try.prog) w r bm since seen es clock e hr hb he hn
  have h2 := ev_entry (P := Try.prog) w r bm since seen es clock e hr hb
  unfold execOp
  simp only [hop, hx]
  exact ⟨by simp [h1], by simpa [h1] using h2⟩

theorem shaped_iter {w : World} {r : Nat} {o : Obj} {m : Option Nat} {s c : Nat} {seen : Array Nat} (h : w.heap[r]? = some (.mapIter m s seen c)) : Shaped w (setBlock w r o) := by
  intro x cs e f hx
  have : x ≠ r := fun y => by subst y; rw [h] at hx; cases hx
  exact ⟨cs, (setBlock_ne this).trans hx, rfl⟩

theorem guar_iter {O : Own} {w : World} {r : Nat} {o : Obj} {m : Option Nat} {s c : Nat} {seen : Array Nat} (hO : O.B r) (h : w.heap[r]? = some (.mapIter m s seen c)) : Guar O O w (setBlock w r o) := by
  refine ⟨Nat.le_of_eq (setBlock_size w r o).symm, rfl, rfl, rfl, fun _ h => .inl h, fun _ _ h => h, fun _ h => h, fun b _ hb _ => setBlock_ne (fun e => hb (e ▸ hO)), fun b o' _ hb _ => ?_, shaped_iter h⟩
  unfold World.cell?
  dsimp only
  rw [setBlock_ne (x := b) (fun e => hb (e ▸ hO))]
theorem rely_iter {O : Own} {w : World} {r : Nat} {o : Obj} {m : Option Nat} {s c : Nat} {seen : Array Nat} (h : w.heap[r]? = some (.mapIter m s seen c)) (hB : ¬ O.B r) (hC : ∀ o, ¬ O.C r o) (hX : ¬ O.X r) : Rely O w (setBlock w r o) := by
  refine ⟨Nat.le_of_eq (setBlock_size w r o).symm, rfl, rfl, rfl, fun b hb => setBlock_ne (r := r) (x := b) (fun e => hB (e ▸ hb)), fun b o' hb => ?_, shaped_iter h, fun b hb ⟨st, sm, y⟩ => ⟨st, sm, (setBlock_ne (r := r) (x := b) (fun e => hX (e ▸ hb))).trans y⟩⟩
  unfold World.cell?
  dsimp only
  rw [setBlock_ne (r := r) (x := b) (fun e => hC o' (e ▸ hb))]

theorem guar_iter' {O : Own} {w w1 : World} {r : Nat} {o : Obj} {m : Option Nat} {s c : Nat} {seen : Array Nat} (hO : O.B r) (h : w.heap[r]? = some (.mapIter m s seen c)) (hal : w1 = w ∨ w1 = w.drew) : Guar O O w (setBlock w1 r o) := by
  have g := guar_iter (o := o) hO h
  rcases hal with rfl | rfl
  · exact g
  · exact ⟨g.size, rfl, rfl, rfl, g.own, g.ownC, g.ownX, g.blk, g.cell, g.shape⟩
theorem rely_iter' {O : Own} {w w1 : World} {r : Nat} {o : Obj} {m : Option Nat} {s c : Nat} {seen : Array Nat} (h : w.heap[r]? = some (.mapIter m s seen c)) (hal : w1 = w ∨ w1 = w.drew) (hB : ¬ O.B r) (hC : ∀ o, ¬ O.C r o) (hX : ¬ O.X r) : Rely O w (setBlock w1 r o) := by
  have g := rely_iter (o := o) h hB hC hX
  rcases hal with rfl | rfl
  · exact g
  · exact ⟨g.size, rfl, rfl, rfl, g.blk, g.cell, g.shape, g.live⟩

/-- What the loop over the queues stands on. -/
structure Iter (q : Nat) (O : Own) (w : World) (it since c0 clock : Nat) (seen : Array Nat) (es : Array MapEntry) : Prop where
  hit : w.heap[it]? = some (.mapIter (some q) since seen c0)
  hq : w.heap[q]? = some (.map es clock)
  sc : since ≤ c0
  Oi : O.B it
  Oq : O.B q
  ne : it ≠ q

theorem Iter.rely {q : Nat} {O : Own} {w w₁ : World} {it since c0 clock : Nat} {seen : Array Nat} {es : Array MapEntry} (h : Iter q O w it since c0 clock seen es) (hr : Rely O w w₁) : Iter q O w₁ it since c0 clock seen es :=
  ⟨(hr.blk it h.Oi).trans h.hit, (hr.blk q h.Oq).trans h.hq, h.sc, h.Oi, h.Oq, h.ne⟩

/-- All but the iterator. -/
def Own.but (O : Own) (it : Nat) : Own := ⟨fun b => O.B b ∧ b ≠ it, fun b o => O.C b o ∧ b ≠ it, fun b => O.X b ∧ b ≠ it⟩

section
variable {main : Bool} {Ev : Own → Event → Prop} {Stop : Pos → Prop} {O : Own} {d : Nat} {w : World} {b : Frame} {a : Act} {k : List Item} {cs : List Frame} {ops : Array Oper} {i : Nat} {rest : List Nat} {o : Oper} {Z : Nat → Prop} {q it since c0 clock : Nat} {seen : Array Nat} {es : Array MapEntry} {x : Operand}

theorem Run.nextM (hEo : LetsObj Ev Z) (ho : ops[i]? = some o) (hw : Region.wanted o (yielded ops a.tmps) = true) (hk : b.kind ≠ .early) (hop : o.op = .next x false) (hx : a.eval x = .pointer (some ⟨it, 0, none⟩)) (hI : Iter q O w it since c0 clock seen es) (hZi : ¬ Z it) (hZq : ¬ Z q) (hold : ∀ x ∈ es.toList, x.born < since) (hcl : since ≤ clock)
    (hdone : (leftOf es seen).size = 0 → ∀ w₁, Rely O w w₁ → Run Try.prog main Ev Stop ⟨O, d, G (b.at (a.put o.dst (.tuple #[.bool false])) (.inRegion ops rest :: k)) cs, w₁⟩)
    (hmore : ∀ e w₁ w₂, e ∈ (leftOf es seen).toList → Rely O w w₁ → Iter q O w₂ it since clock clock (seen.push e.born) es → Rely (O.but it) w₁ w₂ → Run Try.prog main Ev Stop ⟨O, d, G (b.at (a.put o.dst (.tuple #[.bool true, e.key, e.val])) (.inRegion ops rest :: k)) cs, w₂⟩) :
    Run Try.prog main Ev Stop ⟨O, d, G (b.at a (.inRegion ops (i :: rest) :: k)) cs, w⟩ := by
  refine Run.oper ho hw hk fun w₁ h₁ => ?_
  have hI1 := hI.rely h₁
  obtain ⟨hrun, hev⟩ := op_next (w := w₁) hop hx hI1.hit hI1.hq hold hI1.sc
  have evs : ∀ e ∈ (execOp a.eval o).events Try.prog w₁ #[], Ev O e ∧ Plainly e := fun e he => by
    rcases hev e he with ⟨wr, rfl⟩ | rfl
    · exact ⟨hEo O it wr hI1.Oi hZi, by simp [Plainly]⟩
    · exact ⟨hEo O q false hI1.Oq hZq, by simp [Plainly]⟩
  rcases hrun with ⟨h0, hr⟩ | ⟨e, he, w1, hal, hr⟩
  · exact ⟨_, _, O, hr, Guar.refl O w₁, evs, hdone h0 w₁ h₁⟩
  · have hlt : it < w1.heap.size := by
      have := (Array.getElem?_eq_some_iff.1 hI1.hit).1
      rcases hal with rfl | rfl <;> exact this
    refine ⟨_, _, O, hr, guar_iter' hI1.Oi hI1.hit hal, evs, hmore e w₁ _ he h₁ ⟨setBlock_eq hlt, ?_, hcl, hI1.Oi, hI1.Oq, hI1.ne⟩ (rely_iter' hI1.hit hal (fun x => x.2 rfl) (fun o x => x.2 rfl) (fun x => x.2 rfl))⟩
    rw [setBlock_ne (Ne.symm hI1.ne)]
    rcases hal with rfl | rfl <;> exact hI1.hq

theorem Run.entryM (hEo : LetsObj Ev Z) (ho : ops[i]? = some o) (hw : Region.wanted o (yielded ops a.tmps) = true) (hk : b.kind ≠ .early) (hop : o.op = .entry x) (hx : a.eval x = .pointer (some ⟨it, 0, none⟩)) {e : MapEntry} (hI : Iter q O w it since clock clock (seen.push e.born) es) (hZi : ¬ Z it) (hZq : ¬ Z q) (he : e ∈ es.toList) (hn : (es.toList.map (·.born)).Nodup)
    (hmore : ∀ w₁, Rely O w w₁ → Run Try.prog main Ev Stop ⟨O, d, G (b.at (a.put o.dst (.tuple #[e.key, e.val])) (.inRegion ops rest :: k)) cs, w₁⟩) :
    Run Try.prog main Ev Stop ⟨O, d, G (b.at a (.inRegion ops (i :: rest) :: k)) cs, w⟩ := by
  refine Run.oper ho hw hk fun w₁ h₁ => ?_
  have hI1 := hI.rely h₁
  obtain ⟨hrun, hev⟩ := op_entry (w := w₁) hop hx hI1.hit hI1.hq he hn
  refine ⟨_, _, O, hrun, Guar.refl O w₁, fun e he => ?_, hmore w₁ h₁⟩
  rcases hev e he with ⟨wr, rfl⟩ | rfl
  · exact ⟨hEo O it wr hI1.Oi hZi, by simp [Plainly]⟩
  · exact ⟨hEo O q false hI1.Oq hZq, by simp [Plainly]⟩
end

end Go.Proofs.Ytgpplekabohneaa.Co
