/- 'checkBatch', walked. · 'Batch' up to its goroutines, or back with an error. · The library's group under this program's numbers. -/
import Derived.Test.YtgpplekabohneaaWg
import Derived.Deep.LoopGhost
import Derived.Test.YtgpplekabohneaaYak
import Derived.Test.YtgpplekabohneaaChecked
import Derived.Conc.WgGenN3
namespace Go.Proofs.Ytgpplekabohneaa
open Go Go.RowKit

/-- a row of packets -/
def PkAt (w : World) (b off : Nat) (l : List Pk) : Prop := ∀ i (h : i < l.length), ∀ j v, (pkC l[i])[j]? = some v → w.cell? ⟨b, off + i * 15 + j, none⟩ = some v

theorem PkAt.below {w w' : World} {b off : Nat} {l : List Pk} (h : PkAt w b off l) {B : Nat} (hb : Below B w w') (hB : b < B) : PkAt w' b off l :=
  fun i hi j v hv => (hb.cell (p := ⟨b, _, none⟩) hB).trans (h i hi j v hv)

set_option maxHeartbeats 4000000 in
set_option maxRecDepth 100000 in
theorem checkBatch_any (a : Option Addr) (n cap : Nat) (ps : List Pk) (w : World) (hn : n = ps.length) (hl : n ≤ 200) (hc : n ≤ cap) (hm : cap ≤ maxLen) (hP : 0 < n → ∃ g off, a = some ⟨g, off, none⟩ ∧ g < w.heap.size ∧ PkAt w g off ps) :
    Calls Try.prog 31 #[.slice a n cap] w fun e w' => e = .returned (.int .i64 (if ps.all goodB then 0 else 4)) ∧ Below w.heap.size w w' := by
  obtain ⟨rr, hr⟩ : ∃ rr : Int, (if ps.all goodB then (0 : Int) else 4) = rr := ⟨_, rfl⟩
  rw [hr]
  have HR := hide hr
  have HN := hide hn
  have HE := hide hP
  unfold maxLen at hm
  clear hn hP hr
  go_enter Try.func31, Try.ntmps31
  go_wp2_with fail
  go_loopg [10] n (fun k i wr => ∃ j : Nat, j ≤ n ∧ k = n - j ∧ i = .int .i64 j ∧ (∀ q ∈ ps.take j, goodB q = true) ∧ Below w.heap.size w wr)
  case atStart => exact ⟨0, Nat.zero_le _, by omega, rfl, by simp, Below.refl _ _⟩
  case round =>
    obtain ⟨j, hj, hk, rfl, hg, hbl⟩ := hrel
    have HK := hide hk
    have HB := hide hbl
    have HG := hide hg
    have hsz := hbl.size
    clear hk hbl hg
    by_cases hlt : j < n
    · obtain ⟨g, off, rfl, hgl, hA⟩ := unhide HE (by omega)
      have hjl : j < ps.length := by have := unhide HN; omega
      have hcell := (hA.below (unhide HB) hgl) j hjl
      have hgr : g < wr.heap.size := by omega
      have HM : Hid (ps[j] ∈ ps) := List.getElem_mem hjl
      have HT : Hid (ps.take (j + 1) = ps.take j ++ [ps[j]]) := List.take_succ_eq_append_getElem hjl
      generalize ps[j] = p at *
      have HC := fun w => hide (isPacket_any p w)
      obtain ⟨bg, hbg⟩ : ∃ bg, goodB p = bg := ⟨_, rfl⟩
      rw [hbg] at HC
      obtain ⟨tg, proto, out, sa, sp, da, dp, syn, fin, rst, err, qsa, qsp, qda, qdp⟩ := p
      have c0 := hcell 0 (.int .i64 tg) rfl
      have c1 := hcell 1 (.int .i64 proto) rfl
      have c2 := hcell 2 (.bool out) rfl
      have c3 := hcell 3 (.int .i64 sa) rfl
      have c4 := hcell 4 (.int .i64 sp) rfl
      have c5 := hcell 5 (.int .i64 da) rfl
      have c6 := hcell 6 (.int .i64 dp) rfl
      have c7 := hcell 7 (.bool syn) rfl
      have c8 := hcell 8 (.bool fin) rfl
      have c9 := hcell 9 (.bool rst) rfl
      have c10 := hcell 10 (.bool err) rfl
      have c11 := hcell 11 (.int .i64 qsa) rfl
      have c12 := hcell 12 (.int .i64 qsp) rfl
      have c13 := hcell 13 (.int .i64 qda) rfl
      have c14 := hcell 14 (.int .i64 qdp) rfl
      rw [Nat.add_zero] at c0
      have HBG := hide hbg
      dsimp only [pkC] at HC
      clear hcell hA HE hbg
      cases bg with
      | false =>
        have e4 : (4 : Int) = rr := by
          have hf : ps.all goodB = false := by
            rw [← Bool.not_eq_true, List.all_eq_true]
            intro h
            have := h _ (unhide HM)
            rw [unhide HBG] at this
            cases this
          rw [← unhide HR, hf]; rfl
        subst e4
        clear HR HM HT HG HBG HN HK
        go_wp2_with (go_at_call 28; go_loud (refine (unhide (HC _)).mono ?_; rintro e w3 ⟨rfl, hb3⟩; have HB3 := hide hb3; clear hb3))
        go_ret
        refine ⟨rfl, ?_⟩
        exact (unhide HB).trans (((Below.refl _ _).alloc (Nat.le_refl _) _ |>.trans ((unhide HB3).mono (by simp))).mono hsz)
      | true =>
        go_wp2_with (go_at_call 28; go_loud (refine (unhide (HC _)).mono ?_; rintro e w3 ⟨rfl, hb3⟩; have HB3 := hide hb3; clear hb3))
        go_roundg (n - (j + 1))
        case measure => have := unhide HK; omega
        case rel =>
          refine ⟨j + 1, by omega, rfl, by go_num, ?_, ?_⟩
          · intro q hq
            rw [unhide HT] at hq
            rcases List.mem_append.1 hq with h | h
            · exact unhide HG q h
            · rw [List.mem_singleton.1 h]; exact unhide HBG
          · exact (unhide HB).trans (((Below.refl _ _).alloc (Nat.le_refl _) _ |>.trans ((unhide HB3).mono (by simp))).mono hsz)
    · have hjn : j = n := by omega
      have HA : Hid (ps.all goodB = true) := by
        have h := unhide HG
        rw [hjn, unhide HN, List.take_length] at h
        exact List.all_eq_true.2 h
      subst hjn
      clear HG HE HN HK
      go_wp2_with fail
      go_ret
      have e0 : (0 : Int) = rr := by rw [← unhide HR, unhide HA]; rfl
      subst e0
      exact ⟨rfl, unhide HB⟩

end Go.Proofs.Ytgpplekabohneaa

namespace Go.Proofs.Ytgpplekabohneaa.Co
open Go Go.Conc Go.ConcN Go.RowKit

section
variable {P : Program} {Shun : Loc → Prop} {K D : Nat → Prop} {Z : Nat → Option Obj} {F : FuncId → Prop} {Tp : Nat → Trace → Prop} {n : Nat} {b : Frame} {a : Go.Act} {k : List Item} {cs : List Frame} {w : World} {m : Machine} {t : Trace} {R : Machine → Trace → Prop}

theorem Be.cond (E : Env P F Shun K n Tp b) {c : Operand} {x y : Code} {v : Bool} (hc : a.eval c = .bool v) (hb : Be P Shun K D Z Tp n (b.at a (.code (.cond c x y) :: k)) cs w m t) (h : ∀ m t, Be P Shun K D Z Tp n (b.at a (.code (if v then x else y) :: k)) cs w m t → Reaches P m t R) : Reaches P m t R :=
  hb.ctl E.shun E.tr (fun _ => stepG_cond hc) h

theorem Be.skip (E : Env P F Shun K n Tp b) (hb : Be P Shun K D Z Tp n (b.at a (.code .skip :: k)) cs w m t) (h : ∀ m t, Be P Shun K D Z Tp n (b.at a k) cs w m t → Reaches P m t R) : Reaches P m t R :=
  hb.ctl E.shun E.tr (fun _ => by simp [G, stepG, stepG.exec, Frame.at]) h

/-- A copy. -/
theorem Be.move (E : Env P F Shun K n Tp b) {ops : Array Oper} {i : Nat} {o : Oper} {rest : List Nat} {x : Operand} {v : Value} (ho : ops[i]? = some o) (hg : o.guard = none) (hop : o.op = .move x) (hx : a.eval x = v) (hd : a.defers = [])
    (hb : Be P Shun K D Z Tp n (b.at a (.inRegion ops (i :: rest) :: k)) cs w m t)
    (h : ∀ m t, Be P Shun K D Z Tp n (b.at (a.put o.dst v) (.inRegion ops rest :: k)) cs w m t → Reaches P m t R) : Reaches P m t R := by
  refine hb.op E ho (by simp [Region.wanted, hg]) (by rw [hop]; trivial) hd (fun T d => ?_) h
  subst hx
  unfold execOp
  rw [hop]
  rfl

theorem run_enter {ev : Operand → Value} (hfn : ∀ f, ev (.func f) = .func (.func f) #[] #[]) {o : Oper} {f : FuncId} {fn : Func} {args : Array Operand} {ts : Array TypeId} (hop : o.op = .call ⟨.value (.func f), args, ts⟩) (h1 : P.funcs[f]? = some fn) (h2 : (fn.name == "runtime.NumGoroutine") = false) (h3 : fn.body.isNone = false) (w : World) : (execOp ev o).run P w = .ok (.enter f (args.map ev)) w := by
  unfold execOp
  rw [hop]
  show (do let d ← resolve ev ⟨.value (.func f), args, ts⟩ o.type; invoke d.target d.args : Sem Next).run P w = .ok (.enter f (args.map ev)) w
  unfold resolve
  dsimp only
  rw [hfn f]
  show (Sem.program _).run P w = _
  simp [Sem.run, Sem.bind, h1, h2, h3, pure]

/-- A call that is entered. -/
theorem Be.into (E : Env P F Shun K n Tp b) {ops : Array Oper} {i : Nat} {o : Oper} {rest : List Nat} {f : FuncId} {fn : Func} {args : Array Operand} {ts : Array TypeId} {vs : Array Value} (ho : ops[i]? = some o) (hg : o.guard = none) (hop : o.op = .call ⟨.value (.func f), args, ts⟩) (h1 : P.funcs[f]? = some fn) (h2 : (fn.name == "runtime.NumGoroutine") = false) (h3 : fn.body.isNone = false) (hvs : args.map a.eval = vs) (hd : a.defers = [])
    (hb : Be P Shun K D Z Tp n (b.at a (.inRegion ops (i :: rest) :: k)) cs w m t)
    (h : ∀ m t, Be P Shun K D Z Tp n (Frame.enter P f vs .normal) (b.at a (.inRegion ops (i :: rest) :: k) :: cs) w m t → Reaches P m t R) : Reaches P m t R := by
  refine hb.enter E ho (by simp [Region.wanted, hg]) (by rw [hop]; exact ⟨trivial, fn, h1, h2, h3⟩) hd (fun T d => ?_) h
  subst hvs
  exact run_enter (fun f => rfl) hop h1 h2 h3 _
end

/-! ### the pieces of 'Batch' -/
def c23 (i : Nat) (F : Func := Try.f23) : Code := restC (F.body.getD .skip) i
def h23 (i : Nat) (F : Func := Try.f23) : Code := fstC (c23 i F)
def thenC : Code → Code
  | .cond _ x _ => x
  | c => c
def regOps : Code → Array Oper
  | .region _ ops _ => ops
  | _ => #[]
def r231 (F : Func := Try.f23) : Code := fstC (h23 1 F)
def r232 (F : Func := Try.f23) : Code := fstC (sndC (h23 1 F))
def r233 (F : Func := Try.f23) : Code := fstC (thenC (sndC (sndC (h23 1 F))))
def o23 (F : Func := Try.f23) : Array Oper := regOps (h23 2 F)
theorem c23_0 : c23 0 = .seq (h23 0) (c23 1) := by kernel_rfl
theorem c23_1 : c23 1 = .seq (.seq r231 (.seq r232 (.cond (.tmp 10) (.seq r233 .ret) .skip))) (c23 2) := by kernel_rfl
theorem c23_2 : c23 2 = .seq (.region 4 o23 false) .ret := by kernel_rfl
theorem h230_ok : CodeOk2 Try.prog TF (h23 0) := codeB2_sound (by kernel_rfl)
theorem r231_ok : CodeOk2 Try.prog TF r231 := codeB2_sound (by kernel_rfl)
theorem r232_ok : CodeOk2 Try.prog TF r232 := codeB2_sound (by kernel_rfl)
theorem r233_ok : CodeOk2 Try.prog TF r233 := codeB2_sound (by kernel_rfl)
theorem enter23 (args : Array Value) : Frame.enter Try.prog 23 args .normal = (noF 23).at ⟨args ++ Array.replicate (Try.f23.ntmps - args.size) undef, []⟩ [.code (c23 0)] :=
  enter_at2 Try.func23 rfl args

section
variable {Shun : Loc → Prop} {K D : Nat → Prop} {Z : Nat → Option Obj} {Tp : Nat → Trace → Prop} {nn : Nat} {c : Frame} {cs : List Frame} {m : Machine} {t : Trace} {R : Machine → Trace → Prop}

set_option maxHeartbeats 4000000 in
set_option maxRecDepth 100000 in
theorem batch_head (E : Env Try.prog TF Shun K nn Tp (noF 23)) {W : World} (b : Nat) (a : Option Addr) (n cap : Nat) (ps : List Pk) (hn : n = ps.length) (hl : n ≤ 200) (hc : n ≤ cap) (hm : cap ≤ maxLen) (hP : 0 < n → ∃ g off, a = some ⟨g, off, none⟩ ∧ g < W.heap.size ∧ PkAt W g off ps)
    (hgood : Hid (ps.all goodB = true → ∀ (a' : Go.Act) (W' : World), a'.defers = [] → a'.tmps.size = 15 → a'.tmps.getD 0 undef = .pointer (some ⟨b, 0, none⟩) → a'.tmps.getD 1 undef = .slice a n cap → (∃ T d, Below W.heap.size (tp W T d) W') → ∀ m t, Be Try.prog Shun K D Z Tp nn ((noF 23).at a' [.code (c23 2)]) (c :: cs) W' m t → Reaches Try.prog m t R))
    (hbad : Hid (ps.all goodB = false → ∀ W', (∃ T d, Below W.heap.size (tp W T d) W') → ∀ m t, Be Try.prog Shun K D Z Tp nn (c.finish (.tuple #[.slice none 0 0, .int .i64 4])) cs W' m t → Reaches Try.prog m t R))
    (hb : Be Try.prog Shun K D Z Tp nn (Frame.enter Try.prog 23 #[.pointer (some ⟨b, 0, none⟩), .slice a n cap] .normal) (c :: cs) W m t) : Reaches Try.prog m t R := by
  have HA := hide (And.intro hn (And.intro hl (And.intro hc hm)))
  have HP0 := hide hP
  clear hn hl hc hm hP
  rw [enter23, c23_0] at hb
  simp only [Try.ntmps23, List.size_toArray, List.length_cons, List.length_nil, Nat.reduceAdd, Nat.reduceSub, Array.replicate_succ, Array.replicate_zero, List.push_toArray, List.append_toArray, List.nil_append, List.cons_append] at hb
  refine hb.walk E h230_ok rfl fun T d Q hQ => ?_
  clear hb
  simp only [h23, fstC, c23, restC, Try.f23, Option.getD_some]
  go_wp2_with fail
  intro m t hb
  replace hb := hb.untp
  clear T d
  rw [c23_1] at hb
  refine hb.seq E fun m t hb => ?_
  refine hb.walk E r231_ok rfl fun T d Q hQ => ?_
  clear hb
  simp only [r231, h23, fstC, c23, restC, sndC, Try.f23, Option.getD_some]
  have HP : Hid (0 < n → ∃ g off, a = some ⟨g, off, none⟩ ∧ g < (tp W T d).heap.size ∧ PkAt (tp W T d) g off ps) := HP0
  obtain ⟨gb, hgb⟩ : ∃ gb, ps.all goodB = gb := ⟨_, rfl⟩
  rw [hgb] at hgood hbad
  go_wp2_with fail
  refine (checkBatch_any a n cap ps (tp W T d) (unhide HA).1 (unhide HA).2.1 (unhide HA).2.2.1 (unhide HA).2.2.2 (unhide HP)).mono ?_
  rintro e W' ⟨rfl, hb1⟩
  rw [hgb]
  have HB : Hid (∃ T d, Below W.heap.size (tp W T d) W') := ⟨T, d, hb1⟩
  clear hb1 HP HP0 HA
  cases gb with
  | true =>
    simp only [if_true]
    go_wp2_with fail
    intro m t hb
    refine hb.walk E r232_ok rfl fun T2 d2 Q hQ => ?_
    clear hb
    simp only [r232, h23, fstC, c23, restC, sndC, Try.f23, Option.getD_some]
    go_wp2_with fail
    intro m t hb
    replace hb := hb.untp
    refine hb.cond E (v := false) rfl fun m t hb => ?_
    simp only [Bool.false_eq_true, if_false] at hb
    refine hb.skip E fun m t hb => ?_
    exact unhide hgood (by first | rfl | trivial) _ W' rfl rfl rfl rfl (unhide HB) m t hb
  | false =>
    simp only [Bool.false_eq_true, if_false]
    go_wp2_with fail
    intro m t hb
    refine hb.walk E r232_ok rfl fun T2 d2 Q hQ => ?_
    clear hb
    simp only [r232, h23, fstC, c23, restC, sndC, Try.f23, Option.getD_some]
    go_wp2_with fail
    intro m t hb
    replace hb := hb.untp
    refine hb.cond E (v := true) rfl fun m t hb => ?_
    simp only [if_true] at hb
    refine hb.walk E r233_ok rfl fun T2 d2 Q hQ => ?_
    clear hb
    simp only [r233, thenC, h23, fstC, c23, restC, sndC, Try.f23, Option.getD_some]
    go_wp2_with fail
    intro m t hb
    replace hb := hb.untp
    refine hb.ret E (v := .tuple #[.slice none 0 0, .int .i64 4]) rfl Try.func23 (fun T d => ?_) fun m t hb => ?_
    · simp [results, Try.results23, go_sem]
    · exact unhide hbad (by first | rfl | trivial) W' (unhide HB) m t hb
end
end Go.Proofs.Ytgpplekabohneaa.Co

namespace Go.Proofs.Ytgpplekabohneaa.Co
open Go Go.Conc

abbrev link : Go.Conc.Lib.WgLink := { add := 52, done := 85, wait := 54, relMerge := 72, disable := 73, enable := 74, inBubble := 75, associate := 76, fatal := 77, uOr := 78, uAdd := 79, raceRead := 80, uLoad := 81, uStore := 82, disassociate := 83, semrelease := 84, acquire := 86, isAssociated := 87, uCas := 88, raceWrite := 89, semacquire := 90, orU64 := 106, addU64 := 107, loadU64 := 108, storeU64 := 109, casU64 := 110, tWgP := 129, tUP := 157, tAssoc := 158, tWg := 125, tAU := 122, tU64 := 120, tUint := 162, tU32 := 123, tPU32 := 163, tPAU := 183, tPU64 := 185, tNoCopy := 117, tANoCopy := 118, tAlign64 := 119 }

set_option maxRecDepth 100000 in
theorem wgLib : Go.Conc.Lib.WgLib Try.prog link :=
  ⟨Try.func52, Try.func85, Try.func54, Try.func72, Try.func73, Try.func74, Try.func75, Try.func76, Try.func77, Try.func78, Try.func79, Try.func80, Try.func81, Try.func82, Try.func83, Try.func84, Try.func86, Try.func87, Try.func88, Try.func89, Try.func90, Try.func106, Try.func107, Try.func108, Try.func109, Try.func110, Try.underlying129, Try.runUnderlying129, Try.sizeOf129, Try.isAgg129, Try.zeroValue129, Try.underlying157, Try.runUnderlying157, Try.sizeOf157, Try.isAgg157, Try.zeroValue157, Try.underlying158, Try.runUnderlying158, Try.sizeOf158, Try.isAgg158, Try.zeroValue158, Try.underlying125, Try.runUnderlying125, Try.sizeOf125, Try.isAgg125, Try.zeroValue125, Try.underlying122, Try.runUnderlying122, Try.sizeOf122, Try.isAgg122, Try.zeroValue122, Try.underlying120, Try.runUnderlying120, Try.sizeOf120, Try.isAgg120, Try.zeroValue120, Try.underlying162, Try.runUnderlying162, Try.sizeOf162, Try.isAgg162, Try.zeroValue162, Try.underlying123, Try.runUnderlying123, Try.sizeOf123, Try.isAgg123, Try.zeroValue123, Try.underlying163, Try.runUnderlying163, Try.sizeOf163, Try.isAgg163, Try.zeroValue163, Try.underlying183, Try.runUnderlying183, Try.sizeOf183, Try.isAgg183, Try.zeroValue183, Try.underlying185, Try.runUnderlying185, Try.sizeOf185, Try.isAgg185, Try.zeroValue185, Try.underlying0, Try.runUnderlying0, Try.sizeOf0, Try.isAgg0, Try.zeroValue0, Try.underlying3, Try.runUnderlying3, Try.sizeOf3, Try.isAgg3, Try.zeroValue3, Try.underlying4, Try.runUnderlying4, Try.sizeOf4, Try.isAgg4, Try.zeroValue4, Try.underlying9, Try.runUnderlying9, Try.sizeOf9, Try.isAgg9, Try.zeroValue9, Try.underlying20, Try.runUnderlying20, Try.sizeOf20, Try.isAgg20, Try.zeroValue20, Try.underlying21, Try.runUnderlying21, Try.sizeOf21, Try.isAgg21, Try.zeroValue21, (by kernel_rfl), (by kernel_rfl)⟩

end Go.Proofs.Ytgpplekabohneaa.Co
