/- 'Batched': the pieces behind its batches. · 'Batched', behind its first batch, to the end. · 'Batched', run: it comes to its end, and says true, on every tape. -/
import Derived.Test.YtgpplekabohneaaYaz
namespace Go.Proofs.Ytgpplekabohneaa.Co
open Go Go.Conc Go.ConcN Go.RowKit

def o11 (F : Func := Try.f12) : Array Oper := regOps (h12 7 F)
def o20 (F : Func := Try.f12) : Array Oper := regOps (h12 10 F)
theorem h12_7 : h12 7 = .region 11 o11 false := by kernel_rfl
theorem h12_10 : h12 10 = .region 20 o20 false := by kernel_rfl
theorem o11_size : List.range o11.size = [0, 1, 2, 3, 4, 5, 6, 7] := by kernel_rfl
theorem o20_size : List.range o20.size = [0, 1, 2, 3, 4, 5, 6, 7, 8, 9] := by kernel_rfl
theorem o11_0 : ∃ o, o11[0]? = some o ∧ o.guard = none ∧ o.op = .move (.tmp 5) ∧ o.dst = some 55 := ⟨_, rfl, rfl, rfl, rfl⟩
theorem o11_1 : ∃ o, o11[1]? = some o ∧ o.guard = none ∧ o.op = .move (.tmp 7) ∧ o.dst = some 56 := ⟨_, rfl, rfl, rfl, rfl⟩
theorem o11_2 : ∃ o, o11[2]? = some o ∧ o.guard = none ∧ o.op = .call ⟨.value (.func 23), #[.tmp 55, .tmp 56], #[27, 57]⟩ ∧ o.dst = some 57 := ⟨_, rfl, rfl, rfl, rfl⟩
theorem o20_0 : ∃ o, o20[0]? = some o ∧ o.guard = none ∧ o.op = .move (.tmp 5) ∧ o.dst = some 106 := ⟨_, rfl, rfl, rfl, rfl⟩
theorem o20_1 : ∃ o, o20[1]? = some o ∧ o.guard = none ∧ o.op = .call ⟨.value (.func 22), #[.const (.int .i64 1), .const (.int .i64 4), .const (.int .i64 5), .const (.int .i64 6)], #[3, 3, 3, 3]⟩ ∧ o.dst = some 107 := ⟨_, rfl, rfl, rfl, rfl⟩
theorem o20_2 : ∃ o, o20[2]? = some o ∧ o.guard = none ∧ o.op = .build 38 #[(0, .const (.int .i64 1))] ∧ o.dst = some 108 := ⟨_, rfl, rfl, rfl, rfl⟩
theorem o20_3 : ∃ o, o20[3]? = some o ∧ o.guard = none ∧ o.op = .buildSlice 57 2 #[(0, .tmp 107), (1, .tmp 108)] ∧ o.dst = some 109 := ⟨_, rfl, rfl, rfl, rfl⟩
theorem o20_4 : ∃ o, o20[4]? = some o ∧ o.guard = none ∧ o.op = .call ⟨.value (.func 23), #[.tmp 106, .tmp 109], #[27, 57]⟩ ∧ o.dst = some 110 := ⟨_, rfl, rfl, rfl, rfl⟩
theorem name23 : (Try.f23.name == "runtime.NumGoroutine") = false := by decide +kernel
theorem name22 : (Try.f22.name == "runtime.NumGoroutine") = false := by decide +kernel

theorem rest_ok {ops : Array Oper} {i : Nat} (h : ((ops.toList.drop i).all fun o => opB2 Try.prog tFns o.op) = true) : ∀ o ∈ ops.toList.drop i, OpOk2 Try.prog TF o.op := fun o ho => opB2_sound (List.all_eq_true.1 h o ho)
theorem rest_at (ops : Array Oper) (i : Nat) : ∀ j, (ops.toList.drop i)[j]? = ops[i + j]? := fun j => by rw [List.getElem?_drop, Array.getElem?_toList]

section
variable {Shun : Loc → Prop} {K D : Nat → Prop} {Z : Nat → Option Obj} {Tp : Nat → Trace → Prop} {nn : Nat} {m : Machine} {t : Trace} {R : Machine → Trace → Prop}

set_option maxHeartbeats 4000000 in
set_option maxRecDepth 100000 in
theorem after11 (E : Env Try.prog TF Shun K nn Tp (noF 12)) {W : World} (b1 b2 rs ro n cap : Nat) (a : Option Addr) {a' : Go.Act} (hd : a'.defers = []) (hsz : a'.tmps.size = 149) (v5 : a'.tmps.getD 5 undef = (.pointer (some ⟨b1, 0, none⟩))) (v6 : a'.tmps.getD 6 undef = (.pointer (some ⟨b2, 0, none⟩))) (v7 : a'.tmps.getD 7 undef = (.slice a n cap)) (v57 : a'.tmps.getD 57 undef = (.tuple #[.slice (some ⟨rs, ro, none⟩) n n, .int .i64 0]))
    (hnext : Hid (∀ a' : Go.Act, a'.defers = [] → a'.tmps.size = 149 → a'.tmps.getD 5 undef = (.pointer (some ⟨b1, 0, none⟩)) → a'.tmps.getD 6 undef = (.pointer (some ⟨b2, 0, none⟩)) → a'.tmps.getD 7 undef = .slice a n cap → a'.tmps.getD 9 undef = .slice (some ⟨rs, ro, none⟩) n n → a'.tmps.getD 10 undef = .int .i64 0 → ∀ m t, Be Try.prog Shun K D Z Tp nn ((noF 12).at a' [.code (c12 9)]) [] W m t → Reaches Try.prog m t R))
    (hb : Be Try.prog Shun K D Z Tp nn ((noF 12).at a' [.inRegion o11 [3, 4, 5, 6, 7], .code (c12 8)]) [] W m t) : Reaches Try.prog m t R := by
  obtain ⟨f, rfl, hf⟩ := arr149 a' hd hsz
  have w5 := (hf 5).trans v5
  have w6 := (hf 6).trans v6
  have w7 := (hf 7).trans v7
  have w57 := (hf 57).trans v57
  simp only [w5, w6, w7, w57] at hb
  clear hf hd hsz v5 v6 v7 v57
  refine hb.tail E (i := 3) (lo := o11.toList.drop 3) (by kernel_rfl) (rest_at _ _) (rest_ok (by kernel_rfl)) rfl fun T d Q hQ => ?_
  clear hb
  simp only [o11, regOps, h12, fstC, c12, restC, sndC, Try.f12, Option.getD_some, List.drop_succ_cons, List.drop_zero]
  go_wp2_with fail
  intro m t hb
  replace hb := hb.untp
  clear T d
  rw [c12_8] at hb
  refine hb.walk E (h12_ok 8 (by decide)) rfl fun T d Q hQ => ?_
  clear hb
  simp only [h12, fstC, c12, restC, sndC, Try.f12, Option.getD_some]
  go_wp2_with fail
  intro m t hb
  exact unhide hnext _ rfl rfl rfl rfl rfl rfl rfl m t hb.untp

set_option maxHeartbeats 4000000 in
set_option maxRecDepth 100000 in
theorem after20 (E : Env Try.prog TF Shun K nn Tp (noF 12)) {W : World} (b1 b2 : Nat) {a' : Go.Act} (hd : a'.defers = []) (hsz : a'.tmps.size = 149) (v5 : a'.tmps.getD 5 undef = (.pointer (some ⟨b1, 0, none⟩))) (v6 : a'.tmps.getD 6 undef = (.pointer (some ⟨b2, 0, none⟩))) (v110 : a'.tmps.getD 110 undef = (.tuple #[.slice none 0 0, .int .i64 4]))
    (hnext : Hid (∀ a' : Go.Act, a'.defers = [] → a'.tmps.size = 149 → a'.tmps.getD 5 undef = (.pointer (some ⟨b1, 0, none⟩)) → a'.tmps.getD 6 undef = (.pointer (some ⟨b2, 0, none⟩)) → a'.tmps.getD 15 undef = .slice none 0 0 → a'.tmps.getD 16 undef = .int .i64 4 → ∀ m t, Be Try.prog Shun K D Z Tp nn ((noF 12).at a' [.code (c12 11)]) [] W m t → Reaches Try.prog m t R))
    (hb : Be Try.prog Shun K D Z Tp nn ((noF 12).at a' [.inRegion o20 [5, 6, 7, 8, 9], .code (c12 11)]) [] W m t) : Reaches Try.prog m t R := by
  obtain ⟨f, rfl, hf⟩ := arr149 a' hd hsz
  have w5 := (hf 5).trans v5
  have w6 := (hf 6).trans v6
  have w110 := (hf 110).trans v110
  simp only [w5, w6, w110] at hb
  clear hf hd hsz v5 v6 v110
  refine hb.tail E (i := 5) (lo := o20.toList.drop 5) (by kernel_rfl) (rest_at _ _) (rest_ok (by kernel_rfl)) rfl fun T d Q hQ => ?_
  clear hb
  simp only [o20, regOps, h12, fstC, c12, restC, sndC, Try.f12, Option.getD_some, List.drop_succ_cons, List.drop_zero]
  go_wp2_with fail
  intro m t hb
  exact unhide hnext _ rfl rfl rfl rfl rfl rfl m t hb.untp

theorem inits12 : Try.prog.inits.idxOf? 12 = none := by kernel_rfl

set_option maxHeartbeats 4000000 in
set_option maxRecDepth 100000 in
theorem final12 (E : Env Try.prog TF Shun K nn Tp (noF 12)) {W : World} {a' : Go.Act} (hd : a'.defers = []) (hsz : a'.tmps.size = 149) (v15 : a'.tmps.getD 15 undef = (.slice none 0 0)) (v16 : a'.tmps.getD 16 undef = (.int .i64 4)) {Post : Value → World → Prop}
    (hpost : ∀ Y, Twin Try.prog K D (tp W Y.tape Y.drawn) Y → (∀ b, D b → Y.heap[b]? = Z b) → Post (.bool true) Y)
    (hb : Be Try.prog Shun K D Z Tp nn ((noF 12).at a' [.code (c12 12)]) [] W m t) : Reaches Try.prog m t (EndsR Try.prog Post) := by
  have HP := hide hpost
  clear hpost
  obtain ⟨f, rfl, hf⟩ := arr149 a' hd hsz
  have w15 := (hf 15).trans v15
  have w16 := (hf 16).trans v16
  simp only [w15, w16] at hb
  clear hf hd hsz v15 v16
  rw [c12_12] at hb
  refine hb.walk E (h12_ok 12 (by decide)) rfl fun T d Q hQ => ?_
  clear hb
  simp only [h12, fstC, c12, restC, sndC, Try.f12, Option.getD_some]
  go_wp2_with fail
  intro m t hb
  exact hb.untp.ends E rfl Try.func12 inits12 (r := 4) Try.results12 rfl (unhide HP)
end

end Go.Proofs.Ytgpplekabohneaa.Co

namespace Go.Proofs.Ytgpplekabohneaa.Co
open Go Go.Conc Go.ConcN Go.RowKit

def pkBad : Pk := ⟨1, 0, false, 0, 0, 0, 0, false, false, false, false, 0, 0, 0, 0⟩
theorem run_build (a : Go.Act) (o : Oper) (hop : o.op = .build 38 #[(0, .const (.int .i64 1))]) (w : World) : (execOp a.eval o).run Try.prog w = .ok (.value (.agg (pkC pkBad))) w := by
  unfold execOp
  rw [hop]
  go_simp
  rfl
set_option maxHeartbeats 1000000 in
theorem run_bslice (ev : Operand → Value) (o : Oper) (p q : Pk) (hop : o.op = .buildSlice 57 2 #[(0, .tmp 107), (1, .tmp 108)]) (h1 : ev (.tmp 107) = .agg (pkC p)) (h2 : ev (.tmp 108) = .agg (pkC q)) (w : World) : (execOp ev o).run Try.prog w = .ok (.value (.slice (some ⟨w.heap.size, 0, none⟩) 2 2)) (w.alloc (.cells (pkC p ++ pkC q) 38)) := by
  obtain ⟨tg, proto, out, sa, sp, da, dp, syn, fin, rst, err, qsa, qsp, qda, qdp⟩ := p
  obtain ⟨qtag, qproto, qout, qa, qp, qd, qe, qsyn, qfin, qrst, qerr, q1, q2, q3, q4⟩ := q
  dsimp only [pkC] at h1 h2
  unfold execOp
  rw [hop]
  simp only [List.map_toArray, List.map_cons, List.map_nil, h1, h2]
  go_simp
  rfl

/-- What is left to be said when the tables have been compared. -/
def EndOk (x0 : World) (D : Nat → Prop) (Z : Nat → Option Obj) (K : Nat → Prop) (Post : Value → World → Prop) : Prop :=
  ∀ (W : World), (∃ T d, Below x0.heap.size (tp x0 T d) W) → ∀ Y, Twin Try.prog K D (tp W Y.tape Y.drawn) Y → (∀ b, D b → Y.heap[b]? = Z b) → Post (.bool true) Y

section
variable {Shun : Loc → Prop} {K D : Nat → Prop} {Z : Nat → Option Obj} {nn : Nat} {m : Machine} {t : Trace} {Post : Value → World → Prop}

theorem hasT (t : Int) (s : Int) (ps : List Pk) (h : Fit (boxB (99 + s)) ps) (h1 : 1 ≤ t) (h3 : t ≤ 3) : ∃ T, (boxOf (boxB (99 + s)) ps).find? (isT t) = some (t, T) := by
  rw [boxOf_fin ps _ 0 h]
  have : t = 1 ∨ t = 2 ∨ t = 3 := by omega
  rcases this with rfl | rfl | rfl <;> exact ⟨_, rfl⟩

/-- From the tables to the end. -/
theorem stage11 (E : Env Try.prog TF Shun K nn (fun _ _ => True) (noF 12)) {x0 W : World} {F1 F2 : Nat → Prop} {b1 b2 : Nat} {B : List (Int × Tn)} (hC : ∃ T d, Two (tp x0 T d) W F1 F2 b1 b2 B B) (hfit : ∀ t : Int, 1 ≤ t → t ≤ 3 → ∃ T, B.find? (isT t) = some (t, T)) (hE : EndOk x0 D Z K Post)
    {a' : Go.Act} (hd : a'.defers = []) (hsz : a'.tmps.size = 149) (v5 : a'.tmps.getD 5 undef = (.pointer (some ⟨b1, 0, none⟩))) (v6 : a'.tmps.getD 6 undef = (.pointer (some ⟨b2, 0, none⟩))) (v15 : a'.tmps.getD 15 undef = .slice none 0 0) (v16 : a'.tmps.getD 16 undef = .int .i64 4)
    (hb : Be Try.prog Shun K D Z (fun _ _ => True) nn ((noF 12).at a' [.code (c12 11)]) [] W m t) : Reaches Try.prog m t (EndsR Try.prog Post) := by
  obtain ⟨f, rfl, hf⟩ := arr149 a' hd hsz
  have w5 := (hf 5).trans v5
  have w6 := (hf 6).trans v6
  have w15 := (hf 15).trans v15
  have w16 := (hf 16).trans v16
  simp only [w5, w6, w15, w16] at hb
  rw [c12_11] at hb
  refine hb.walk E (h12_ok 11 (by decide)) rfl fun T d Q hQ => ?_
  obtain ⟨T0, d0, h2⟩ := hC
  refine tables f (two_tp h2 T d d) hfit (hide fun a3 W3 hd3 hsz3 u15 u16 hbel => hQ a3 W3 fun _ m t hb3 => ?_)
  exact final12 E hd3 hsz3 u15 u16 (hE W3 ⟨T, d, hbel⟩) hb3

set_option maxRecDepth 100000 in
/-- The second batch: one is no packet. -/
theorem stage10 (E : Env Try.prog TF Shun K nn (fun _ _ => True) (noF 12)) {x0 W : World} {F1 F2 : Nat → Prop} {b1 b2 : Nat} {B : List (Int × Tn)} (hC : ∃ T d, Two (tp x0 T d) W F1 F2 b1 b2 B B) (hfit : ∀ t : Int, 1 ≤ t → t ≤ 3 → ∃ T, B.find? (isT t) = some (t, T)) (hE : EndOk x0 D Z K Post)
    {a' : Go.Act} (hd : a'.defers = []) (hsz : a'.tmps.size = 149) (v5 : a'.tmps.getD 5 undef = (.pointer (some ⟨b1, 0, none⟩))) (v6 : a'.tmps.getD 6 undef = (.pointer (some ⟨b2, 0, none⟩)))
    (hb : Be Try.prog Shun K D Z (fun _ _ => True) nn ((noF 12).at a' [.code (c12 10)]) [] W m t) : Reaches Try.prog m t (EndsR Try.prog Post) := by
  have E23 : Env Try.prog TF Shun K nn (fun _ _ => True) (noF 23) := env 23 Try.f23 Try.func23 E.shun E.tr
  rw [c12_10, h12_10] at hb
  refine hb.seq E fun m t hb => ?_
  refine hb.region E fun m t hb => ?_
  rw [o20_size] at hb
  obtain ⟨p0, e0, f0, g0, d0⟩ := o20_0
  obtain ⟨p1, e1, f1, g1, d1⟩ := o20_1
  obtain ⟨p2, e2, f2, g2, d2⟩ := o20_2
  obtain ⟨p3, e3, f3, g3, d3⟩ := o20_3
  obtain ⟨p4, e4, f4, g4, d4⟩ := o20_4
  refine hb.move E e0 f0 g0 (v := (.pointer (some ⟨b1, 0, none⟩))) v5 hd fun m t hb => ?_
  rw [d0] at hb
  obtain ⟨a1, ha1⟩ : ∃ a1, a'.put (some 106) (.pointer (some ⟨b1, 0, none⟩)) = a1 := ⟨_, rfl⟩
  have s1 : a1.tmps.size = 149 := by rw [← ha1, put_size]; exact hsz
  have hd1 : a1.defers = [] := by rw [← ha1]; exact hd
  have x106 : a1.eval (.tmp 106) = (.pointer (some ⟨b1, 0, none⟩)) := by rw [← ha1]; exact put_eq (by omega)
  have x5 : a1.eval (.tmp 5) = (.pointer (some ⟨b1, 0, none⟩)) := by rw [← ha1]; exact (put_ne (by decide)).trans v5
  have x6 : a1.eval (.tmp 6) = (.pointer (some ⟨b2, 0, none⟩)) := by rw [← ha1]; exact (put_ne (by decide)).trans v6
  rw [ha1] at hb
  clear ha1
  refine hb.callOp E (f := 22) (args := #[.int .i64 1, .int .i64 4, .int .i64 5, .int .i64 6]) (by decide) e1 (by simp [Region.wanted, f1]) (by rw [g1]; exact ⟨trivial, Try.f22, Try.func22, name22, rfl⟩) hd1 (fun T d => ?_) (fun T d => ?_)
  · have := run_enter (P := Try.prog) (ev := a1.eval) (fun f => rfl) g1 Try.func22 name22 rfl (tp W T d)
    simpa [Act.eval] using this
  refine (datagram_any 1 4 5 6 (tp W T d)).mono ?_
  rintro e W1 ⟨rfl, hb1⟩
  refine ⟨_, rfl, fun m t hb => ?_⟩
  have hC1 : ∃ T d, Two (tp x0 T d) W1 F1 F2 b1 b2 B B := by
    obtain ⟨T0, d0', h2⟩ := hC
    exact ⟨T, d, (two_tp h2 T d d).new hb1⟩
  clear hC hb1
  rw [d1] at hb
  obtain ⟨a2, ha2⟩ : ∃ a2, a1.put (some 107) (.agg (pkC (dgram 1 4 5 6))) = a2 := ⟨_, rfl⟩
  have s2 : a2.tmps.size = 149 := by rw [← ha2, put_size]; exact s1
  have hd2 : a2.defers = [] := by rw [← ha2]; exact hd1
  have y107 : a2.eval (.tmp 107) = .agg (pkC (dgram 1 4 5 6)) := by rw [← ha2]; exact put_eq (by omega)
  have y106 : a2.eval (.tmp 106) = (.pointer (some ⟨b1, 0, none⟩)) := by rw [← ha2]; exact (put_ne (by decide)).trans x106
  have y5 : a2.eval (.tmp 5) = (.pointer (some ⟨b1, 0, none⟩)) := by rw [← ha2]; exact (put_ne (by decide)).trans x5
  have y6 : a2.eval (.tmp 6) = (.pointer (some ⟨b2, 0, none⟩)) := by rw [← ha2]; exact (put_ne (by decide)).trans x6
  rw [ha2] at hb
  clear ha2
  refine hb.op E e2 (by simp [Region.wanted, f2]) (by rw [g2]; trivial) hd2 (w' := W1) (v := .agg (pkC pkBad)) (fun T d => run_build a2 p2 g2 _) fun m t hb => ?_
  rw [d2] at hb
  obtain ⟨a3, ha3⟩ : ∃ a3, a2.put (some 108) (.agg (pkC pkBad)) = a3 := ⟨_, rfl⟩
  have s3 : a3.tmps.size = 149 := by rw [← ha3, put_size]; exact s2
  have hd3 : a3.defers = [] := by rw [← ha3]; exact hd2
  have z108 : a3.eval (.tmp 108) = .agg (pkC pkBad) := by rw [← ha3]; exact put_eq (by omega)
  have z107 : a3.eval (.tmp 107) = .agg (pkC (dgram 1 4 5 6)) := by rw [← ha3]; exact (put_ne (by decide)).trans y107
  have z106 : a3.eval (.tmp 106) = (.pointer (some ⟨b1, 0, none⟩)) := by rw [← ha3]; exact (put_ne (by decide)).trans y106
  have z5 : a3.eval (.tmp 5) = (.pointer (some ⟨b1, 0, none⟩)) := by rw [← ha3]; exact (put_ne (by decide)).trans y5
  have z6 : a3.eval (.tmp 6) = (.pointer (some ⟨b2, 0, none⟩)) := by rw [← ha3]; exact (put_ne (by decide)).trans y6
  rw [ha3] at hb
  clear ha3
  obtain ⟨W2, hW2⟩ : ∃ W2, W1.alloc (.cells (pkC (dgram 1 4 5 6) ++ pkC pkBad) 38) = W2 := ⟨_, rfl⟩
  refine hb.op E e3 (by simp [Region.wanted, f3]) (by rw [g3]; trivial) hd3 (w' := W2) (v := .slice (some ⟨W1.heap.size, 0, none⟩) 2 2) (fun T d => by subst hW2; exact run_bslice a3.eval p3 _ _ g3 z107 z108 _) fun m t hb => ?_
  have hC2 : ∃ T d, Two (tp x0 T d) W2 F1 F2 b1 b2 B B := by
    obtain ⟨T0, d0', h2⟩ := hC1
    subst hW2
    exact ⟨T0, d0', h2.new (belowA _ _)⟩
  have hL : ListAt W2 (some ⟨W1.heap.size, 0, none⟩) 2 [dgram 1 4 5 6, pkBad] := by
    refine ⟨by simp, by unfold maxLen; omega, .inr ⟨W1.heap.size, _, rfl, by rw [← hW2]; exact blkN _ _ _ rfl, by simp [pkC], ?_⟩⟩
    simp [pksC, pkC]
  clear hC1 hW2
  rw [d3] at hb
  obtain ⟨a4, ha4⟩ : ∃ a4, a3.put (some 109) (.slice (some ⟨W1.heap.size, 0, none⟩) 2 2) = a4 := ⟨_, rfl⟩
  have s4 : a4.tmps.size = 149 := by rw [← ha4, put_size]; exact s3
  have hd4 : a4.defers = [] := by rw [← ha4]; exact hd3
  have t109 : a4.eval (.tmp 109) = .slice (some ⟨W1.heap.size, 0, none⟩) 2 2 := by rw [← ha4]; exact put_eq (by omega)
  have t106 : a4.eval (.tmp 106) = (.pointer (some ⟨b1, 0, none⟩)) := by rw [← ha4]; exact (put_ne (by decide)).trans z106
  have t5 : a4.eval (.tmp 5) = (.pointer (some ⟨b1, 0, none⟩)) := by rw [← ha4]; exact (put_ne (by decide)).trans z5
  have t6 : a4.eval (.tmp 6) = (.pointer (some ⟨b2, 0, none⟩)) := by rw [← ha4]; exact (put_ne (by decide)).trans z6
  rw [ha4] at hb
  clear ha4
  refine hb.into E e4 f4 g4 Try.func23 name23 rfl (vs := #[(.pointer (some ⟨b1, 0, none⟩)), .slice (some ⟨W1.heap.size, 0, none⟩) 2 2]) (by simp [t106, t109]) hd4 fun m t hb => ?_
  refine batch_head E23 b1 _ 2 2 [dgram 1 4 5 6, pkBad] rfl (by omega) (by omega) (by unfold maxLen; omega) hL.pkAt (hide fun h => ?_) (hide fun _ W3 hbel m t hb => ?_) hb
  · exact absurd h (by decide)
  obtain ⟨T3, d3', hbel⟩ := hbel
  have hC3 : ∃ T d, Two (tp x0 T d) W3 F1 F2 b1 b2 B B := by
    obtain ⟨T0, d0', h2⟩ := hC2
    exact ⟨T3, d3', (two_tp h2 T3 d3' d3').new hbel⟩
  rw [finish_op e4, d4] at hb
  exact after20 E b1 b2 (a' := a4.put (some 110) (.tuple #[.slice none 0 0, .int .i64 4])) hd4 (by rw [put_size]; exact s4) ((put_ne (by decide)).trans t5) ((put_ne (by decide)).trans t6) (put_eq (by omega)) (hide fun a5 hd5 hsz5 u5 u6 u15 u16 m t hb => stage11 E hC3 hfit hE hd5 hsz5 u5 u6 u15 u16 hb) hb

set_option maxRecDepth 100000 in
/-- From the first batch's return to the end. -/
theorem stage7 (E : Env Try.prog TF Shun K nn (fun _ _ => True) (noF 12)) {x0 W : World} {F1 F2 : Nat → Prop} {b1 b2 : Nat} {s : Int} {la : Option Addr} {lcap rs : Nat} {ps : List Pk} (hC : ∃ T d, Cmp (tp x0 T d) W F1 F2 b1 b2 (boxOf (boxB (99 + s)) ps) (boxB (99 + s)) la lcap rs 0 (boxB (99 + s)) ps) (hfit : Fit (boxB (99 + s)) ps) (hlen : ps.length ≤ 200) (hE : EndOk x0 D Z K Post)
    {a' : Go.Act} (hd : a'.defers = []) (hsz : a'.tmps.size = 149) (v5 : a'.tmps.getD 5 undef = (.pointer (some ⟨b1, 0, none⟩))) (v6 : a'.tmps.getD 6 undef = (.pointer (some ⟨b2, 0, none⟩))) (v7 : a'.tmps.getD 7 undef = .slice la ps.length lcap) (v57 : a'.tmps.getD 57 undef = .tuple #[.slice (some ⟨rs, 0, none⟩) ps.length ps.length, .int .i64 0])
    (hb : Be Try.prog Shun K D Z (fun _ _ => True) nn ((noF 12).at a' [.inRegion o11 [3, 4, 5, 6, 7], .code (c12 8)]) [] W m t) : Reaches Try.prog m t (EndsR Try.prog Post) := by
  refine after11 E b1 b2 rs 0 ps.length lcap la hd hsz v5 v6 v7 v57 (hide fun a' hd hsz v5 v6 v7 v9 v10 m t hb => ?_) hb
  obtain ⟨f, rfl, hf⟩ := arr149 a' hd hsz
  have w5 := (hf 5).trans v5
  have w6 := (hf 6).trans v6
  have w7 := (hf 7).trans v7
  have w9 := (hf 9).trans v9
  have w10 := (hf 10).trans v10
  simp only [w5, w6, w7, w9, w10] at hb
  rw [c12_9] at hb
  refine hb.walk E (h12_ok 9 (by decide)) rfl fun T d Q hQ => ?_
  obtain ⟨T0, d0, h2⟩ := hC
  refine compare f (cmp_tp h2 T d d) hfit rfl hlen (hide fun a3 W3 hd3 hsz3 u5 u6 hC3 => hQ a3 W3 fun _ m t hb3 => ?_)
  obtain ⟨F3, hC3⟩ := hC3
  exact stage10 E ⟨T, d, hC3.two⟩ (fun t h1 h3 => hasT t s ps hfit h1 h3) hE hd3 hsz3 u5 u6 hb3
end

end Go.Proofs.Ytgpplekabohneaa.Co

namespace Go.Proofs.Ytgpplekabohneaa.Co
open Go Go.Conc Go.ConcN Go.RowKit
open Classical

theorem cell_not_pending {w : World} {a : Addr} {v : Value} (h : w.cell? a = some v) : ∀ c t, w.heap[a.block]? ≠ some (.pending c t) := by
  intro c t e
  simp [World.cell?, e] at h

theorem evArg_blank {w : World} {a : Option Addr} {n cap : Nat} {l : List Ev} (h : EvArg w a n cap l) : EvArg (blank (deadOf (fun _ => False) w) w) a n cap l := by
  obtain ⟨h1, h2, h3, h4⟩ := h
  refine ⟨h1, h2, h3, fun h0 => ?_⟩
  obtain ⟨b, off, rfl, hb, hE⟩ := h4 h0
  refine ⟨b, off, rfl, by rw [blank_size]; exact hb, ?_⟩
  have hp := cell_not_pending (hE 0 (by omega)).1.1
  have hk : (blank (deadOf (fun _ => False) w) w).heap[b]? = w.heap[b]? := blank_live (by rintro (e | ⟨c, t, e⟩); exact e; exact hp c t e)
  have hc : ∀ o, (blank (deadOf (fun _ => False) w) w).cell? ⟨b, o, none⟩ = w.cell? ⟨b, o, none⟩ := fun o => by simp only [World.cell?, hk]
  intro i hi
  obtain ⟨⟨c0, c1, c2, c3, c4⟩, hr⟩ := hE i hi
  exact ⟨⟨(hc _).trans c0, (hc _).trans c1, (hc _).trans c2, (hc _).trans c3, (hc _).trans c4⟩, hr⟩

theorem boxB_fresh {s : Int} {C : List BC} (h : C.map (fun x => (x.tag, x.T)) = boxB (99 + s)) : ∀ x ∈ C, x.T.maps = [] := by
  intro x hx
  have : (x.tag, x.T) ∈ boxB (99 + s) := by rw [← h]; exact List.mem_map.2 ⟨x, hx, rfl⟩
  simp only [boxB, List.mem_cons, List.not_mem_nil, or_false, Prod.mk.injEq] at this
  rcases this with ⟨_, e⟩ | ⟨_, e⟩ | ⟨_, e⟩ <;> rw [e]

theorem fit_box {s : Int} {ps : List Pk} (h : ∀ p ∈ ps, PktOk p) : Fit (boxB (99 + s)) ps := by
  refine ⟨by simp [boxB], fun p hp => ⟨(h p hp).good, ?_⟩⟩
  have := (h p hp).tag
  have h3 : p.tag = 1 ∨ p.tag = 2 ∨ p.tag = 3 := by omega
  simp [boxB, h3]

/-- What is compared behind the batch. -/
theorem cmp_after {x0 W W' : World} {T : Nat → Question → Nat} {d : Nat} {F1 F2 : Nat → Prop} {b1 b2 r rs : Nat} {s : Int} {C0 C' : List BC} {la : Option Addr} {lcap : Nat} {ps : List Pk} (h2 : Two (tp x0 T d) W F1 F2 b1 b2 (boxB (99 + s)) (boxB (99 + s))) (hC : BoxC W b1 r C0) (hCB : C0.map (fun x => (x.tag, x.T)) = boxB (99 + s)) (hfoot : ∀ k, foot b1 r C0 k → F1 k) (hL : ListAt W la lcap ps) (hout : ∀ pb, la = some ⟨pb, 0, none⟩ → ¬ F1 pb ∧ ¬ F2 pb) (hfit : Fit (boxB (99 + s)) ps) (hA : After W W' b1 r rs (C0.map slim) C' ps) :
    ∃ T d, Cmp (tp x0 T d) W' (foot b1 r C') F2 b1 b2 (boxOf (boxB (99 + s)) ps) (boxB (99 + s)) la lcap rs 0 (boxB (99 + s)) ps := by
  obtain ⟨T', d', hfr⟩ := hA.fr
  have ht := two_tp h2 T' d' d'
  have inF : ∀ k, (∃ x ∈ C0.map slim, x.S k) → F1 k := by
    rintro k ⟨x, hx, hk⟩
    obtain ⟨y, hy, rfl⟩ := List.mem_map.1 hx
    exact hfoot k (.inr (.inr ⟨y, hy, slim_in hC hy hk⟩))
  have oldF : ∀ k, foot b1 r C' k → k < W.heap.size → F1 k := by
    rintro k (rfl | rfl | ⟨x, hx, hk⟩) hlt
    · exact hfoot _ (.inl rfl)
    · exact hfoot _ (.inr (.inl rfl))
    · exact inF k (hA.new x hx k hk hlt)
  have hsW : x0.heap.size ≤ W.heap.size := h2.st1.fr.size
  obtain ⟨cur, hr1, hr2⟩ := hA.row
  have hrsl : rs < W'.heap.size := (Array.getElem?_eq_some_iff.1 hr1).1
  have hbr : b1 < W.heap.size ∧ r < W.heap.size := by
    obtain ⟨es, c, e1, _⟩ := hC.map
    exact ⟨(Array.getElem?_eq_some_iff.1 hC.blk).1, (Array.getElem?_eq_some_iff.1 e1).1⟩
  have hB : C'.map (fun x => (x.tag, x.T)) = boxOf (boxB (99 + s)) ps := by
    rw [hA.same, boxOf_fin ps _ 0 hfit, ← hCB]
    simp [slim, Function.comp_def]
  have hfr' : Fr (fun k => (tp x0 T' d').heap.size ≤ k) (tp x0 T' d') W' := ht.st1.fr.trans' hfr (fun k hk _ => h2.st1.base k (inF k hk))
  refine ⟨T', d', ⟨⟨⟨r, C', hA.box, hB, fun k h => h, fun k hk => ?_⟩, fun k hk => ?_, hfr'⟩, ⟨ht.st2.box.keep hfr (fun k hk hx => h2.dis k (inF k hx) hk), h2.st2.base, hfr'⟩, fun k hk h2k => ?_⟩, ⟨hL.le, hL.max, ?_⟩, fun pb hpb => ⟨fun hk => ?_, (hout pb hpb).2⟩, ?_, hrsl, fun hk => ?_, fun hk => ?_⟩
  · rcases hk with rfl | rfl | ⟨x, hx, hk⟩
    · exact Nat.lt_of_lt_of_le hbr.1 hfr.size
    · exact Nat.lt_of_lt_of_le hbr.2 hfr.size
    · exact (hA.box.ten x hx).1.bound k hk
  · apply Classical.byContradiction
    intro hlt
    have e : (tp x0 T' d').heap.size = x0.heap.size := rfl
    have := h2.st1.base k (oldF k hk (by omega))
    have e2 : (tp x0 T d).heap.size = x0.heap.size := rfl
    omega
  · exact h2.dis k (oldF k hk (h2.st2.lt k h2k)) h2k
  · rcases hL.row with h | ⟨pb, cur, e0, e1, e2⟩
    · exact .inl h
    · exact .inr ⟨pb, cur, e0, (hfr.block pb (Array.getElem?_eq_some_iff.1 e1).1 (fun hx => (hout pb e0).1 (inF pb hx))).trans e1, e2⟩
  · rcases hL.row with ⟨e, _⟩ | ⟨pb', cur, e0, e1, _⟩
    · rw [e] at hpb; cases hpb
    · rw [e0] at hpb
      have : pb' = pb := by simpa using hpb
      subst this
      exact (hout pb' e0).1 (oldF pb' hk (Array.getElem?_eq_some_iff.1 e1).1)
  · intro j hj q v hq hv jj x hx
    obtain ⟨q', v', hp, y, hy, hm⟩ := pass_at hfit hj
    rw [hp] at hq hv
    dsimp only at hq hv
    subst hq hv
    rw [← hCB] at hy
    obtain ⟨z, hz, rfl⟩ := List.mem_map.1 hy
    have := hA.res (slim z) (List.mem_map.2 ⟨z, hz, rfl⟩) _ hm jj x hx
    dsimp only at this
    rw [show 0 + j * 16 + jj = 16 * j + jj by omega]
    exact this
  · rcases hk with rfl | rfl | ⟨x, hx, hk⟩
    · have := hA.fresh; omega
    · have := hA.fresh; omega
    · exact hA.nors x hx hk
  · have := h2.st2.lt rs hk
    have := hA.fresh
    omega

/-- What the run leaves behind. -/
def BatchedPost (W0 : World) (v : Value) (w' : World) : Prop := v = .bool true ∧ w'.os = W0.os ∧ w'.output = W0.output ∧ W0.heap.size ≤ w'.heap.size ∧ ∀ k, k < W0.heap.size → w'.heap[k]? = W0.heap[k]?

set_option maxRecDepth 100000 in
theorem batched_runs (W0 : World) (a : Option Addr) (n cap : Nat) (l : List Ev) (size : Int) (hA : EvArg W0 a n cap l) (hs : R64 size) :
    EndsR Try.prog (BatchedPost W0) (solo (G (Frame.enter Try.prog 12 #[.slice a n cap, .int .i64 size] .normal) []) W0) #[] := by
  refine reaches_end ?_
  have hSh : ShunIn (fun _ => False) (fun _ => False) := ⟨fun _ h => h, fun _ h => h⟩
  have E : Env Try.prog TF (fun _ => False) (fun _ => False) 1 (Tp 1) (noF 12) := env 12 Try.f12 Try.func12 hSh (tp_keeps (by omega))
  refine phase1 E a n cap l size (evArg_blank hA) (hide hs) (hide fun a' W b1 b2 s lv ps hd hsz v5 v6 v7 hM m t hb => ?_) (be_start W0 _)
  obtain ⟨T, d, F1, F2, h2, base, hrow, hout⟩ := hM.two
  have hfit : Fit (boxB (99 + s)) ps := fit_box hM.ok
  obtain ⟨la, lcap, rfl, hL, hlo⟩ : ∃ la lcap, lv = .slice la ps.length lcap ∧ ListAt W la lcap ps ∧ ∀ pb, la = some ⟨pb, 0, none⟩ → ¬ F1 pb ∧ ¬ F2 pb := by
    rcases hrow.2 with ⟨e, h0⟩ | ⟨g, cp, cur, e, hg, h3, h4, h5, h6, h7⟩
    · have hnil : ps = [] := List.length_eq_zero_iff.1 h0
      subst hnil
      exact ⟨none, 0, e, ⟨by simp, by unfold maxLen; omega, .inl ⟨rfl, rfl⟩⟩, fun pb h => by cases h⟩
    · refine ⟨some ⟨g, 0, none⟩, cp, e, ⟨h4, h5, .inr ⟨g, cur, rfl, h3, ?_, h7⟩⟩, fun pb h => ?_⟩
      · rw [h6]; have : ps.length * 15 ≤ cp * 15 := Nat.mul_le_mul_right 15 h4; omega
      · have : g = pb := by simpa using h
        subst this
        have := hout g (by rw [e]; rfl)
        exact ⟨this.1, this.2.1⟩
  obtain ⟨r, C0, hC, hCB, hfoot, hlt⟩ := h2.st1.box
  rw [c12_7, h12_7] at hb
  refine hb.seq E fun m t hb => ?_
  refine hb.region E fun m t hb => ?_
  rw [o11_size] at hb
  obtain ⟨p0, e0, f0, g0, d0⟩ := o11_0
  obtain ⟨p1, e1, f1, g1, d1⟩ := o11_1
  obtain ⟨p2, e2, f2, g2, d2⟩ := o11_2
  refine hb.move E e0 f0 g0 (v := .pointer (some ⟨b1, 0, none⟩)) v5 hd fun m t hb => ?_
  rw [d0] at hb
  refine hb.move E e1 f1 g1 (v := .slice la ps.length lcap) ((put_ne (by decide)).trans v7) hd fun m t hb => ?_
  rw [d1] at hb
  obtain ⟨a2, ha2⟩ : ∃ a2, (a'.put (some 55) (.pointer (some ⟨b1, 0, none⟩))).put (some 56) (.slice la ps.length lcap) = a2 := ⟨_, rfl⟩
  have s2 : a2.tmps.size = 149 := by rw [← ha2, put_size, put_size]; exact hsz
  have hd2 : a2.defers = [] := by rw [← ha2]; exact hd
  have x55 : a2.eval (.tmp 55) = .pointer (some ⟨b1, 0, none⟩) := by rw [← ha2]; exact (put_ne (by decide)).trans (put_eq (by omega))
  have x56 : a2.eval (.tmp 56) = .slice la ps.length lcap := by rw [← ha2]; exact put_eq (by rw [put_size]; omega)
  have x5 : a2.eval (.tmp 5) = .pointer (some ⟨b1, 0, none⟩) := by rw [← ha2]; exact (put_ne (by decide)).trans ((put_ne (by decide)).trans v5)
  have x6 : a2.eval (.tmp 6) = .pointer (some ⟨b2, 0, none⟩) := by rw [← ha2]; exact (put_ne (by decide)).trans ((put_ne (by decide)).trans v6)
  have x7 : a2.eval (.tmp 7) = .slice la ps.length lcap := by rw [← ha2]; exact (put_ne (by decide)).trans ((put_ne (by decide)).trans v7)
  rw [ha2] at hb
  clear ha2
  refine hb.into E e2 f2 g2 Try.func23 name23 rfl (vs := #[.pointer (some ⟨b1, 0, none⟩), .slice la ps.length lcap]) (by simp [x55, x56]) hd2 fun m t hb => ?_
  refine batch_first (by omega) hC (boxB_fresh hCB) hM.len (fun p hp => (hM.ok p hp).good) hL (fun pb hpb hf => (hlo pb hpb).1 (hfoot pb hf)) (fun Shun K' D' Z' n' W' rs C' hSh' hAf hrel m t hb => ?_) hb
  rw [finish_op e2, d2] at hb
  have E' : Env Try.prog TF Shun K' n' (fun _ _ => True) (noF 12) := env 12 Try.f12 Try.func12 hSh' any_keeps
  refine stage7 E' (x0 := blank (deadOf (fun _ => False) W0) W0) (cmp_after h2 hC hCB hfoot hL hlo hfit hAf) hfit hM.len ?_ (a' := a2.put (some 57) (.tuple #[.slice (some ⟨rs, 0, none⟩) ps.length ps.length, .int .i64 0])) hd2 (by rw [put_size]; exact s2) ((put_ne (by decide)).trans x5) ((put_ne (by decide)).trans x6) ((put_ne (by decide)).trans x7) (put_eq (by omega)) hb
  -- the end
  rintro We ⟨Te, de, hbel⟩ Y hT hZ
  have hsz0 : (blank (deadOf (fun _ => False) W0) W0).heap.size = W0.heap.size := blank_size
  have hsW : W0.heap.size ≤ W.heap.size := by
    have := h2.st1.fr.size
    have e : (tp (blank (deadOf (fun _ => False) W0) W0) T d).heap.size = (blank (deadOf (fun _ => False) W0) W0).heap.size := rfl
    omega
  have hse : (blank (deadOf (fun _ => False) W0) W0).heap.size ≤ We.heap.size := hbel.size
  have hTs : We.heap.size = Y.heap.size := hT.sz
  refine ⟨rfl, (hT.os.symm.trans hbel.os), hT.output.symm.trans hbel.output, by omega, fun k hk => ?_⟩
  have hold : We.heap[k]? = (blank (deadOf (fun _ => False) W0) W0).heap[k]? := hbel.block k (by omega)
  have hns : ∀ x ∈ C0, ¬ x.S k := fun x hx hk' => by
    have := h2.st1.base k (hfoot k (.inr (.inr ⟨x, hx, hk'⟩)))
    have e : (tp (blank (deadOf (fun _ => False) W0) W0) T d).heap.size = (blank (deadOf (fun _ => False) W0) W0).heap.size := rfl
    omega
  obtain ⟨r1, r2⟩ := hrel k (by omega) hns
  rcases Classical.em (deadOf (fun _ => False) W0 k) with hd0 | hd0
  · rw [hZ k (r1.2 hd0), r2 hd0]
  · rw [← hT.live k (fun h => hd0 (r1.1 h))]
    show We.heap[k]? = _
    rw [hold, blank_live hd0]

end Go.Proofs.Ytgpplekabohneaa.Co
