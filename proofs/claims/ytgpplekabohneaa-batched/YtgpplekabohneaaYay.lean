/- 'Batch', called: from the call to the return, beside nobody. · 'Batch', called beside nobody: from the call to the return. · A batch is its packets, one by one. -/
import Derived.Test.YtgpplekabohneaaYax
namespace Go.Proofs.Ytgpplekabohneaa.Co
open Go Go.Conc Go.ConcN Go.RowKit

/-! ### the trace -/
theorem tp_keeps {K : Nat → Prop} {n : Nat} (hn : 0 < n) : TrKeeps K n (Tp n) := by
  refine ⟨fun {t fn pos es N N'} h hN he => ⟨fun j op hj => ?_, fun j a ha => ?_, fun a => (h.rel a).app fun op hop e => ?_⟩, fun h hm => h.mute hm⟩
  · rcases getElem?_append_cases hj with ⟨_, h'⟩ | ⟨_, h'⟩
    · exact h.gs j op h'
    · rw [ops_g op h']; exact hn
  · rcases (touch_cases ha).2 with ⟨_, h'⟩ | ⟨_, op, h1, _, h2⟩
    · exact ⟨Loc.low_mono hN (h.low j a h').1, (h.low j a h').2⟩
    · obtain ⟨e, he', rfl⟩ := Go.Conc.mem_ofEvents h1
      have hev := he e he'
      dsimp only at h2
      obtain ⟨loc, wr, sy⟩ := e
      cases loc with
      | cell ad =>
        simp only [MemAct.ofEvent, MemAct.touch?, Option.some.injEq] at h2
        subst h2
        exact ⟨hev.1.2, rfl⟩
      | obj b =>
        have hw : ¬ (wr = true ∧ sy = true) := fun hh => by have := hev.2 hh.1; simp [hh.2] at this
        cases wr <;> cases sy <;> first | exact absurd ⟨rfl, rfl⟩ hw | (simp only [MemAct.ofEvent, MemAct.touch?, Option.some.injEq] at h2; subst h2; exact ⟨hev.1.2, rfl⟩)
      | mark mk =>
        cases mk with
        | noRoom => simp [MemAct.ofEvent, MemAct.touch?] at h2
        | _ => exact hev.elim
      | _ => exact hev.elim
  · obtain ⟨x, hx, rfl⟩ := Go.Conc.mem_ofEvents hop
    have h1 := he x hx
    have h2 := Go.ConcR.loc_of_ofEvent e
    obtain ⟨loc, wr, sy⟩ := x
    dsimp only at h2
    subst h2
    exact h1.elim

theorem any_keeps {K : Nat → Prop} {n : Nat} : TrKeeps K n (fun _ _ => True) := ⟨fun _ _ _ => trivial, fun _ _ => trivial⟩

/-! ### slots -/
theorem put_ne {a : Go.Act} {i j : Nat} {v : Value} (h : i ≠ j) : (a.put (some i) v).eval (.tmp j) = a.eval (.tmp j) := by
  simp [Act.put, Act.eval, Array.getD_eq_getD_getElem?, Array.getElem?_setIfInBounds_ne h]
theorem put_eq {a : Go.Act} {i : Nat} {v : Value} (h : i < a.tmps.size) : (a.put (some i) v).eval (.tmp i) = v := by
  simp [Act.put, Act.eval, Array.getD_eq_getD_getElem?, Array.getElem?_setIfInBounds_self_of_lt h]
theorem put_size {a : Go.Act} {i : Nat} {v : Value} : (a.put (some i) v).tmps.size = a.tmps.size := by simp [Act.put]

section
variable {P : Program} {Shun : Loc → Prop} {K D : Nat → Prop} {Z : Nat → Option Obj} {F : FuncId → Prop} {Tp : Nat → Trace → Prop} {n : Nat} {b : Frame} {a : Go.Act} {k : List Item} {cs : List Frame} {w : World} {m : Machine} {t : Trace} {R : Machine → Trace → Prop}

theorem Be.assign (E : Env P F Shun K n Tp b) {ops : Array Oper} {i : Nat} {o : Oper} {rest : List Nat} {x : Operand} {v : Value} (ho : ops[i]? = some o) (hg : o.guard = none) (hop : o.op = .assign x) (hx : a.eval x = v) (hd : a.defers = [])
    (hb : Be P Shun K D Z Tp n (b.at a (.inRegion ops (i :: rest) :: k)) cs w m t)
    (h : ∀ m t, Be P Shun K D Z Tp n (b.at (a.put o.dst v) (.inRegion ops rest :: k)) cs w m t → Reaches P m t R) : Reaches P m t R := by
  refine hb.op E ho (by simp [Region.wanted, hg]) (by rw [hop]; trivial) hd (fun T d => ?_) h
  subst hx
  unfold execOp
  rw [hop]
  rfl
end

theorem env (f : FuncId) (fn : Func) (hf : Try.prog.funcs[f]? = some fn) {Shun : Loc → Prop} {K : Nat → Prop} {n : Nat} {Tp : Nat → Trace → Prop} (h1 : ShunIn Shun K) (h2 : TrKeeps K n Tp) : Env Try.prog TF Shun K n Tp (noF f) :=
  ⟨tFns_ok, h1, h2, ⟨fn, hf⟩, rfl⟩

theorem name32 : (Try.f32.name == "runtime.NumGoroutine") = false := by decide +kernel
theorem o23_size : List.range o23.size = [0, 1, 2, 3, 4] := by kernel_rfl
theorem o23_0 : ∃ o, o23[0]? = some o ∧ o.guard = none ∧ o.op = .move (.tmp 0) ∧ o.dst = some 12 := ⟨_, rfl, rfl, rfl, rfl⟩
theorem o23_1 : ∃ o, o23[1]? = some o ∧ o.guard = none ∧ o.op = .move (.tmp 1) ∧ o.dst = some 13 := ⟨_, rfl, rfl, rfl, rfl⟩
theorem o23_2 : ∃ o, o23[2]? = some o ∧ o.guard = none ∧ o.op = .call ⟨.value (.func 32), #[.tmp 12, .tmp 13], #[27, 57]⟩ ∧ o.dst = some 14 := ⟨_, rfl, rfl, rfl, rfl⟩
theorem o23_3 : ∃ o, o23[3]? = some o ∧ o.guard = none ∧ o.op = .assign (.tmp 14) ∧ o.dst = some 4 := ⟨_, rfl, rfl, rfl, rfl⟩
theorem o23_4 : ∃ o, o23[4]? = some o ∧ o.guard = none ∧ o.op = .assign (.const (.int .i64 0)) ∧ o.dst = some 5 := ⟨_, rfl, rfl, rfl, rfl⟩

end Go.Proofs.Ytgpplekabohneaa.Co

namespace Go.Proofs.Ytgpplekabohneaa.Co
open Go Go.Conc Go.ConcN Go.RowKit
open Classical

/-- The list of packets that is handed in. -/
structure ListAt (W : World) (a : Option Addr) (cap : Nat) (ps : List Pk) : Prop where
  le : ps.length ≤ cap
  max : cap ≤ maxLen
  row : (a = none ∧ ps = []) ∨ ∃ pb cur, a = some ⟨pb, 0, none⟩ ∧ W.heap[pb]? = some (.cells cur 38 (0, 0)) ∧ 15 * ps.length ≤ cur.size ∧ cur.toList.take (ps.length * 15) = pksC ps

theorem pksC_at : ∀ (l : List Pk) (i : Nat) (h : i < l.length), ((pksC l).drop (i * 15)).take 15 = (pkC l[i]).toList
  | p :: l, 0, _ => by
    simp only [pksC, List.flatMap_cons, Nat.zero_mul, List.drop_zero]
    rw [List.take_append_of_le_length (by simp [pkC]), List.take_of_length_le (by simp [pkC])]
    rfl
  | p :: l, i + 1, h => by
    have := pksC_at l i (by simpa using h)
    simp only [pksC, List.flatMap_cons] at this ⊢
    rw [show (i + 1) * 15 = (pkC p).toList.length + i * 15 by simp [pkC]; omega, List.drop_append]
    simp only [List.getElem_cons_succ]
    have e : List.drop ((pkC p).toList.length + i * 15) (pkC p).toList = [] := List.drop_eq_nil_of_le (by omega)
    rw [e, List.nil_append, show (pkC p).toList.length + i * 15 - (pkC p).toList.length = i * 15 by omega]
    exact this

theorem list_piece {cur : Array Value} {ps : List Pk} (h : cur.toList.take (ps.length * 15) = pksC ps) {i : Nat} (hi : i < ps.length) : ((cur.toList.drop (i * 15)).take 15) = (pkC ps[i]).toList := by
  rw [← pksC_at ps i hi, ← h, List.drop_take, List.take_take]
  congr 1
  omega

theorem ListAt.pkAt {W : World} {a : Option Addr} {cap : Nat} {ps : List Pk} (h : ListAt W a cap ps) : 0 < ps.length → ∃ g off, a = some ⟨g, off, none⟩ ∧ g < W.heap.size ∧ PkAt W g off ps := by
  intro h0
  rcases h.row with ⟨_, rfl⟩ | ⟨pb, cur, rfl, h1, h2, h3⟩
  · simp at h0
  · refine ⟨pb, 0, rfl, (Array.getElem?_eq_some_iff.1 h1).1, fun i hi j v hv => ?_⟩
    have hj : j < 15 := by
      have := (Array.getElem?_eq_some_iff.1 hv).1
      simpa [pkC] using this
    have := list_piece h3 hi
    have e : (pkC ps[i]).toList[j]? = cur.toList[i * 15 + j]? := by
      rw [← this, List.getElem?_take_of_lt hj, List.getElem?_drop]
    simp only [World.cell?, h1]
    rw [Nat.zero_add]
    have e2 : cur[i * 15 + j]? = some v := by
      rw [← Array.getElem?_toList, ← e, Array.getElem?_toList]
      exact hv
    simpa using e2

theorem ListAt.below {W W' : World} {a : Option Addr} {cap : Nat} {ps : List Pk} (h : ListAt W a cap ps) (hb : ∀ k, k < W.heap.size → W'.heap[k]? = W.heap[k]?) : ListAt W' a cap ps := by
  refine ⟨h.le, h.max, ?_⟩
  rcases h.row with h | ⟨pb, cur, h0, h1, h2⟩
  · exact .inl h
  · exact .inr ⟨pb, cur, h0, (hb pb (Array.getElem?_eq_some_iff.1 h1).1).trans h1, h2⟩

theorem boxC_below {W W' : World} {b r : Nat} {C : List BC} (h : BoxC W b r C) {T : Nat → Question → Nat} {d : Nat} (hb : Below W.heap.size (tp W T d) W') : BoxC W' b r C := by
  have h' : BoxC (tp W T d) b r C := ⟨h.blk, h.map, fun x hx => ⟨tenR_tp (h.ten x hx).1 T d, (h.ten x hx).2⟩, h.apart⟩
  exact h'.keep (X := fun _ => False) (Fr.of_below hb) (fun _ _ h => h)

theorem After.pre {W W1 W' : World} {b r rs : Nat} {C C' : List BC} {ps : List Pk} (h : After W1 W' b r rs C C' ps) {T : Nat → Question → Nat} {d : Nat} (hb : Below W.heap.size (tp W T d) W1) : After W W' b r rs C C' ps := by
  have hs : W.heap.size ≤ W1.heap.size := hb.size
  refine ⟨?_, h.box, h.same, fun x hx k hk hlt => h.new x hx k hk (by omega), h.nors, Nat.le_trans hs h.fresh, h.row, h.res, h.nob⟩
  obtain ⟨T', d', hf⟩ := h.fr
  refine ⟨T', d', ?_⟩
  have h1 : Fr (fun _ => False) (tp W T' d') (tp W1 T' d') := fr_tp (w := tp W T d) (X := fun _ => False) (Fr.of_below hb) T' d' d'
  exact (h1.mono fun _ h _ => h.elim).trans' hf (fun k hk _ => hk)

set_option maxHeartbeats 2000000 in
set_option maxRecDepth 100000 in
theorem batch_first {W : World} {nn : Nat} (hn0 : 0 < nn) {D : Nat → Prop} {Z : Nat → Option Obj} {c : Frame} {cs : List Frame} {m : Machine} {t : Trace} {R : Machine → Trace → Prop} {b r : Nat} {C0 : List BC} (hC : BoxC W b r C0) (hfresh : ∀ x ∈ C0, x.T.maps = []) {a : Option Addr} {cap : Nat} {ps : List Pk} (hl : ps.length ≤ 200) (hgood : ∀ p ∈ ps, goodB p = true) (hL : ListAt W a cap ps)
    (hpb : ∀ pb, a = some ⟨pb, 0, none⟩ → ¬ foot b r C0 pb)
    (hnext : ∀ (Shun : Loc → Prop) (K' D' : Nat → Prop) (Z' : Nat → Option Obj) (n' : Nat) (W' : World) (rs : Nat) (C' : List BC), ShunIn Shun K' → After W W' b r rs (C0.map slim) C' ps → (∀ k, k < W.heap.size → (∀ x ∈ C0, ¬ x.S k) → (D' k ↔ D k) ∧ (D k → Z' k = Z k)) →
      ∀ m t, Be Try.prog Shun K' D' Z' (fun _ _ => True) n' (c.finish (.tuple #[.slice (some ⟨rs, 0, none⟩) ps.length ps.length, .int .i64 0])) cs W' m t → Reaches Try.prog m t R)
    (hb : Be Try.prog (fun _ => False) (fun _ => False) D Z (Tp nn) nn (Frame.enter Try.prog 23 #[.pointer (some ⟨b, 0, none⟩), .slice a ps.length cap] .normal) (c :: cs) W m t) : Reaches Try.prog m t R := by
  have hSh : ShunIn (fun _ => False) (fun _ => False) := ⟨fun _ h => h, fun _ h => h⟩
  have E23 : Env Try.prog TF (fun _ => False) (fun _ => False) nn (Tp nn) (noF 23) := env 23 Try.f23 Try.func23 hSh (tp_keeps hn0)
  refine batch_head E23 b a ps.length cap ps rfl hl hL.le hL.max hL.pkAt (hide fun _ a' W1 hd hsz h0 h1 hB m t hb => ?_) (hide fun h => by
    have : ps.all goodB = true := List.all_eq_true.2 hgood
    rw [this] at h
    cases h) hb
  obtain ⟨T, d, hbel⟩ := hB
  rw [c23_2] at hb
  refine hb.seq E23 fun m t hb => ?_
  refine hb.region E23 fun m t hb => ?_
  rw [o23_size] at hb
  obtain ⟨p0, e0, f0, g0, d0⟩ := o23_0
  obtain ⟨p1, e1, f1, g1, d1⟩ := o23_1
  obtain ⟨p2, e2, f2, g2, d2⟩ := o23_2
  obtain ⟨p3, e3, f3, g3, d3⟩ := o23_3
  obtain ⟨p4, e4, f4, g4, d4⟩ := o23_4
  refine hb.move E23 e0 f0 g0 (v := .pointer (some ⟨b, 0, none⟩)) h0 hd fun m t hb => ?_
  rw [d0] at hb
  refine hb.move E23 e1 f1 g1 (v := .slice a ps.length cap) ((put_ne (by decide)).trans h1) hd fun m t hb => ?_
  rw [d1] at hb
  have v12 : ((a'.put (some 12) (.pointer (some ⟨b, 0, none⟩))).put (some 13) (.slice a ps.length cap)).eval (.tmp 12) = .pointer (some ⟨b, 0, none⟩) := (put_ne (by decide)).trans (put_eq (by omega))
  have v13 : ((a'.put (some 12) (.pointer (some ⟨b, 0, none⟩))).put (some 13) (.slice a ps.length cap)).eval (.tmp 13) = .slice a ps.length cap := put_eq (by rw [put_size]; omega)
  have hsz2 : ((a'.put (some 12) (.pointer (some ⟨b, 0, none⟩))).put (some 13) (.slice a ps.length cap)).tmps.size = 15 := by rw [put_size, put_size]; exact hsz
  have hd2 : ((a'.put (some 12) (.pointer (some ⟨b, 0, none⟩))).put (some 13) (.slice a ps.length cap)).defers = [] := hd
  generalize (a'.put (some 12) (.pointer (some ⟨b, 0, none⟩))).put (some 13) (.slice a ps.length cap) = a2 at hb v12 v13 hsz2 hd2
  refine hb.into E23 e2 f2 g2 Try.func32 name32 rfl (vs := #[.pointer (some ⟨b, 0, none⟩), .slice a ps.length cap]) (by simp [v12, v13]) hd2 fun m t hb => ?_
  obtain ⟨Y, gs, sl, q, rfl, hgs, hbs, hS, hT, hZ⟩ := hb.out
  -- what lies there
  have hC1 : BoxC W1 b r C0 := boxC_below hC hbel
  have hL1 : ListAt W1 a cap ps := hL.below (fun k hk => hbel.block k hk)
  have hSb : ∀ x ∈ C0, ¬ x.S b ∧ ¬ x.S r := fun x hx => (hC1.ten x hx).2
  have hsz1 : W1.heap.size = Y.heap.size := hS.sz
  let C : List BC := C0.map slim
  have memC : ∀ x ∈ C, ∃ y ∈ C0, x = slim y := fun x hx => by
    obtain ⟨y, hy, rfl⟩ := List.mem_map.1 hx
    exact ⟨y, hy, rfl⟩
  have inS : ∀ x ∈ C, ∀ k, x.S k → ∃ y ∈ C0, y.S k := fun x hx k hk => by
    obtain ⟨y, hy, rfl⟩ := memC x hx
    exact ⟨y, hy, slim_in hC1 hy hk⟩
  have atY : ∀ {k : Nat} {o : Obj}, W1.heap[k]? = some o → o ≠ .cells #[] badT (0, 0) → Y.heap[k]? = some o := fun hk ho => hS.at hk ho
  have hbox : Y.heap[b]? = some (.cells #[.map (some r)] 82 (0, 0)) := atY hC1.blk (by simp)
  obtain ⟨es, cl, hes, hem, hbo⟩ := hC1.map
  have hmp : Y.heap[r]? = some (.map es cl) := atY hes (by simp)
  have hCs : BoxC W1 b r C := by
    refine ⟨hC1.blk, ⟨es, cl, hes, by rw [hem]; simp [C, slim, Function.comp_def], hbo⟩, fun x hx => ?_, ?_⟩
    · obtain ⟨y, hy, rfl⟩ := memC x hx
      exact ⟨(tenC_fresh (hC1.ten y hy).1 (hfresh y hy)).ten, fun h => (hSb y hy).1 (slim_in hC1 hy h), fun h => (hSb y hy).2 (slim_in hC1 hy h)⟩
    · rw [List.pairwise_map]
      refine List.Pairwise.imp_of_mem ?_ hC1.apart
      intro x y hx hy hxy
      exact ⟨hxy.1, fun k h1 h2 => hxy.2 k (slim_in hC1 hx h1) (slim_in hC1 hy h2)⟩
  have hten : ∀ x ∈ C, TenC Y x.S x.g x.hp x.hi x.T x.L := fun x hx => by
    obtain ⟨y, hy, rfl⟩ := memC x hx
    have ht := tenC_fresh (hC1.ten y hy).1 (hfresh y hy)
    refine ht.keep (fun k hk => ?_) (Nat.le_of_eq hsz1)
    obtain ⟨o, O, q1, _, q3⟩ := ht.wr.obj k k ⟨rfl, hk⟩
    rw [q1]
    refine atY q1 ?_
    rintro rfl
    rcases hk with rfl | rfl | rfl
    · have := ht.ten.blk; rw [q1] at this; cases this
    · obtain ⟨es', c', z, _⟩ := ht.ten.mp; rw [q1] at z; cases z
    · obtain ⟨es', c', z, _⟩ := ht.ten.mi; rw [q1] at z; cases z
  -- the packets
  obtain ⟨pb, hpbY, hpa, hpf⟩ : ∃ pb, (∃ cur e, Y.heap[pb]? = some (.cells cur e (0, 0)) ∧ 0 + 15 * ps.length ≤ cur.size ∧ ∀ k p, ps[k]? = some p → ((cur.toList.drop (0 + k * 15)).take 15).toArray = pkC p) ∧ (ps.length = 0 ∨ a = some ⟨pb, 0, none⟩) ∧ ∀ x ∈ C, ¬ x.S pb := by
    rcases hL1.row with ⟨_, rfl⟩ | ⟨pb, cur, ha, q1, q2, q3⟩
    · exact ⟨b, ⟨_, _, hbox, by simp, by simp⟩, .inl rfl, fun x hx h => by obtain ⟨y, hy, hk⟩ := inS x hx b h; exact (hSb y hy).1 hk⟩
    · refine ⟨pb, ⟨cur, 38, atY q1 (by simp [badT]), by omega, fun k p hk => ?_⟩, .inr ha, fun x hx h => ?_⟩
      · obtain ⟨hk', rfl⟩ := List.getElem?_eq_some_iff.1 hk
        rw [Nat.zero_add, list_piece q3 hk']
      · obtain ⟨y, hy, hk⟩ := inS x hx pb h
        exact hpb pb ha (.inr (.inr ⟨y, hy, hk⟩))
  have lt : ∀ {x : Nat} {o : Obj}, Y.heap[x]? = some o → x < Y.heap.size := fun y => (Array.getElem?_eq_some_iff.1 y).1
  have hbs' : Bes Try.prog (fun _ => False) ⟨⟨fun x => x = b ∨ x = r ∨ x = pb ∨ (x < Y.heap.size ∧ ∀ y ∈ C, ¬ y.S x) ∨ ∃ y ∈ C, y.S x, fun _ _ => False, fun _ => False⟩, 0, G (Frame.enter Try.prog 32 #[.pointer (some ⟨b, 0, none⟩), .slice a ps.length cap] .normal) ((noF 23).at a2 [.inRegion o23 [2, 3, 4], .code .ret] :: c :: cs), Y⟩ gs t q := by
    refine ⟨hbs.main, hbs.leave, hbs.calm, hbs.deaf, ⟨?_, fun _ _ h => h.elim⟩, fun _ _ h => h, hbs.slow⟩
    rintro k (rfl | rfl | rfl | h | ⟨x, hx, h⟩)
    · exact lt hbox
    · exact lt hmp
    · obtain ⟨cur, e, h, _⟩ := hpbY; exact lt h
    · exact h.1
    · exact (hten x hx).ten.bound k h
  have hproto : ∀ p ∈ ps, 1 ≤ p.proto ∧ p.proto ≤ 3 := fun p hp => by
    have := hgood p hp
    unfold goodB at this
    simp only [Bool.and_eq_true, decide_eq_true_eq] at this
    omega
  have hruns := passAll_runs (sl := sl) (pa := a) (off := 0) hbs' (by rw [hgs]; exact hT) (by omega) hproto hbox ⟨es, cl, hmp, by rw [hem]; simp [C, slim, Function.comp_def]⟩ hpbY hten hCs.apart (fun x hx k hk => ⟨fun e => (hCs.ten x hx).2.1 (e ▸ hk), fun e => (hCs.ten x hx).2.2 (e ▸ hk), fun e => hpf x hx (e ▸ hk), fun h => h.2 x hx hk⟩) (fun k hk => hk.1) hpa
  refine hruns.bind ?_
  rintro m' t' ⟨rs, C', Wg, gs', Y', sl', q', rfl, hPE, hWg, hlv, hb'⟩
  have hK' : ShunIn (fun l => False ∨ ShN Wg l) (fun k => k = Wg) := by
    refine ⟨fun ad h => ?_, fun k h => ?_⟩
    · obtain ⟨ad', e, h'⟩ := h.resolve_left id
      cases e
      exact h'
    · obtain ⟨ad', e, _⟩ := h.resolve_left id
      cases e
  have hsz' : Y.heap.size ≤ Y'.heap.size := by
    have := hPE.fresh
    obtain ⟨cur, h1, _⟩ := hPE.row
    have := (Array.getElem?_eq_some_iff.1 h1).1
    omega
  have hno : ∀ k, (k = b ∨ k = r ∨ k = rs ∨ (∃ x ∈ C', x.S k)) → k ≠ Wg := fun k hk e => by
    have hO : (ownE b r rs C' (fun k => k < Y.heap.size ∧ ∀ x ∈ C, ¬ x.S k)).B k := by
      rcases hk with h | h | h | h
      · exact .inl h
      · exact .inr (.inl h)
      · exact .inr (.inr (.inl h))
      · exact .inr (.inr (.inr (.inr h)))
    exact hb'.nosh (.cell ⟨k, 0, none⟩) (.inl hO) (.inr ⟨_, rfl, e⟩)
  obtain ⟨hS', hA⟩ := after (Y' := Y') (Wg := Wg) hS hCs hPE hWg hlv hno hsz'
  have hBe : Be Try.prog (fun l => False ∨ ShN Wg l) (fun k => k = Wg) (deadOf (fun k => k = Wg) Y') (fun k => Y'.heap[k]?) (fun _ _ => True) gs'.size (((noF 23).at a2 [.inRegion o23 [2, 3, 4], .code .ret]).finish (.slice (some ⟨rs, 0, none⟩) ps.length ps.length)) (c :: cs) (blank (deadOf (fun k => k = Wg) Y') Y') (crowd gs' Y' sl') t' :=
    ⟨Y', gs', sl', q', rfl, rfl, ⟨hb'.main, hb'.leave, hb'.calm, hb'.deaf, allO_lies _, allO_nosh hK' _, hb'.slow⟩, hS', trivial, fun _ _ => rfl⟩
  rw [finish_op e2, d2] at hBe
  have E2 : Env Try.prog TF (fun l => False ∨ ShN Wg l) (fun k => k = Wg) gs'.size (fun _ _ => True) (noF 23) := env 23 Try.f23 Try.func23 hK' any_keeps
  have hrel : ∀ k, k < W.heap.size → (∀ x ∈ C0, ¬ x.S k) → (deadOf (fun k => k = Wg) Y' k ↔ D k) ∧ (D k → Y'.heap[k]? = Z k) := by
    intro k hk hx
    have hkY : k < Y.heap.size := by have : W.heap.size ≤ W1.heap.size := hbel.size; omega
    have hoth := hPE.oth k ⟨hkY, fun x hx' hk' => by obtain ⟨y, hy, h⟩ := inS x hx' k hk'; exact hx y hy h⟩
    refine ⟨⟨?_, fun hd => ?_⟩, fun hd => hoth.trans (hZ k hd)⟩
    · rintro (e | ⟨c', t', e⟩)
      · omega
      · apply Classical.byContradiction
        intro hd
        refine hS.nop k c' t' ?_
        rw [hS.live k hd, ← hoth]
        exact e
    · rcases hS.tame k hd with ⟨h, _⟩ | ⟨_, c', t', e⟩
      · exact h.elim
      · exact .inr ⟨c', t', hoth.trans e⟩
  have hq := hnext _ _ (deadOf (fun k => k = Wg) Y') (fun k => Y'.heap[k]?) gs'.size (blank (deadOf (fun k => k = Wg) Y') Y') rs C' hK' (hA.pre hbel) hrel
  have s14 : (14 : Nat) < a2.tmps.size := by omega
  refine hBe.assign E2 e3 f3 g3 (put_eq s14) (by exact hd2) fun m t hb => ?_
  rw [d3] at hb
  refine hb.assign E2 e4 f4 g4 (v := .int .i64 0) rfl (by exact hd2) fun m t hb => ?_
  rw [d4] at hb
  refine hb.regionEnd E2 fun m t hb => ?_
  refine hb.ret E2 (by exact hd2) Try.func23 (v := .tuple #[.slice (some ⟨rs, 0, none⟩) ps.length ps.length, .int .i64 0]) (fun T d => ?_) hq
  rw [results_tmp2 Try.results23]
  have r4 : ((((a2.put (some 14) (.slice (some ⟨rs, 0, none⟩) ps.length ps.length)).put (some 4) (.slice (some ⟨rs, 0, none⟩) ps.length ps.length)).put (some 5) (.int .i64 0)).eval (.tmp 4)) = .slice (some ⟨rs, 0, none⟩) ps.length ps.length := (put_ne (by decide)).trans (put_eq (by rw [put_size]; omega))
  have r5 : ((((a2.put (some 14) (.slice (some ⟨rs, 0, none⟩) ps.length ps.length)).put (some 4) (.slice (some ⟨rs, 0, none⟩) ps.length ps.length)).put (some 5) (.int .i64 0)).eval (.tmp 5)) = .int .i64 0 := put_eq (by rw [put_size, put_size]; omega)
  have r4' : Array.getD ((((a2.put (some 14) (.slice (some ⟨rs, 0, none⟩) ps.length ps.length)).put (some 4) (.slice (some ⟨rs, 0, none⟩) ps.length ps.length)).put (some 5) (.int .i64 0)).tmps) 4 undef = _ := r4
  have r5' : Array.getD ((((a2.put (some 14) (.slice (some ⟨rs, 0, none⟩) ps.length ps.length)).put (some 4) (.slice (some ⟨rs, 0, none⟩) ps.length ps.length)).put (some 5) (.int .i64 0)).tmps) 5 undef = _ := r5
  rw [r4', r5']

end Go.Proofs.Ytgpplekabohneaa.Co

namespace Go.Proofs.Ytgpplekabohneaa.Co
open Go Go.Conc Go.ConcN Go.RowKit

/-- The box behind packets passed one by one. -/
def boxOf (B : List (Int × Tn)) : List Pk → List (Int × Tn)
  | [] => B
  | p :: l => boxOf (passB B p).1 l

theorem boxOf_snoc : ∀ (l : List Pk) (B : List (Int × Tn)) (p : Pk), boxOf B (l ++ [p]) = (passB (boxOf B l) p).1
  | [], _, _ => rfl
  | q :: l, B, p => boxOf_snoc l (passB B q).1 p

/-- Tags are not there twice; every packet is one, and of a tenant of the box. -/
structure Fit (B : List (Int × Tn)) (ps : List Pk) : Prop where
  nd : (B.map (·.1)).Nodup
  ok : ∀ p ∈ ps, goodB p = true ∧ p.tag ∈ B.map (·.1)

theorem putT_tags (B : List (Int × Tn)) (t : Int) (T : Tn) : (putT B t T).map (·.1) = B.map (·.1) := by
  unfold putT
  rw [List.map_map]
  refine List.map_congr_left fun y _ => ?_
  simp only [Function.comp]
  split <;> rfl

theorem Fit.find {B : List (Int × Tn)} {ps : List Pk} (h : Fit B ps) {p : Pk} (hp : p ∈ ps) : ∃ T, (p.tag, T) ∈ B ∧ B.find? (isT p.tag) = some (p.tag, T) ∧ ∀ y ∈ B, y.1 = p.tag → y = (p.tag, T) := by
  obtain ⟨x, hx, hxt⟩ := List.mem_map.1 (h.ok p hp).2
  have uniq : ∀ y ∈ B, ∀ z ∈ B, y.1 = z.1 → y = z := by
    intro y hy z hz e
    have := List.pairwise_map.1 h.nd
    apply Classical.byContradiction
    intro hne
    obtain ⟨i, hi, rfl⟩ := List.mem_iff_getElem.1 hy
    obtain ⟨j, hj, rfl⟩ := List.mem_iff_getElem.1 hz
    have hp := List.pairwise_iff_getElem.1 this
    rcases Nat.lt_trichotomy i j with hl | hl | hl
    · exact hp i j hi hj hl e
    · subst hl; exact hne rfl
    · exact hp j i hj hi hl e.symm
  obtain ⟨xt, T⟩ := x
  dsimp only at hxt
  subst hxt
  cases hf : B.find? (isT p.tag) with
  | none => exact absurd (List.find?_eq_none.1 hf _ hx) (by simp [isT])
  | some y =>
    have h1 := List.mem_of_find?_eq_some hf
    have h2 : y.1 = p.tag := by have := List.find?_some hf; simpa [isT] using this
    have : y = (p.tag, T) := uniq y h1 _ hx h2
    subst this
    exact ⟨T, h1, rfl, fun z hz e => uniq z hz _ h1 e⟩

theorem Fit.step {B : List (Int × Tn)} {p : Pk} {l : List Pk} (h : Fit B (p :: l)) : ∃ T, (p.tag, T) ∈ B ∧ passB B p = (putT B p.tag (passF T p).1, (passF T p).2.1, (passF T p).2.2, 0) ∧ (∀ y ∈ B, y.1 = p.tag → y = (p.tag, T)) ∧ Fit (putT B p.tag (passF T p).1) l := by
  obtain ⟨T, h1, h2, h3⟩ := h.find (List.mem_cons_self ..)
  refine ⟨T, h1, ?_, h3, ⟨by rw [putT_tags]; exact h.nd, fun q hq => by rw [putT_tags]; exact h.ok q (List.mem_cons_of_mem _ hq)⟩⟩
  unfold passB
  rw [if_pos (h.ok p (List.mem_cons_self ..)).1, h2]

theorem ofTag_cons (t : Int) (i : Nat) (p : Pk) (l : List Pk) : ofTag t (plF i (p :: l)) = if p.tag = t then (i, p) :: ofTag t (plF (i + 1) l) else ofTag t (plF (i + 1) l) := by
  rw [show plF i (p :: l) = (i, p) :: plF (i + 1) l from rfl]
  unfold ofTag
  rw [List.filter_cons]
  simp only [beq_iff_eq]

/-- The box behind the batch is the box behind its packets. -/
theorem boxOf_fin : ∀ (ps : List Pk) (B : List (Int × Tn)) (i : Nat), Fit B ps → boxOf B ps = B.map fun x => (x.1, finT x.2 (ofTag x.1 (plF i ps)))
  | [], B, i, _ => by
    simp [boxOf, plF, ofTag, finT]
  | p :: l, B, i, h => by
    obtain ⟨T, h1, h2, h3, h4⟩ := h.step
    rw [boxOf, h2, boxOf_fin l _ (i + 1) h4]
    unfold putT
    rw [List.map_map]
    refine List.map_congr_left fun y hy => ?_
    simp only [Function.comp, isT, beq_iff_eq]
    by_cases e : y.1 = p.tag
    · have := h3 y hy e
      subst this
      rw [if_pos rfl, ofTag_cons, if_pos rfl]
      rfl
    · rw [if_neg e, ofTag_cons, if_neg (fun x => e x.symm)]

/-- So are its results. -/
theorem res_fin : ∀ (ps : List Pk) (B : List (Int × Tn)) (i : Nat), Fit B ps → ∀ j (hj : j < ps.length), ∃ x ∈ B, (i + j, (passB (boxOf B (ps.take j)) ps[j]).2.1, (passB (boxOf B (ps.take j)) ps[j]).2.2.1) ∈ finR x.2 (ofTag x.1 (plF i ps))
  | p :: l, B, i, h, 0, _ => by
    obtain ⟨T, h1, h2, h3, h4⟩ := h.step
    refine ⟨(p.tag, T), h1, ?_⟩
    rw [ofTag_cons, if_pos rfl]
    simp only [List.take_zero, boxOf, List.getElem_cons_zero, h2, finR, Nat.add_zero]
    exact List.mem_cons_self ..
  | p :: l, B, i, h, j + 1, hj => by
    obtain ⟨T, h1, h2, h3, h4⟩ := h.step
    obtain ⟨x, hx, hm⟩ := res_fin l _ (i + 1) h4 j (by simpa using hj)
    have e1 : boxOf B (List.take (j + 1) (p :: l)) = boxOf (putT B p.tag (passF T p).1) (l.take j) := by
      rw [List.take_succ_cons, boxOf, h2]
    rw [e1]
    simp only [List.getElem_cons_succ]
    rw [show i + (j + 1) = i + 1 + j by omega]
    unfold putT at hx
    obtain ⟨y, hy, rfl⟩ := List.mem_map.1 hx
    refine ⟨y, hy, ?_⟩
    rw [ofTag_cons]
    by_cases e : y.1 = p.tag
    · have := h3 y hy e
      subst this
      rw [if_pos rfl]
      simp only [isT, beq_self_eq_true, if_true] at hm
      simp only [finR]
      exact List.mem_cons_of_mem _ hm
    · rw [if_neg (fun x => e x.symm)]
      simp only [isT, beq_iff_eq, if_neg e] at hm
      exact hm

theorem fit_take {B : List (Int × Tn)} {ps : List Pk} : ∀ {j : Nat}, Fit B ps → j ≤ ps.length → Fit (boxOf B (ps.take j)) (ps.drop j) := by
  intro j
  induction j generalizing B ps with
  | zero => exact fun h _ => by simpa [boxOf] using h
  | succ j ih =>
    intro h hj
    cases ps with
    | nil => simp at hj
    | cons p l =>
      obtain ⟨T, h1, h2, h3, h4⟩ := h.step
      have := ih h4 (by simpa using hj)
      rw [List.take_succ_cons, List.drop_succ_cons, boxOf, h2]
      exact this

/-- The answer to the packet at place j. -/
theorem pass_at {B : List (Int × Tn)} {ps : List Pk} (h : Fit B ps) {j : Nat} (hj : j < ps.length) : ∃ q v, passB (boxOf B (ps.take j)) ps[j] = (boxOf B (ps.take (j + 1)), q, v, 0) ∧ ∃ x ∈ B, (j, q, v) ∈ finR x.2 (ofTag x.1 (plF 0 ps)) := by
  obtain ⟨x, hx, hm⟩ := res_fin ps B 0 h j hj
  rw [Nat.zero_add] at hm
  have hf := fit_take h (Nat.le_of_lt hj)
  rw [List.drop_eq_getElem_cons hj] at hf
  obtain ⟨T, h1, h2, h3, h4⟩ := hf.step
  refine ⟨(passF T ps[j]).2.1, (passF T ps[j]).2.2, ?_, x, hx, ?_⟩
  · rw [List.take_succ_eq_append_getElem hj, boxOf_snoc, h2]
  · rw [h2] at hm; exact hm

end Go.Proofs.Ytgpplekabohneaa.Co
