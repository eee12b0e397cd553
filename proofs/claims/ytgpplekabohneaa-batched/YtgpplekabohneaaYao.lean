/- One packet: a worker receives it, passes it, lays down what comes of it. · A worker, whole: from its birth to its receive, from packet to packet, to the group's Done. · Where a worker stands in the group's Done. -/
import Derived.Test.YtgpplekabohneaaYan
import Derived.Test.YtgpplekabohneaaYag
import Derived.Conc.CrowdSpec
import Derived.Conc.MarkLaws
namespace Go.Proofs.Ytgpplekabohneaa.Co
open Go Go.Conc Go.RowKit Go.ConcR.Gen Go.ConcN.Gen
open Go.ConcR (DC0)

section
variable {P : Program} {main : Bool} {Ev : Own → Event → Prop} {Stop : Pos → Prop} {O O' : Own} {d : Nat} {w : World}

/-- A step that looks at no world, behind which less is owned. -/
theorem Run.ctlO {g g' : Goroutine} (hB : ∀ b, O'.B b → O.B b) (hC : ∀ b o, O'.C b o → O.C b o) (hX : ∀ b, O'.X b → O.X b) (hs : g.status = .running) (h : ∀ w₁, stepG P main g w₁ = .go g' w₁) (hk : Run P main Ev Stop ⟨O', d, g', w⟩) : Run P main Ev Stop ⟨O, d, g, w⟩ :=
  Run.one hs fun w₁ h₁ => ⟨⟨O', d, g', w₁⟩, ⟨#[], h w₁, ⟨Nat.le_refl _, rfl, rfl, rfl, fun b x => .inl (hB b x), hC, hX, fun _ _ _ _ => rfl, fun _ _ _ _ _ => rfl, Shaped.refl w₁⟩, by simp, rfl⟩, hk.rely (h₁.less hB hC hX)⟩

theorem Run.enter {b : Frame} {a : Act} {k : List Item} {cs : List Frame} {ops : Array Oper} {i : Nat} {rest : List Nat} {o : Oper} {f : FuncId} {fn : Func} {c : Code} {args : Array Operand} {ats : Array TypeId}
    (ho : ops[i]? = some o) (hw : Region.wanted o (yielded ops a.tmps) = true) (hk : b.kind ≠ .early) (hop : o.op = .call { callee := .value (.func f), args, argTypes := ats })
    (hf : P.funcs[f]? = some fn) (hname : (fn.name == "runtime.NumGoroutine") = false) (hb : fn.body = some c) (vs : Array Value) (hvs : args.map a.eval = vs)
    (h : Run P main Ev Stop ⟨O, d, G (Frame.enter P f vs .normal) (b.at a (.inRegion ops (i :: rest) :: k) :: cs), w⟩) :
    Run P main Ev Stop ⟨O, d, G (b.at a (.inRegion ops (i :: rest) :: k)) cs, w⟩ := by
  subst hvs
  refine Run.one rfl fun w₁ h₁ => ?_
  have hg := goes_call (P := P) (main := main) (w := w₁) (cs := cs) (k := k) (rest := rest) (K := fun g' w' es => g' = G (Frame.enter P f (args.map a.eval) .normal) (b.at a (.inRegion ops (i :: rest) :: k) :: cs) ∧ w' = w₁ ∧ es = #[]) ho hw hk hop hf hname hb ⟨by rw [enter_at _ hf hb], rfl, rfl⟩
  cases hst : stepG P main (G (b.at a (.inRegion ops (i :: rest) :: k)) cs) w₁ with
  | go g' w' es =>
    rw [hst, goes_go] at hg
    obtain ⟨rfl, rfl, rfl⟩ := hg
    exact ⟨⟨O, d, _, w'⟩, ⟨#[], hst, Guar.refl O w', by simp, rfl⟩, h.rely h₁⟩
  | _ => rw [hst] at hg; exact hg.elim
end

theorem ev_size (t : TypeId) (w : World) (es : Array Event) : (sizeOf t).events Try.prog w es = es := by simp [go_sem]
theorem ev_agg (t : TypeId) (w : World) (es : Array Event) : (isAgg t).events Try.prog w es = es := by simp [go_sem]

theorem name29 : (Try.f29.name == "runtime.NumGoroutine") = false := by decide +kernel

/-- What is owned beside the tenant: one block, the results' cells. -/
def WS.rest1 (s : WS) (all : List Nat) (n : Nat) : Own := ⟨fun b => b = n, s.cells all, fun _ => False⟩
theorem own_split (s : WS) (S : Nat → Prop) (all : List Nat) (n : Nat) : (s.own S all).new n = (s.rest1 all n).add (idOn S) := by
  unfold Own.new WS.own WS.rest1 Own.add idOn
  simp only [Own.mk.injEq, and_true]
  funext b
  refine propext ⟨?_, ?_⟩
  · rintro (h | h)
    · exact .inr ⟨b, rfl, h⟩
    · exact .inl h
  · rintro (h | ⟨_, rfl, h⟩)
    · exact .inr h
    · exact .inl h

theorem rely_alloc {O : Own} (w : World) (ob : Obj) (hB : ∀ b, O.B b → b < w.heap.size) (hC : ∀ b o, O.C b o → b < w.heap.size) (hX : ∀ b, O.X b → b < w.heap.size) : Rely O w (w.alloc ob) :=
  (guar_alloc ⟨fun _ => False, fun _ _ => False, fun _ => False⟩ w ob).rely (fun b x => ⟨hB b x, fun y => y, fun _ y => y⟩) (fun b o x => ⟨hC b o x, fun y => y, fun y => y⟩) (fun b x => ⟨hX b x, fun y => y, fun _ y => y⟩)

theorem rely_setRow {O : Own} (w : World) (g : Nat) (cs : Array Value) {old : Array Value} {t : TypeId} {f : Nat × Nat} (hg : w.heap[g]? = some (.cells old t f)) (hs : cs.size = old.size) (hB : ¬ O.B g) (hC : ∀ o, ¬ O.C g o) (hX : ¬ O.X g) : Rely O w (w.setRow g cs) := by
  refine ⟨by simp, rfl, rfl, rfl, fun b hb => setRow_other _ _ _ _ (fun e => hB (e ▸ hb)), fun b o hb => ?_, ?_, fun b hb ⟨st, sm, y⟩ => ⟨st, sm, ?_⟩⟩
  · have hne : b ≠ g := fun e => hC o (e ▸ hb)
    unfold World.cell?
    dsimp only
    rw [setRow_other _ _ _ _ hne]
  · intro n c e' f' hn'
    by_cases hng : n = g
    · subst hng
      rw [hg] at hn'
      simp only [Option.some.injEq, Obj.cells.injEq] at hn'
      obtain ⟨rfl, rfl, rfl⟩ := hn'
      exact ⟨_, setRow_heap _ _ _ _ _ _ hg, hs⟩
    · exact ⟨c, by rw [setRow_other _ _ _ _ hng]; exact hn', rfl⟩
  · have hne : b ≠ g := fun e => hX (e ▸ hb)
    rw [setRow_other _ _ _ _ hne]
    exact y

theorem TenC.keep {w w₁ : World} {S : Nat → Prop} {g hp hi : Nat} {T : Tn} {L : List Cl} (h : TenC w S g hp hi T L) (hB : ∀ b, S b → w₁.heap[b]? = w.heap[b]?) (hs : w.heap.size ≤ w₁.heap.size) : TenC w₁ S g hp hi T L := by
  have ht := h.ten
  refine ⟨⟨ht.sg, ht.shp, ht.shi, ht.ne, fun k hk => Nat.lt_of_lt_of_le (ht.bound k hk) hs, (hB _ ht.sg).trans ht.blk, ?_, ?_, ht.maps, ?_, ht.apart, ht.good⟩, ?_⟩
  · obtain ⟨es, c, e1, e2⟩ := ht.mp
    exact ⟨es, c, (hB _ ht.shp).trans e1, e2⟩
  · obtain ⟨es, c, e1, e2⟩ := ht.mi
    exact ⟨es, c, (hB _ ht.shi).trans e1, e2⟩
  · intro x hx
    obtain ⟨m1, m2, m3⟩ := ht.mem x hx
    refine ⟨⟨(hB _ m2).trans m1.1, m1.2.1, ?_⟩, m2, m3⟩
    rcases m1.2.2 with hn | ⟨q, cap, cur, e1, e2, e3, e4⟩
    · exact .inl hn
    · exact .inr ⟨q, cap, cur, e1, e2, (hB q (m3 q (by rw [e1]; rfl))).trans e3, e4⟩
  · refine ⟨fun b B hb => ?_, rfl, rfl⟩
    obtain ⟨rfl, hS⟩ := hb
    obtain ⟨o, O', e1, e2, e3⟩ := h.wr.obj b b ⟨rfl, hS⟩
    exact ⟨o, O', (hB b hS).trans e1, (hB b hS).trans e2, e3⟩

theorem one_pl (i : Nat) (p : Pk) : ∀ v ∈ (plC i p).toList, v.oneCell' = true := by simp [plC, Value.oneCell']
theorem one_pk (p : Pk) : ∀ v ∈ (pkC p).toList, v.oneCell' = true := by simp [pkC, Value.oneCell']
theorem one_re (p : Pk) (v : Int) : ∀ x ∈ (reC p v).toList, x.oneCell' = true := by simp [reC, Value.oneCell']

set_option maxRecDepth 100000 in
set_option maxHeartbeats 4000000 in
theorem iter (s : WS) (j : Nat → Value) {Ev : Own → Event → Prop} (hE : LetsOwn Ev (fun _ => False)) (hEv : ∀ O e r, EvOk r e → (∀ b B, r b B → O.B B) → Ev O e) {Stop : Pos → Prop} {all : List Nat} {S : Nat → Prop} {T : Tn} {L : List Cl} {w : World}
    (h : TenC w S s.g s.hp s.hi T L) (hrs : ¬ S s.rs) (hlt : s.rs < w.heap.size) (hrow : RowAt w s.rs s.N) (i : Nat) (p : Pk) (hpr : 1 ≤ p.proto ∧ p.proto ≤ 3) (hi : i < s.N) (hia : i ∈ all)
    (hk : ∀ W' S' L' j', TenC W' S' s.g s.hp s.hi (passF T p).1 L' → (∀ b, S b → S' b) → (∀ b, S' b → S b ∨ w.heap.size ≤ b) → (∀ o, ¬ (16 * i ≤ o ∧ o < 16 * i + 16) → s.cells all s.rs o → W'.cell? ⟨s.rs, o, none⟩ = w.cell? ⟨s.rs, o, none⟩) →
      ResAt W' s.rs [(i, (passF T p).2.1, (passF T p).2.2)] → RowAt W' s.rs s.N → w.heap.size ≤ W'.heap.size → Run Try.prog false Ev Stop ⟨s.own S' all, 0, s.head j', W'⟩) :
    Run Try.prog false Ev Stop ⟨s.own S all, 0, Conc.served (s.recv j) (recvd true (.agg (plC i p)) true), w⟩ := by
  unfold WS.recv
  simp only [wLoop, loopOf, opsOf, restOf, Try.f53, Option.getD_some, WS.tmps, WS.sl, recvd, if_true]
  rw [served_G]
  have hF : Rely (s.own S all) w w := Rely.refl _ _
  refine Run.of_goes (R := Rely (s.own S all)) (D := DC0) (S := fun g x => Run Try.prog false Ev Stop ⟨(s.own S all), 0, g, x⟩) (n := 30) (fun _ _ h => h) dc0_ok (fun _ _ h => h) ?_
  try walk_nrm
  u_op rl_trans hF
  u_c stepG_region_end rl_trans hF
  u_c stepG_seq rl_trans hF
  u_cnd true rl_trans hF
  u_c stepG_skip rl_trans hF
  u_c stepG_block rl_trans hF
  u_c stepG_seq rl_trans hF
  u_reg rl_trans hF
  u_op rl_trans hF
  refine Goes.stop (fun w₁ h₁ => ?_)
  replace hF := rl_trans hF h₁
  clear h₁

  refine Run.allocB (t := 131) (z := plZ.cells) rfl rfl (by k_ne) (fun w₂ => by simp [go_sem, plZ, Value.cells]) (fun w₂ => by simp [go_sem]) (fun w₂ h₂ => ?_)
  try walk_nrm
  have hR2 : Rely (s.own S all) w w₂ := hF.trans h₂
  obtain ⟨n1, hn1⟩ : ∃ n1, n1 = w₂.heap.size := ⟨_, rfl⟩
  have hn1S : ¬ S n1 := fun x => by have := h.ten.bound n1 x; have := hR2.size; omega
  have hn1r : n1 ≠ s.rs := by have := hR2.size; omega
  have hblk : (w₂.alloc (.cells plZ.cells 131)).heap[n1]? = some (.cells plZ.cells 131 (0, 0)) := by rw [hn1]; exact heap_alloc_new w₂ _
  have hR3 : Rely (s.own S all) w (w₂.alloc (.cells plZ.cells 131)) := hR2.trans (rely_alloc w₂ _ (fun b hb => Nat.lt_of_lt_of_le (h.ten.bound b hb) hR2.size) (fun b o hb => by rw [hb.1]; exact Nat.lt_of_lt_of_le hlt hR2.size) (fun b hb => hb.elim))
  rw [← hn1]
  generalize hw3 : w₂.alloc (.cells plZ.cells 131) = w₃ at hblk hR3
  have hs3 : w.heap.size ≤ n1 := by rw [hn1]; exact hR2.size
  clear hF h₂ hn1 hR2 hw3
  refine Run.storeB (e := 131) (cur := plZ.cells) (vs := plC i p) (off := 0) hE rfl rfl (by k_ne) rfl rfl rfl Try.sizeOf131 (ev_size 131) (one_pl i p) (.inr rfl) (fun x => x) hblk (by simp [plZ, Value.cells, plC]) (fun w₄ h₄ => ?_)
  have hb4 := (h₄.blk n1 (.inr rfl)).trans hblk
  have hn4 := setRow_heap w₄ n1 _ (List.take 0 plZ.cells.toList ++ (plC i p).toList ++ List.drop (0 + (plC i p).size) plZ.cells.toList).toArray 131 (0, 0) hb4
  rw [show (List.take 0 plZ.cells.toList ++ (plC i p).toList ++ List.drop (0 + (plC i p).size) plZ.cells.toList).toArray = plC i p from rfl] at hn4 ⊢
  have hR5 : Rely (s.own S all) w (w₄.setRow n1 (plC i p)) := (hR3.trans (h₄.less (fun _ x => .inl x) (fun _ _ x => x) (fun _ x => x))).trans (rely_setRow w₄ n1 _ hb4 (by simp [plZ, Value.cells, plC]) hn1S (fun o x => hn1r x.1) (fun x => x))
  generalize w₄.setRow n1 (plC i p) = w₅ at hn4 hR5
  clear h₄ hb4 hblk hR3
  try walk_nrm
  have hF : Rely ((s.own S all).new n1) w₅ w₅ := Rely.refl _ _
  refine Run.of_goes (R := Rely ((s.own S all).new n1)) (D := DC0) (S := fun g x => Run Try.prog false Ev Stop ⟨((s.own S all).new n1), 0, g, x⟩) (n := 30) (fun _ _ h => h) dc0_ok (fun _ _ h => h) ?_
  try walk_nrm
  u_c stepG_region_end rl_trans hF
  u_c stepG_seq rl_trans hF
  u_reg rl_trans hF
  u_op rl_trans hF
  u_op rl_trans hF
  refine Goes.stop (fun w₁ h₁ => ?_)
  replace hF := rl_trans hF h₁
  clear h₁

  have hn6 := (hF.blk n1 (.inr rfl)).trans hn4
  have hR6 := hR5.trans (hF.less (U := s.own S all) (fun _ x => .inl x) (fun _ _ x => x) (fun _ x => x))
  refine Run.loadB (e := 131) (cur := plC i p) (n := 15) (off := 1) hE rfl rfl (by k_ne) rfl rfl Try.isAgg38 (ev_agg 38) Try.sizeOf38 (ev_size 38) (.inr rfl) (fun x => x) hn6 (by simp [plC]) ?_
  rw [show (List.take 15 (List.drop 1 (plC i p).toList)).toArray = pkC p from rfl]
  try walk_nrm
  refine Run.enter rfl rfl (by k_ne) rfl Try.func29 name29 rfl #[.pointer (some ⟨s.g, 0, none⟩), .agg (pkC p)] (by simp [Act.eval]) ?_
  rw [own_split]
  clear hF hn4 hR5
  generalize w₁ = w₆ at hn6 hR6 ⊢
  have hT6 : TenC w₆ S s.g s.hp s.hi T L := h.keep (fun b hb => hR6.blk b hb) hR6.size
  have hA6 : Aside (s.rest1 all n1) (idOn S) w₆ := ⟨fun b hb => ⟨by rw [hb]; exact (Array.getElem?_eq_some_iff.1 hn6).1, fun a ha => hn1S (hb ▸ ha.1 ▸ ha.2)⟩, fun b o hb => ⟨by rw [hb.1]; exact Nat.lt_of_lt_of_le hlt hR6.size, fun a ha => hrs (hb.1 ▸ ha.1 ▸ ha.2)⟩, fun b hb => hb.elim⟩
  refine pass_run (O := s.rest1 all n1) hEv hT6 p hpr hA6 (fun W' S' L' hT7 hsub hS7' hA7 hR7 => ?_)
  have hS7 : ∀ b, S' b → S b ∨ w.heap.size ≤ b := fun b hb => (hS7' b hb).imp id (Nat.le_trans hR6.size)
  rw [Frame.finish_at]
  have hn8 : W'.heap[n1]? = some (.cells (plC i p) 131 (0, 0)) := (hR7.blk n1 rfl).trans hn6
  have hrow8 : RowAt W' s.rs s.N := by
    obtain ⟨cur, e1, e2⟩ := hrow
    obtain ⟨c1, e3, e4⟩ := (hR6.shape.trans hR7.shape) _ _ _ _ e1
    exact ⟨c1, e3, e4.trans e2⟩
  have hcell8 : ∀ o, s.cells all s.rs o → W'.cell? ⟨s.rs, o, none⟩ = w.cell? ⟨s.rs, o, none⟩ := fun o ho => (hR7.cell _ _ ho).trans (hR6.cell _ _ ho)
  have hs8 : w.heap.size ≤ W'.heap.size := Nat.le_trans hR6.size hR7.size
  have hnew : ∀ b, S' b → S b ∨ w.heap.size ≤ b := fun b hb => hS7 b hb
  have hrs8 : ¬ S' s.rs := fun x => (hA7.C s.rs (16 * i) ⟨rfl, i, hia, by omega, by omega⟩).2 s.rs ⟨rfl, x⟩
  have hn1S' : ¬ S' n1 := fun x => (hA7.B n1 rfl).2 n1 ⟨rfl, x⟩
  unfold passV
  generalize hq : (passF T p).2.1 = q at hk ⊢
  generalize hv : (passF T p).2.2 = v at hk ⊢
  have hF : Rely ((s.rest1 all n1).add (idOn S')) W' W' := Rely.refl _ _
  refine Run.of_goes (R := Rely ((s.rest1 all n1).add (idOn S'))) (D := DC0) (S := fun g x => Run Try.prog false Ev Stop ⟨((s.rest1 all n1).add (idOn S')), 0, g, x⟩) (n := 30) (fun _ _ h => h) dc0_ok (fun _ _ h => h) ?_
  try walk_nrm
  u_op rl_trans hF
  u_op rl_trans hF
  u_op rl_trans hF
  refine Goes.stop (fun w₁ h₁ => ?_)
  replace hF := rl_trans hF h₁
  clear h₁

  refine Run.allocB (t := 38) (z := pk0V.cells) rfl rfl (by k_ne) (fun w₂ => by simp [go_sem, pk0V, Value.cells]) (fun w₂ => by simp [go_sem]) (fun w₂ h₂ => ?_)
  try walk_nrm
  have hR9 := hF.trans h₂
  obtain ⟨n2, hn2⟩ : ∃ n2, n2 = w₂.heap.size := ⟨_, rfl⟩
  have hn2S : ¬ S' n2 := fun x => by have := hT7.ten.bound n2 x; have := hR9.size; omega
  have hn21 : n2 ≠ n1 := by have := (Array.getElem?_eq_some_iff.1 hn8).1; have := hR9.size; omega
  have hn2r : n2 ≠ s.rs := by have := hR9.size; omega
  have hblk : (w₂.alloc (.cells pk0V.cells 38)).heap[n2]? = some (.cells pk0V.cells 38 (0, 0)) := by rw [hn2]; exact heap_alloc_new w₂ _
  have hR10 : Rely ((s.rest1 all n1).add (idOn S')) W' (w₂.alloc (.cells pk0V.cells 38)) := hR9.trans (rely_alloc w₂ _ (fun b hb => Nat.lt_of_lt_of_le (hb.elim (fun x => by rw [x]; exact (Array.getElem?_eq_some_iff.1 hn8).1) (fun ⟨_, hx, hy⟩ => hT7.ten.bound b (hx ▸ hy))) hR9.size) (fun b o hb => by rw [hb.1]; exact Nat.lt_of_lt_of_le (Nat.lt_of_lt_of_le hlt hs8) hR9.size) (fun b hb => hb.elim))
  rw [← hn2]
  generalize hw3 : w₂.alloc (.cells pk0V.cells 38) = w₃ at hblk hR10
  clear hF h₂ hn2 hR9 hw3
  refine Run.storeB (e := 38) (cur := pk0V.cells) (vs := pkC q) (off := 0) hE rfl rfl (by k_ne) rfl rfl rfl Try.sizeOf38 (ev_size 38) (one_pk q) (.inr rfl) (fun x => x) hblk (by simp [pk0V, Value.cells, pkC]) (fun w₄ h₄ => ?_)
  have hb4 := (h₄.blk n2 (.inr rfl)).trans hblk
  have hn4 := setRow_heap w₄ n2 _ (List.take 0 pk0V.cells.toList ++ (pkC q).toList ++ List.drop (0 + (pkC q).size) pk0V.cells.toList).toArray 38 (0, 0) hb4
  rw [show (List.take 0 pk0V.cells.toList ++ (pkC q).toList ++ List.drop (0 + (pkC q).size) pk0V.cells.toList).toArray = pkC q from rfl] at hn4 ⊢
  have hR11 : Rely ((s.rest1 all n1).add (idOn S')) W' (w₄.setRow n2 (pkC q)) := (hR10.trans (h₄.less (fun _ x => .inl x) (fun _ _ x => x) (fun _ x => x))).trans (rely_setRow w₄ n2 _ hb4 (by simp [pk0V, Value.cells, pkC]) (fun x => x.elim hn21 (fun ⟨_, hx, hy⟩ => hn2S (hx ▸ hy))) (fun o x => hn2r x.1) (fun x => x))
  generalize w₄.setRow n2 (pkC q) = w₅ at hn4 hR11
  clear h₄ hb4 hblk hR10
  have hF : Rely (((s.rest1 all n1).add (idOn S')).new n2) w₅ w₅ := Rely.refl _ _
  refine Run.of_goes (R := Rely (((s.rest1 all n1).add (idOn S')).new n2)) (D := DC0) (S := fun g x => Run Try.prog false Ev Stop ⟨(((s.rest1 all n1).add (idOn S')).new n2), 0, g, x⟩) (n := 30) (fun _ _ h => h) dc0_ok (fun _ _ h => h) ?_
  try walk_nrm
  u_op rl_trans hF
  u_c stepG_region_end rl_trans hF
  u_reg rl_trans hF
  u_op rl_trans hF
  u_op rl_trans hF
  refine Goes.stop (fun w₁ h₁ => ?_)
  replace hF := rl_trans hF h₁
  clear h₁

  have hn1a : w₁.heap[n1]? = some (.cells (plC i p) 131 (0, 0)) := (hF.blk n1 (.inl (.inl rfl))).trans ((hR11.blk n1 (.inl rfl)).trans hn8)
  refine Run.load1 (g := n1) (off := 0) (v := .int .i64 i) hE rfl rfl (by k_ne) rfl rfl Try.isAgg3 (ev_agg 3) (.inl (.inl rfl)) (fun x => x) (by simp [World.cell?, hn1a, plC]) ?_
  try walk_nrm
  have hn2a : w₁.heap[n2]? = some (.cells (pkC q) 38 (0, 0)) := (hF.blk n2 (.inr rfl)).trans hn4
  refine Run.loadB (e := 38) (cur := pkC q) (n := 15) (off := 0) hE rfl rfl (by k_ne) rfl rfl Try.isAgg38 (ev_agg 38) Try.sizeOf38 (ev_size 38) (.inr rfl) (fun x => x) hn2a (by simp [pkC]) ?_
  rw [show (List.take 15 (List.drop 0 (pkC q).toList)).toArray = pkC q from rfl]
  try walk_nrm
  simp only [pkC]
  refine Run.of_goes (R := Rely (((s.rest1 all n1).add (idOn S')).new n2)) (D := DC0) (S := fun g x => Run Try.prog false Ev Stop ⟨(((s.rest1 all n1).add (idOn S')).new n2), 0, g, x⟩) (n := 30) (fun _ _ h => h) dc0_ok (fun _ _ h => h) ?_
  try walk_nrm
  u_op rl_trans hF
  u_op rl_trans hF
  u_op rl_trans hF
  refine Goes.stop (fun w₁ h₁ => ?_)
  replace hF := rl_trans hF h₁
  clear h₁

  have hR12 : Rely ((s.rest1 all n1).add (idOn S')) W' w₁ := hR11.trans (hF.less (fun _ x => .inl x) (fun _ _ x => x) (fun _ x => x))
  have hrow12 : RowAt w₁ s.rs s.N := by
    obtain ⟨cur, e1, e2⟩ := hrow8
    obtain ⟨c1, e3, e4⟩ := hR12.shape _ _ _ _ e1
    exact ⟨c1, e3, e4.trans e2⟩
  refine Run.storeC (g := s.rs) (off := i * 16) (e := 62) (vs := reC q v) (n := 16 * s.N) hE rfl rfl (by k_ne) rfl rfl rfl Try.sizeOf62 (ev_size 62) (one_re q v) (fun jj hj => ⟨rfl, i, hia, by omega, by have : (reC q v).size = 16 := rfl; omega⟩) (fun x => x) hrow12 (by have : (reC q v).size = 16 := rfl; omega) (fun w₂ cur h₂ hc hcs => ?_)
  have hR13 : Rely ((s.rest1 all n1).add (idOn S')) W' w₂ := hR12.trans (h₂.less (fun _ x => .inl x) (fun _ _ x => x) (fun _ x => x))
  have hsz : (List.take (i * 16) cur.toList ++ (reC q v).toList ++ List.drop (i * 16 + (reC q v).size) cur.toList).toArray.size = cur.size := by
    have : (reC q v).size = 16 := rfl
    simp [this]
    omega
  have hcell : ∀ o, (w₂.setRow s.rs (List.take (i * 16) cur.toList ++ (reC q v).toList ++ List.drop (i * 16 + (reC q v).size) cur.toList).toArray).cell? ⟨s.rs, o, none⟩ = (List.take (i * 16) cur.toList ++ (reC q v).toList ++ List.drop (i * 16 + (reC q v).size) cur.toList)[o]? := fun o => by
    rw [cell_setRow_same _ _ _ _ _ _ _ hc]
    simp only [List.getElem?_toArray]
  have hcur : ∀ o, w₂.cell? ⟨s.rs, o, none⟩ = cur[o]? := fun o => by simp [World.cell?, hc]
  have hto : (List.take (i * 16) cur.toList).length = i * 16 := by simp; omega
  have hre : (reC q v).toList.length = 16 := rfl
  have hres : ResAt (w₂.setRow s.rs (List.take (i * 16) cur.toList ++ (reC q v).toList ++ List.drop (i * 16 + (reC q v).size) cur.toList).toArray) s.rs [(i, q, v)] := by
    intro x hx jj y hj
    simp only [List.mem_singleton] at hx
    subst hx
    dsimp only at hj ⊢
    have hj16 : jj < 16 := by
      have := (Array.getElem?_eq_some_iff.1 hj).1
      simpa [reC] using this
    rw [hcell, List.append_assoc, List.getElem?_append_right (by rw [hto]; omega), hto, List.getElem?_append_left (by rw [hre]; omega), show 16 * i + jj - i * 16 = jj by omega, Array.getElem?_toList]
    exact hj
  have hoth : ∀ o, ¬ (16 * i ≤ o ∧ o < 16 * i + 16) → s.cells all s.rs o → (w₂.setRow s.rs (List.take (i * 16) cur.toList ++ (reC q v).toList ++ List.drop (i * 16 + (reC q v).size) cur.toList).toArray).cell? ⟨s.rs, o, none⟩ = w.cell? ⟨s.rs, o, none⟩ := by
    intro o hno hso
    rw [← hcell8 o hso, ← hR13.cell _ _ hso, hcell, hcur]
    rcases Nat.lt_or_ge o (i * 16) with hl | hl
    · rw [List.append_assoc, List.getElem?_append_left (by rw [hto]; exact hl), List.getElem?_take_of_lt hl, Array.getElem?_toList]
    · rw [List.getElem?_append_right (by rw [List.length_append, hto, hre]; omega), List.length_append, hto, hre, List.getElem?_drop, show (reC q v).size = 16 from rfl, show i * 16 + 16 + (o - (i * 16 + 16)) = o by omega, Array.getElem?_toList]
  have hrow13 : RowAt (w₂.setRow s.rs (List.take (i * 16) cur.toList ++ (reC q v).toList ++ List.drop (i * 16 + (reC q v).size) cur.toList).toArray) s.rs s.N := ⟨_, setRow_heap _ _ _ _ _ _ hc, hsz.trans hcs⟩
  have hT13 : TenC (w₂.setRow s.rs (List.take (i * 16) cur.toList ++ (reC q v).toList ++ List.drop (i * 16 + (reC q v).size) cur.toList).toArray) S' s.g s.hp s.hi (passF T p).1 L' := hT7.keep (fun b hb => by
    have hne : b ≠ s.rs := fun e => hrs8 (e ▸ hb)
    rw [setRow_other _ _ _ _ hne]
    exact hR13.blk b (.inr ⟨b, rfl, hb⟩)) (by rw [setRow_size]; exact hR13.size)
  have hend := fun j' => hk _ S' L' j' hT13 hsub hnew hoth hres hrow13 (by rw [setRow_size]; exact Nat.le_trans hs8 hR13.size)
  refine Run.ctl rfl (fun _ => stepG_region_end) ?_
  refine Run.ctl rfl (fun _ => stepG_inBlock) ?_
  refine Run.ctlO (O' := s.own S' all) (fun b hb => .inl (.inr ⟨b, rfl, hb⟩)) (fun _ _ x => x) (fun _ x => x) rfl (fun _ => stepG_inLoop) ?_
  unfold WS.head at hend
  simp only [wLoop, loopOf, Try.f53, Option.getD_some, WS.tmps, WS.sl] at hend
  have hend2 := fun (x4 x5 x6 x7 x8 x9 x10 x13 x14 x15 x16 x17 x18 x19 x20 x21 x22 x23 x24 x25 x26 x27 x28 x29 : Value) => hend (fun m => match m with | 4 => x4 | 5 => x5 | 6 => x6 | 7 => x7 | 8 => x8 | 9 => x9 | 10 => x10 | 13 => x13 | 14 => x14 | 15 => x15 | 16 => x16 | 17 => x17 | 18 => x18 | 19 => x19 | 20 => x20 | 21 => x21 | 22 => x22 | 23 => x23 | 24 => x24 | 25 => x25 | 26 => x26 | 27 => x27 | 28 => x28 | 29 => x29 | _ => undef)
  exact hend2 _ _ _ _ _ _ _ _ _ _ _ _ _ _ _ _ _ _ _ _ _ _ _ _

end Go.Proofs.Ytgpplekabohneaa.Co

namespace Go.Proofs.Ytgpplekabohneaa.Co
open Go Go.Conc Go.RowKit Go.ConcR.Gen Go.ConcN.Gen
open Go.ConcR (DC0)

theorem Held.of {s : WS} {all : List Nat} {T : Tn} {done : List (Nat × Pk × Int)} {S : Nat → Prop} {L : List Cl} {g : Goroutine} {w : World} (h : TenC w S s.g s.hp s.hi T L) (hrs : ¬ S s.rs) (hwg : ¬ S s.Wg) (hres : ResAt w s.rs done) (hrow : RowAt w s.rs s.N) (hlt : s.rs < w.heap.size ∧ s.Wg < w.heap.size) :
    Held s all T done ⟨s.own S all, 0, g, w⟩ := ⟨rfl, ⟨S, L, h, rfl, hrs, hwg⟩, hres, hrow, hlt⟩

/-! ### its birth -/
/-- The goroutine that the go statement makes. -/
def WS.born (s : WS) (p : Program := Try.prog) : Goroutine := Conc.born p ⟨.fn (.func 53) #[], #[.pointer (some ⟨s.g, 0, none⟩), .chan (some s.c), s.sl, .pointer (some ⟨s.Wg, 0, none⟩)]⟩

theorem name53 : (Try.f53.name == "runtime.NumGoroutine") = false := by decide +kernel
theorem name85 : (Try.f85.name == "runtime.NumGoroutine") = false := by decide +kernel

theorem born_step (s : WS) (w : World) : stepG Try.prog false s.born w = .go (G (Frame.enter Try.prog 53 #[.pointer (some ⟨s.g, 0, none⟩), .chan (some s.c), s.sl, .pointer (some ⟨s.Wg, 0, none⟩)] .deferred) [born0]) w #[] := by
  have h1 : ¬ Try.f53.name = "runtime.NumGoroutine" := by simpa using name53
  have hb : Try.f53.body.isNone = false := rfl
  have hb2 : ¬ Try.f53.body = none := fun x => by rw [x] at hb; cases hb
  simp [WS.born, Conc.born, stepG, unwind, callDeferred, invoke, callFunc, Try.func53, h1, hb2, GStep.after, seen_none, G, born0]

set_option maxRecDepth 100000 in
theorem born_run (s : WS) {Ev : Own → Event → Prop} {Stop : Pos → Prop} {O : Own} {w : World} (hk : ∀ w₁ j, Rely O w w₁ → Run Try.prog false Ev Stop ⟨O, 0, s.head j, w₁⟩) : Run Try.prog false Ev Stop ⟨O, 0, s.born, w⟩ := by
  refine Run.say (es := #[]) rfl (born_step s) (by simp) ?_
  rw [enter_atD _ Try.func53 rfl]
  unfold WS.head at hk
  simp only [wLoop, loopOf, Try.f53, Option.getD_some, WS.tmps, WS.sl] at hk ⊢
  have hF : Rely O w w := Rely.refl O w
  refine Run.of_goes (R := Rely O) (D := DC0) (S := fun g x => Run Try.prog false Ev Stop ⟨O, 0, g, x⟩) (n := 40) (fun _ _ h => h) dc0_ok (fun _ _ h => h) ?_
  try walk_nrm
  u_c stepG_seq rl_trans hF
  u_reg rl_trans hF
  u_op rl_trans hF
  u_defer rl_trans hF
  u_c stepG_region_end rl_trans hF
  u_c stepG_seq rl_trans hF
  u_reg rl_trans hF
  u_op rl_trans hF
  u_c stepG_region_end rl_trans hF
  u_c stepG_block rl_trans hF
  u_c stepG_loop rl_trans hF
  refine Goes.stop (fun w₁ h₁ => ?_)
  replace hF := rl_trans hF h₁
  clear h₁

  have hk2 := fun (x4 x5 x6 x7 x8 x9 x10 x13 x14 x15 x16 x17 x18 x19 x20 x21 x22 x23 x24 x25 x26 x27 x28 x29 : Value) => hk w₁ (fun m => match m with | 4 => x4 | 5 => x5 | 6 => x6 | 7 => x7 | 8 => x8 | 9 => x9 | 10 => x10 | 13 => x13 | 14 => x14 | 15 => x15 | 16 => x16 | 17 => x17 | 18 => x18 | 19 => x19 | 20 => x20 | 21 => x21 | 22 => x22 | 23 => x23 | 24 => x24 | 25 => x25 | 26 => x26 | 27 => x27 | 28 => x28 | 29 => x29 | _ => undef) hF
  exact hk2 _ _ _ _ _ _ _ _ _ _ _ _ _ _ _ _ _ _ _ _ _ _ _ _

end Go.Proofs.Ytgpplekabohneaa.Co

namespace Go.Proofs.Ytgpplekabohneaa.Co
open Go Go.Conc
open Go.ConcR (KK WgAt stA smA rd wr mk)

section
variable (P : Program) (Ev : Own → Event → Prop) (Q : Own → World → Prop) (Wg : Nat)
def D4S (x : Pos) : Prop := x.d = 1 ∧ x.g.status = .running ∧ mayWake P x.g = true ∧ Q x.O x.w ∧ (WgAt 125 Wg x.w 0 0 → ∃ g' q, stepG P false x.g x.w = .go g' (x.w.setCell (smA Wg) (.int .u32 1)) (semEvents (smA Wg)) ∧ QuitsD P q 1 g')
def D3S (x : Pos) : Prop := x.d = 1 ∧ x.g.status = .running ∧ (WgAt 125 Wg x.w 1 0 → ∃ g', stepG P false x.g x.w = .go g' (x.w.setCell (stA Wg) (.int .u64 0)) #[wr (stA Wg)] ∧ Run P false Ev (D4S P Q Wg) ⟨x.O, 1, g', x.w.setCell (stA Wg) (.int .u64 0)⟩)
def D2S (x : Pos) : Prop := x.d = 1 ∧ x.g.status = .running ∧ (WgAt 125 Wg x.w 1 0 → ∃ g', stepG P false x.g x.w = .go g' x.w #[rd (stA Wg)] ∧ Run P false Ev (D3S P Ev Q Wg) ⟨x.O, 1, g', x.w⟩)
def D1S (x : Pos) : Prop := x.d = 1 ∧ x.g.status = .running ∧ Q x.O x.w ∧ ∀ v wt : Nat, wt ≤ 1 → v < 2147483647 → WgAt 125 Wg x.w (((v : Int) + 1) * KK + wt) 0 →
  ∃ g', stepG P false x.g x.w = .go g' (x.w.setCell (stA Wg) (.int .u64 ((v : Int) * KK + wt))) #[rd (stA Wg), wr (stA Wg)] ∧
    ((v = 0 ∧ wt = 1) → Run P false Ev (D2S P Ev Q Wg) ⟨x.O, 1, g', x.w.setCell (stA Wg) (.int .u64 ((v : Int) * KK + wt))⟩) ∧ (¬ (v = 0 ∧ wt = 1) → ∃ q, QuitsD P q 1 g')
def RelS (x : Pos) : Prop := x.d = 0 ∧ x.g.status = .running ∧ ∃ g', stepG P false x.g x.w = .go g' x.w #[mk (.releaseMerge (stA Wg))] ∧ Run P false Ev (D1S P Ev Q Wg) ⟨x.O, 0, g', x.w⟩
end

/-- What stands while the others act, and is not hung on the group's cells. -/
structure Steady (Q : Own → World → Prop) (Wg : Nat) : Prop where
  rely : ∀ O w w₁, Q O w → Rely O w w₁ → Q O w₁
  wg : ∀ O w i v st sm, i < 2 → Q O w → WgAt 125 Wg w st sm → Q O (w.setCell ⟨Wg, i, none⟩ v)

end Go.Proofs.Ytgpplekabohneaa.Co
