/- The starter from its entry to its loop. · A batch's packets, passed by goroutines of their tenants': from the call to the return, on every tape. · A batch, from its call to its return, in worlds without what waits. -/
import Derived.Test.YtgpplekabohneaaYaw
import Derived.Laws.MakeOwn
import Derived.Carry
import Derived.Conc.AppendWalk
import Derived.Test.YtgpplekabohneaaYal
namespace Go.Proofs.Ytgpplekabohneaa.Co
open Go Go.Conc Go.RowKit Go.ConcR.Gen Go.ConcN.Gen
open Go.ConcR (DC0 KK WgAt)

theorem op_makeRes {a : Go.Act} {o : Oper} {x y : Operand} {N : Nat} (hop : o.op = .makeSlice 58 x y) (hx : a.eval x = .int .i64 N) (hy : a.eval y = .int .i64 N) (hN : N < 2147483647) (w : World) :
    (execOp a.eval o).run Try.prog w = .ok (.value (.slice (some ⟨w.heap.size, 0, none⟩) N N)) (w.alloc (.cells (madeCells (reC pk0 0) (N * 16)) 62)) ∧ (execOp a.eval o).events Try.prog w #[] = #[] := by
  have hi : Try.prog.info? 62 = some Try.t62 := by kernel_rfl
  have hz : Try.t62.zero = some (.agg (reC pk0 0)) := by kernel_rfl
  have hs : Try.t62.size = 16 := by kernel_rfl
  have hb : Try.t62.bytes ≤ 1000 := by decide +kernel
  have hb1 : Try.t62.bytes * N ≤ 1000 * 2147483647 := Nat.mul_le_mul hb (by omega)
  have hb2 : (Try.t62.bytes : Int) * N ≤ 140737488355328 := by
    have h2 : ((Try.t62.bytes * N : Nat) : Int) ≤ 140737488355328 := by omega
    rwa [Int.natCast_mul] at h2
  have h1 := run_make (P := Try.prog) w 58 62 Try.t62 (.agg (reC pk0 0)) Try.underlying58 hi hz .i64 .i64 N N (by omega) (by omega) (by omega) (by omega)
  have h2 := events_make (P := Try.prog) w 58 62 Try.t62 (.agg (reC pk0 0)) Try.underlying58 hi hz .i64 .i64 N N (by omega) (by omega) (by omega) (by omega) (by rw [Int.toNat_natCast, Nat.mul_comm]; omega) #[]
  rw [hs] at h1
  simp only [Int.toNat_natCast, Value.cells] at h1
  unfold execOp
  simp only [hop, hx, hy]
  exact ⟨by simp [h1], by simpa [h1] using h2⟩

theorem op_makeQ {a : Go.Act} {o : Oper} (hop : o.op = .makeMap 115 none) (w : World) :
    (execOp a.eval o).run Try.prog w = .ok (.value (.map (some w.heap.size))) (w.alloc (.map #[] 0)) ∧ (execOp a.eval o).events Try.prog w #[] = #[] := by
  unfold execOp
  simp only [hop]
  refine ⟨?_, ?_⟩
  · simp [go_sem, Instr.makeMap]
  · simp [go_sem, Instr.makeMap]

theorem made_at {N k jj : Nat} (hk : k < N) (hj : jj < 16) : (madeCells (reC pk0 0) (N * 16))[16 * k + jj]? = (reC pk0 0)[jj]? := by
  have hlt : 16 * k + jj < N * 16 := by omega
  have hs : (reC pk0 0).size = 16 := rfl
  unfold madeCells
  simp [hlt, hs]
  rw [Nat.mod_eq_of_lt hj]
  have hj' : jj < (reC pk0 0).size := hj
  simp [hj']

set_option maxRecDepth 100000 in
set_option maxHeartbeats 2000000 in
theorem entry_run (pa : Option Addr) (b r pb off cap N : Nat) (ot : Nat → Prop) (w0 : World) (hN : N < 2147483647) (c : Frame) (cs : List Frame) {Ev : Own → Event → Prop} {Stop : Pos → Prop} {O : Own} {w : World} (hO : Lies O w)
    (hn : ∀ rs q Wg w₁ j, w.heap.size ≤ rs → rs < q → q < Wg → w₁.heap[rs]? = some (.cells (madeCells (reC pk0 0) (N * 16)) 62 (0, 0)) → w₁.heap[q]? = some (.map #[] 0) → WgAt 125 Wg w₁ 0 0 → Rely O w w₁ → Run Try.prog true Ev Stop ⟨((O.new rs).new q).new Wg, 0, (MS.head ⟨b, r, pb, off, cap, N, rs, q, Wg, ot, w0, pa⟩ (c :: cs) 0 j), w₁⟩) :
    Run Try.prog true Ev Stop ⟨O, 0, G (Frame.enter Try.prog 32 #[.pointer (some ⟨b, 0, none⟩),   .slice pa N cap] .normal) (c :: cs), w⟩ := by
  rw [enter_at _ Try.func32 rfl]
  unfold MS.head at hn
  simp only [mLoop, firstLoop, mRest, behind, Try.f32, Option.getD_some, MS.tmps, MS.ps, MS.sl] at hn ⊢
  have hF : Rely O w w := Rely.refl _ _
  refine Run.of_goes (R := Rely O) (D := DC0) (S := fun g x => Run Try.prog true Ev Stop ⟨O, 0, g, x⟩) (n := 40) (fun _ _ h => h) dc0_ok (fun _ _ h => h) ?_
  try walk_nrm
  u_c stepG_seq rl_trans hF
  u_reg rl_trans hF
  u_op rl_trans hF
  u_c stepG_region_end rl_trans hF
  u_c stepG_seq rl_trans hF
  u_reg rl_trans hF
  u_op rl_trans hF
  u_op rl_trans hF
  refine Goes.stop (fun w₁ h₁ => ?_)
  replace hF := rl_trans hF h₁
  clear h₁

  refine Run.oper rfl rfl (by k_ne) fun w₂ h₂ => ⟨_, _, O.new w₂.heap.size, (op_makeRes rfl rfl rfl hN w₂).1, guar_alloc O w₂ _, fun e he => by rw [(op_makeRes rfl rfl rfl hN w₂).2] at he; simp at he, ?_⟩
  have hR2 := hF.trans h₂
  obtain ⟨rs, hrs⟩ : ∃ x, x = w₂.heap.size := ⟨_, rfl⟩
  have hs1 : w.heap.size ≤ rs := by rw [hrs]; exact hR2.size
  have hO2 := hO.wide hR2.size
  have hR3 : Rely O w (w₂.alloc (.cells (madeCells (reC pk0 0) (N * 16)) 62)) := hR2.trans (rely_alloc w₂ _ hO2.B hO2.C hO2.X)
  have hc3 : (w₂.alloc (.cells (madeCells (reC pk0 0) (N * 16)) 62)).heap[rs]? = some (.cells (madeCells (reC pk0 0) (N * 16)) 62 (0, 0)) := by rw [hrs]; exact heap_alloc_new w₂ _
  have hz3 : rs < (w₂.alloc (.cells (madeCells (reC pk0 0) (N * 16)) 62)).heap.size := (Array.getElem?_eq_some_iff.1 hc3).1
  rw [← hrs]
  generalize w₂.alloc (.cells (madeCells (reC pk0 0) (N * 16)) 62) = w₃ at hR3 hc3 hz3
  clear hF h₂ hR2 hrs hO2
  have hF : Rely (O.new rs) w₃ w₃ := Rely.refl _ _
  have hO3 : Lies (O.new rs) w₃ := ⟨fun b hb => hb.elim ((hO.wide hR3.size).B b) (fun e => by rw [e]; exact hz3), (hO.wide hR3.size).C, (hO.wide hR3.size).X⟩
  refine Run.of_goes (R := Rely (O.new rs)) (D := DC0) (S := fun g x => Run Try.prog true Ev Stop ⟨(O.new rs), 0, g, x⟩) (n := 30) (fun _ _ h => h) dc0_ok (fun _ _ h => h) ?_
  try walk_nrm
  u_op rl_trans hF
  u_c stepG_region_end rl_trans hF
  u_c stepG_seq rl_trans hF
  u_reg rl_trans hF
  refine Goes.stop (fun w₁ h₁ => ?_)
  replace hF := rl_trans hF h₁
  clear h₁

  refine Run.oper rfl rfl (by k_ne) fun w₄ h₄ => ⟨_, _, (O.new rs).new w₄.heap.size, (op_makeQ rfl w₄).1, guar_alloc (O.new rs) w₄ _, fun e he => by rw [(op_makeQ rfl w₄).2] at he; simp at he, ?_⟩
  have hR4 := hF.trans h₄
  obtain ⟨q, hq⟩ : ∃ x, x = w₄.heap.size := ⟨_, rfl⟩
  have hs2 : rs < q := by rw [hq]; exact Nat.lt_of_lt_of_le hz3 hR4.size
  have hO4 := hO3.wide hR4.size
  have hR5 : Rely (O.new rs) w₃ (w₄.alloc (.map #[] 0)) := hR4.trans (rely_alloc w₄ _ hO4.B hO4.C hO4.X)
  have hc5 : (w₄.alloc (.map #[] 0)).heap[q]? = some (.map #[] 0) := by rw [hq]; exact heap_alloc_new w₄ _
  have hz5 : q < (w₄.alloc (.map #[] 0)).heap.size := (Array.getElem?_eq_some_iff.1 hc5).1
  rw [← hq]
  generalize w₄.alloc (.map #[] 0) = w₅ at hR5 hc5 hz5
  clear hF h₄ hR4 hq hO4
  have hF : Rely ((O.new rs).new q) w₅ w₅ := Rely.refl _ _
  have hO5 : Lies ((O.new rs).new q) w₅ := ⟨fun b hb => hb.elim ((hO3.wide hR5.size).B b) (fun e => by rw [e]; exact hz5), (hO3.wide hR5.size).C, (hO3.wide hR5.size).X⟩
  refine Run.of_goes (R := Rely ((O.new rs).new q)) (D := DC0) (S := fun g x => Run Try.prog true Ev Stop ⟨((O.new rs).new q), 0, g, x⟩) (n := 30) (fun _ _ h => h) dc0_ok (fun _ _ h => h) ?_
  try walk_nrm
  u_op rl_trans hF
  u_c stepG_region_end rl_trans hF
  u_c stepG_seq rl_trans hF
  u_reg rl_trans hF
  refine Goes.stop (fun w₁ h₁ => ?_)
  replace hF := rl_trans hF h₁
  clear h₁

  refine Run.allocB (t := 125) (z := #[.int .u64 0, .int .u32 0]) rfl rfl (by k_ne) (fun w₆ => by simp [go_sem, Value.cells]) (fun w₆ => by simp [go_sem]) (fun w₆ h₆ => ?_)
  try walk_nrm
  have hR6 := hF.trans h₆
  obtain ⟨Wg, hWg⟩ : ∃ x, x = w₆.heap.size := ⟨_, rfl⟩
  have hs3 : q < Wg := by rw [hWg]; exact Nat.lt_of_lt_of_le hz5 hR6.size
  have hO6 := hO5.wide hR6.size
  have hR7 : Rely ((O.new rs).new q) w₅ (w₆.alloc (.cells #[.int .u64 0, .int .u32 0] 125)) := hR6.trans (rely_alloc w₆ _ hO6.B hO6.C hO6.X)
  have hc7 : (w₆.alloc (.cells #[.int .u64 0, .int .u32 0] 125)).heap[Wg]? = some (.cells #[.int .u64 0, .int .u32 0] 125 (0, 0)) := by rw [hWg]; exact heap_alloc_new w₆ _
  rw [← hWg]
  generalize w₆.alloc (.cells #[.int .u64 0, .int .u32 0] 125) = w₇ at hR7 hc7
  clear hF h₆ hR6 hWg hO6
  have hF : Rely (((O.new rs).new q).new Wg) w₇ w₇ := Rely.refl _ _
  refine Run.of_goes (R := Rely (((O.new rs).new q).new Wg)) (D := DC0) (S := fun g x => Run Try.prog true Ev Stop ⟨(((O.new rs).new q).new Wg), 0, g, x⟩) (n := 30) (fun _ _ h => h) dc0_ok (fun _ _ h => h) ?_
  try walk_nrm
  u_c stepG_region_end rl_trans hF
  u_c stepG_seq rl_trans hF
  u_c stepG_seq rl_trans hF
  u_reg rl_trans hF
  u_op rl_trans hF
  u_op rl_trans hF
  u_op rl_trans hF
  u_c stepG_region_end rl_trans hF
  u_c stepG_block rl_trans hF
  u_c stepG_loop rl_trans hF
  refine Goes.stop (fun w₁ h₁ => ?_)
  replace hF := rl_trans hF h₁
  clear h₁

  have hrs1 : w₁.heap[rs]? = some (.cells (madeCells (reC pk0 0) (N * 16)) 62 (0, 0)) := (hF.blk rs (.inl (.inl (.inr rfl)))).trans ((hR7.blk rs (.inl (.inr rfl))).trans ((hR5.blk rs (.inr rfl)).trans hc3))
  have hq1 : w₁.heap[q]? = some (.map #[] 0) := (hF.blk q (.inl (.inr rfl))).trans ((hR7.blk q (.inr rfl)).trans hc5)
  have hW1 : WgAt 125 Wg w₁ 0 0 := (hF.blk Wg (.inr rfl)).trans hc7
  have hRe : Rely O w w₁ := ((hR3.trans (hR5.less (fun _ x => .inl x) (fun _ _ x => x) (fun _ x => x))).trans (hR7.less (fun _ x => .inl (.inl x)) (fun _ _ x => x) (fun _ x => x))).trans (hF.less (fun _ x => .inl (.inl (.inl x))) (fun _ _ x => x) (fun _ x => x))
  have hk2 := fun (x2 x3 x8 x9 x10 x11 x12 x13 x14 x15 x16 x17 x18 x22 x23 x24 x25 x26 x27 x28 x29 x30 x31 x32 x33 x34 x35 x36 x37 x38 x39 x40 x41 x42 x43 x44 x45 x46 x47 x48 x49 x50 x51 x52 x53 x54 x55 x56 x57 x58 x59 x60 x61 x62 x63 x64 x65 x66 x67 x68 x69 x70 x71 x72 x73 : Value) => hn rs q Wg w₁ (fun n => match n with | 2 => x2 | 3 => x3 | 8 => x8 | 9 => x9 | 10 => x10 | 11 => x11 | 12 => x12 | 13 => x13 | 14 => x14 | 15 => x15 | 16 => x16 | 17 => x17 | 18 => x18 | 22 => x22 | 23 => x23 | 24 => x24 | 25 => x25 | 26 => x26 | 27 => x27 | 28 => x28 | 29 => x29 | 30 => x30 | 31 => x31 | 32 => x32 | 33 => x33 | 34 => x34 | 35 => x35 | 36 => x36 | 37 => x37 | 38 => x38 | 39 => x39 | 40 => x40 | 41 => x41 | 42 => x42 | 43 => x43 | 44 => x44 | 45 => x45 | 46 => x46 | 47 => x47 | 48 => x48 | 49 => x49 | 50 => x50 | 51 => x51 | 52 => x52 | 53 => x53 | 54 => x54 | 55 => x55 | 56 => x56 | 57 => x57 | 58 => x58 | 59 => x59 | 60 => x60 | 61 => x61 | 62 => x62 | 63 => x63 | 64 => x64 | 65 => x65 | 66 => x66 | 67 => x67 | 68 => x68 | 69 => x69 | 70 => x70 | 71 => x71 | 72 => x72 | 73 => x73 | _ => undef) hs1 hs2 hs3 hrs1 hq1 hW1 hRe
  exact hk2 _ _ _ _ _ _ _ _ _ _ _ _ _ _ _ _ _ _ _ _ _ _ _ _ _ _ _ _ _ _ _ _ _ _ _ _ _ _ _ _ _ _ _ _ _ _ _ _ _ _ _ _ _ _ _ _ _ _ _ _ _ _ _ _ _

end Go.Proofs.Ytgpplekabohneaa.Co

namespace Go.Proofs.Ytgpplekabohneaa.Co
open Go Go.Conc Go.ConcN Go.RowKit
open Go.ConcR (KK WgAt stA smA)

/-- What is known of the trace besides: n goroutines; all touches are of memory below B; no plain release. -/
structure Tp (n B : Nat) (t : Trace) : Prop where
  gs : ∀ (i : Nat) (op : MemOp), t[i]? = some op → op.g < n
  low : ∀ i a, touchAt t i = some a → a.loc.low B ∧ a.loc.isMemory = true
  rel : ∀ a, NoRelease a t

theorem Tp.mute {n B : Nat} {t : Trace} {ops : Array MemOp} (h : Tp n B t) (hm : MuteOps n ops) : Tp n B (t ++ ops) := by
  obtain ⟨i, fn, pos, es, rfl, hpos, hi, hmu⟩ := hm
  refine ⟨fun j op hj => ?_, fun j a ha => ?_, fun a => (h.rel a).app fun op hop e => ?_⟩
  · rcases getElem?_append_cases hj with ⟨_, h'⟩ | ⟨_, h'⟩
    · exact h.gs j op h'
    · rw [ops_g op h']; exact hi
  · rcases (touch_cases ha).2 with ⟨_, h'⟩ | ⟨_, op, h1, _, h2⟩
    · exact h.low j a h'
    · obtain ⟨e, he, rfl⟩ := Go.Conc.mem_ofEvents h1
      dsimp only at h2
      rw [touch_mute (hmu e he)] at h2; cases h2
  · obtain ⟨x, hx, rfl⟩ := Go.Conc.mem_ofEvents hop
    have h1 := hmu x hx
    have h2 := Go.ConcR.loc_of_ofEvent e
    obtain ⟨loc, wr, sy⟩ := x
    dsimp only at h2
    subst h2
    cases h1

/-- What a box and a batch's results are, behind the batch. -/
structure PassEnd (b r rs N : Nat) (C C' : List BC) (all : List (Nat × Pk)) (ot : Nat → Prop) (w w' : World) : Prop where
  same : C'.map (fun x => (x.tag, x.g, x.hp, x.hi, x.T)) = C.map fun x => (x.tag, x.g, x.hp, x.hi, finT x.T (ofTag x.tag all))
  box : w'.heap[b]? = some (.cells #[.map (some r)] 82 (0, 0))
  map : ∃ es c, w'.heap[r]? = some (.map es c) ∧ es.toList.map (fun e => (e.key, e.val)) = C.map fun x => (Value.int .i64 x.tag, ptrV x.g)
  ten : ∀ x ∈ C', TenC w' x.S x.g x.hp x.hi x.T x.L ∧ ¬ x.S b ∧ ¬ x.S r ∧ ¬ x.S rs ∧ ∀ k, ot k → ¬ x.S k
  apart : C'.Pairwise fun x y => x.tag ≠ y.tag ∧ ∀ k, x.S k → ¬ y.S k
  row : RowAt w' rs N
  res : ∀ x ∈ C, ResAt w' rs (finR x.T (ofTag x.tag all))
  nob : ∀ y ∈ all, y.2.tag ∉ C.map (·.tag) → ∀ jj v, (reC pk0 1)[jj]? = some v → w'.cell? ⟨rs, 16 * y.1 + jj, none⟩ = some v
  oth : ∀ k, ot k → w'.heap[k]? = w.heap[k]?
  fresh : w.heap.size ≤ rs
  bg : w'.os = w.os ∧ w'.output = w.output

/-- What the starter owns behind the batch. -/
def ownE (b r rs : Nat) (C' : List BC) (ot : Nat → Prop) : Own := ⟨fun k => k = b ∨ k = r ∨ k = rs ∨ ot k ∨ ∃ x ∈ C', x.S k, fun _ _ => False, fun _ => False⟩

theorem ofTag_nil {t : Int} {all : List (Nat × Pk)} (h : ∀ y ∈ all, y.2.tag ≠ t) : ofTag t all = [] := by
  unfold ofTag
  rw [List.filter_eq_nil_iff]
  intro y hy
  simpa using h y hy

theorem last_len (has : Int → Bool) : ∀ (l : List Pk) (i : Nat) (tags : List Int), (lastTags has (plF i l) tags).length ≤ tags.length + l.length
  | [], _, tags => by simp [plF, lastTags]
  | p :: l, i, tags => by
    rw [plF]
    unfold lastTags
    split
    · split
      · have := last_len has l (i + 1) tags
        simp only [List.length_cons]; omega
      · have := last_len has l (i + 1) (tags ++ [p.tag])
        simp only [List.length_append, List.length_cons, List.length_nil] at this ⊢; omega
    · have := last_len has l (i + 1) tags
      simp only [List.length_cons]; omega

/-- FROM THE CALL TO THE RETURN. -/
theorem passAll_runs {Shun : Loc → Prop} {gs : Array Goroutine} {sl : Option (Nat × Nat)} {t : Trace} {q : Nat → Nat} {pa : Option Addr} {b r pb off cap : Nat} {C : List BC} {ps : List Pk} {ot : Nat → Prop} {w : World} {c : Frame} {cs : List Frame}
    (hb : Bes Try.prog Shun ⟨⟨fun x => x = b ∨ x = r ∨ x = pb ∨ ot x ∨ ∃ y ∈ C, y.S x, fun _ _ => False, fun _ => False⟩, 0, G (Frame.enter Try.prog 32 #[.pointer (some ⟨b, 0, none⟩), .slice pa ps.length cap] .normal) (c :: cs), w⟩ gs t q) (hT : Tp gs.size w.heap.size t)
    (hN : ps.length < 2147483647) (hpr : ∀ p ∈ ps, 1 ≤ p.proto ∧ p.proto ≤ 3) (hbox : w.heap[b]? = some (.cells #[.map (some r)] 82 (0, 0))) (hmap : ∃ es c, w.heap[r]? = some (.map es c) ∧ es.toList.map (fun e => (e.key, e.val)) = C.map fun x => (Value.int .i64 x.tag, ptrV x.g))
    (hpk : ∃ cur e, w.heap[pb]? = some (.cells cur e (0, 0)) ∧ off + 15 * ps.length ≤ cur.size ∧ ∀ k p, ps[k]? = some p → ((cur.toList.drop (off + k * 15)).take 15).toArray = pkC p) (hten : ∀ x ∈ C, TenC w x.S x.g x.hp x.hi x.T x.L) (hap : C.Pairwise fun x y => x.tag ≠ y.tag ∧ ∀ k, x.S k → ¬ y.S k)
    (hS : ∀ x ∈ C, ∀ k, x.S k → k ≠ b ∧ k ≠ r ∧ k ≠ pb ∧ ¬ ot k) (hot : ∀ k, ot k → k < w.heap.size) (hpa : ps.length = 0 ∨ pa = some ⟨pb, off, none⟩) :
    Reaches Try.prog (crowd gs w sl) t fun m' t' => ∃ rs C' Wg gs' w' sl' q', m' = crowd gs' w' sl' ∧ PassEnd b r rs ps.length C C' (plF 0 ps) ot w w' ∧ w.heap.size ≤ Wg ∧ Live Wg w' ∧ Bes Try.prog (fun l => Shun l ∨ ShN Wg l) ⟨ownE b r rs C' ot, 0, G (c.finish (.slice (some ⟨rs, 0, none⟩) ps.length ps.length)) cs, w'⟩ gs' t' q' := by
  have lt : ∀ {x : Nat} {o : Obj} {w : World}, w.heap[x]? = some o → x < w.heap.size := fun y => (Array.getElem?_eq_some_iff.1 y).1
  have hbl := lt hbox
  obtain ⟨es, cl, hes, hem⟩ := hmap
  have hrl := lt hes
  obtain ⟨cur, e, hcur, hle, hpks⟩ := hpk
  have hpl := lt hcur
  have hSl : ∀ x ∈ C, ∀ k, x.S k → k < w.heap.size := fun x hx k hk => (hten x hx).ten.bound k hk
  generalize hO0 : (⟨fun x => x = b ∨ x = r ∨ x = pb ∨ ot x ∨ ∃ y ∈ C, y.S x, fun _ _ => False, fun _ => False⟩ : Own) = O0 at hb
  have hOb : O0.B b := by rw [← hO0]; exact .inl rfl
  have hOr : O0.B r := by rw [← hO0]; exact .inr (.inl rfl)
  have hOp : O0.B pb := by rw [← hO0]; exact .inr (.inr (.inl rfl))
  have hOo : ∀ k, ot k → O0.B k := fun k hk => by rw [← hO0]; exact .inr (.inr (.inr (.inl hk)))
  have hOS : ∀ x ∈ C, ∀ k, x.S k → O0.B k := fun x hx k hk => by rw [← hO0]; exact .inr (.inr (.inr (.inr ⟨x, hx, hk⟩)))
  have hlies : Lies O0 w := by
    rw [← hO0]
    refine ⟨?_, fun _ _ x => x.elim, fun _ x => x.elim⟩
    rintro k (rfl | rfl | rfl | hk | ⟨x, hx, hk⟩)
    · exact hbl
    · exact hrl
    · exact hpl
    · exact hot k hk
    · exact hSl x hx k hk
  -- the entry, alone but for leavers
  have hent : Run Try.prog true (fun _ _ => False) (fun y => ∃ rs qq Wg j, w.heap.size ≤ rs ∧ rs < qq ∧ qq < Wg ∧ y.w.heap[rs]? = some (.cells (madeCells (reC pk0 0) (ps.length * 16)) 62 (0, 0)) ∧ y.w.heap[qq]? = some (.map #[] 0) ∧ WgAt 125 Wg y.w 0 0 ∧ Rely O0 w y.w ∧ y.d = 0 ∧ y.O = ((O0.new rs).new qq).new Wg ∧ y.g = MS.head ⟨b, r, pb, off, cap, ps.length, rs, qq, Wg, ot, w, pa⟩ (c :: cs) 0 j) ⟨O0, 0, G (Frame.enter Try.prog 32 #[.pointer (some ⟨b, 0, none⟩), .slice pa ps.length cap] .normal) (c :: cs), w⟩ := by
    refine entry_run pa b r pb off cap ps.length ot w hN c cs hlies fun rs qq Wg w₁ j h1 h2 h3 h4 h5 h6 h7 => ?_
    refine Run.here fun w₂ h₂ => ⟨rs, qq, Wg, j, h1, h2, h3, ?_, ?_, ?_, ?_, rfl, rfl, rfl⟩
    · exact (h₂.blk rs (.inl (.inl (.inr rfl)))).trans h4
    · exact (h₂.blk qq (.inl (.inr rfl))).trans h5
    · exact (h₂.blk Wg (.inr rfl)).trans h6
    · exact h7.trans (h₂.less (fun _ x => .inl (.inl (.inl x))) (fun _ _ x => x) (fun _ x => x))
  refine (run_beside (Tp := Tp gs.size w.heap.size) (n := gs.size) (fun _ _ h => h.elim) (fun t fn pos es O ht he => by
    have : es = #[] := Array.eq_empty_of_size_eq_zero (by
      apply Classical.byContradiction
      intro hne
      exact he es[0] (Array.getElem_mem (by omega)))
    subst this
    have e : t ++ MemOp.ofEvents 0 fn pos #[] = t := by simp [MemOp.ofEvents]
    rw [e]; exact ht) (fun t ops ht hm => ht.mute hm) hent (sl := sl) rfl hT hb).bind ?_
  rintro m1 t1 ⟨y, gs1, sl1, q1, rfl, hgs1, hb1, ⟨rs, qq, Wg, j, h1, h2, h3, h4, h5, h6, h7, h8, h9, h10⟩, hT1, _⟩
  obtain ⟨yO, yd, yg, w1⟩ := y
  dsimp only at hb1 h4 h5 h6 h7 h8 h9 h10 ⊢
  subst h8 h9 h10
  -- the machine of the batch
  generalize hm : (⟨b, r, pb, off, cap, ps.length, rs, qq, Wg, ot, w, pa⟩ : MS) = m at hb1
  have mb : m.b = b := by rw [← hm]
  have mr : m.r = r := by rw [← hm]
  have mp : m.pb = pb := by rw [← hm]
  have mo : m.off = off := by rw [← hm]
  have mpa : m.pa = pa := by rw [← hm]
  have mN : m.N = ps.length := by rw [← hm]
  have mrs : m.rs = rs := by rw [← hm]
  have mq : m.q = qq := by rw [← hm]
  have mW : m.Wg = Wg := by rw [← hm]
  have mot : m.ot = ot := by rw [← hm]
  have mw : m.w0 = w := by rw [← hm]
  have hbase : ∀ k, mBase m k ↔ k = b ∨ k = r ∨ k = pb ∨ k = qq ∨ k = Wg := fun k => by unfold mBase; rw [mb, mr, mp, mq, mW]
  have hFix : Fix m C := by
    refine ⟨fun x hx k hk => ?_, fun x hx k hk => by rw [mot]; exact (hS x hx k hk).2.2.2, fun k hk => ?_, hap, ?_, by rw [mq, mW]; omega, by rw [mb, mW]; omega, by rw [mr, mW]; omega, by rw [mp, mW]; omega, by rw [mb, mq]; omega, by rw [mr, mq]; omega, by rw [mp, mq]; omega, by rw [mN]; omega, by rw [mN, mp, mo, mpa]; exact hpa, by rw [mN]; exact hN⟩
    · have hl := hSl x hx k hk
      obtain ⟨s1, s2, s3, _⟩ := hS x hx k hk
      rw [hbase, mrs]
      refine ⟨?_, by omega⟩
      rintro (e | e | e | e | e)
      · exact s1 e
      · exact s2 e
      · exact s3 e
      · omega
      · omega
    · rw [mot] at hk
      have s0 := hot k hk
      rw [mq, mW, mrs]
      exact ⟨by omega, by omega, by omega⟩
    · rw [hbase, mrs]
      rintro (e | e | e | e | e) <;> omega
  have hst0 : StOk C [] := ⟨List.nodup_nil, by simp, List.nodup_nil⟩
  let has : Int → Bool := fun t => decide (t ∈ C.map (·.tag))
  have hhas : ∀ t, has t = true ↔ t ∈ C.map (·.tag) := fun t => by simp [has]
  have hLI : LI m C ps (plF 0 ps) ([] : List Pk).length [] w1 := by
    refine ⟨by rw [mb, mr]; exact (h7.blk b hOb).trans hbox, ⟨es, cl, by rw [mr]; exact (h7.blk r hOr).trans hes, hem⟩, ⟨cur, e, by rw [mp]; exact (h7.blk pb hOp).trans hcur, by rw [mo, mN]; exact hle, by rw [mo]; exact hpks⟩, by rw [mq]; exact h5, by rw [mW]; simpa using h6, fun x hx _ => (hten x hx).keep (fun k hk => h7.blk k (hOS x hx k hk)) h7.size, ?_, fun y hy ht jj v hj => ?_, by simp, fun k hk => ?_, ?_⟩
    · rw [mrs, mN]
      exact ⟨_, h4, by rw [size_madeCells]; omega⟩
    · have hj16 : jj < 16 := by
        have := (Array.getElem?_eq_some_iff.1 hj).1
        simpa [reC] using this
      have hy1 : y.1 < ps.length := by have := (plF_mem hy).2.1; omega
      rw [if_neg (by simp)] at hj
      rw [mrs, cell_at h4, made_at hy1 hj16]
      exact hj
    · rw [mot] at hk
      rw [mw]
      exact ⟨Nat.lt_of_lt_of_le (hot k hk) h7.size, h7.blk k (hOo k hk)⟩
    · rw [mw]; exact ⟨h7.os, h7.output⟩
  obtain ⟨fin, hfin⟩ : ∃ fin, lastTags has (plF 0 ps) [] = fin := ⟨_, rfl⟩
  have hloop := loop_run (m := m) (C := C) (ps := ps) (all := plF 0 ps) c cs hFix rfl mN.symm hpr (fin := fin) (has := has) hhas ps [] [] j w1 rfl hst0 (by simp) (by simp [plF]) (by simpa using hfin) hLI
  simp only [List.length_nil, List.map_nil] at hloop
  obtain ⟨TM, hTM⟩ := hloop.sit fun y => MStop.running
  have hmownB : ∀ k, (mown m C (plF 0 ps) [] m.ot).B k → (((O0.new rs).new qq).new Wg).B k := by
    rintro k (hk | hk | ⟨x, hx, _, hk⟩)
    · rcases (hbase k).1 hk with e | e | e | e | e
      · exact .inl (.inl (.inl (e ▸ hOb)))
      · exact .inl (.inl (.inl (e ▸ hOr)))
      · exact .inl (.inl (.inl (e ▸ hOp)))
      · exact .inl (.inr e)
      · exact .inr e
    · rw [mot] at hk
      exact .inl (.inl (.inl (hOo k hk)))
    · exact .inl (.inl (.inl (hOS x hx k hk)))
  have hmownL : ∀ l, OwnL (mown m C (plF 0 ps) [] m.ot) l → OwnL (((O0.new rs).new qq).new Wg) l := by
    intro l hl
    cases l with
    | cell a =>
      rcases hl with h | ⟨h, _⟩
      · exact .inl (hmownB _ h)
      · rw [mrs] at h
        exact .inl (.inl (.inl (.inr h)))
    | obj k => exact hmownB _ hl
    | _ => exact hl.elim
  have hl1 := hLI.lies
  have hgs0 : 0 < gs1.size := (Array.getElem?_eq_some_iff.1 hb1.main).1
  have hInv : Inv Try.prog m.Wg plZ (payQ m C (plF 0 ps) fin) (MNext m c cs (EndF m C (plF 0 ps) fin)) Shun gs1.size gs1 w1 t1 [] (.script (script has (plF 0 ps) [])) TM (fun _ => ⟨.quit, .leaf, 0, 0⟩) (fun _ => mown m C (plF 0 ps) [] m.ot) (fun _ => 0) q1 := by
    refine ⟨hgs0, by simp, ⟨_, hb1.main, .inl (by rw [hb1.deaf]; exact hTM)⟩, fun k c h => by simp at h, fun i g hi hl hg => hb1.leave.old i g hi hg, hb1.leave.above, ?_, fun k hk => by simp at hk, ⟨fun i hi l hl _ => ?_, fun i hi l hl hs => hb1.nosh l (hmownL l hl) hs, fun i k hi hk hne => ?_, fun i _ => ⟨hl1.B, hl1.C⟩, fun b hb => by simp [FbM] at hb, fun i _ b hb => hb.elim, hb1.slow⟩, by simp, fun k hk => by simp at hk, lt hLI.wg, by simp, List.nodup_nil, by simp, fun k c g h => by simp at h, fun k v s' a g _ h1 h2 => ?_, fun k c h => by simp at h, trivial, ?_, trivial⟩
    · refine hb1.calm.begin (fun i op hi => by rw [hgs1]; exact hT1.gs i op hi) (fun i a ha hsh => ?_) (fun i a ha => (hT1.low i a ha).2) (hT1.rel _)
      have h := (hT1.low i a ha).1
      obtain ⟨ad, hl, had⟩ := hsh
      rw [hl] at h
      have : ad.block < w.heap.size := h
      rw [had, mW] at this
      omega
    · rcases hi with rfl | ⟨_, h⟩
      · rfl
      · simp at h; omega
    · rcases hi with rfl | ⟨_, h⟩
      · rcases hk with rfl | ⟨_, h⟩
        · exact absurd rfl hne
        · simp at h; omega
      · simp at h; omega
    · rw [hb1.main] at h1; cases h1
      have := hTM.1
      dsimp only at h2
      rw [this] at h2; cases h2
    · have := goes_script (has := has) (plF 0 ps) []
      have hlen : (lastTags has (plF 0 ps) []).length ≤ ps.length := by have := last_len has ps 0 []; simpa using this
      simp only [goesM, List.length_nil, Nat.zero_add] at this ⊢
      omega
  have htot : ([] : List Nat).length + goesM (.script (script has (plF 0 ps) [])) = fin.length := by
    have := goes_script (has := has) (plF 0 ps) []
    rw [hfin] at this
    simpa [goesM] using this
  refine (batch_runs (fun k => payQ_steady m C (plF 0 ps) fin k) fin.length _ gs1 w1 sl1 t1 [] _ TM _ _ _ q1 rfl htot hInv).bind ?_
  rintro m2 t2 ⟨gs2, w2, sl2, a2, O2, q2, Ow, rfl, hgs2, hb2, hrun2, hQ2, hdj2⟩
  refine (run_beside (Tp := fun _ => True) (n := gs2.size) (fun O e he x hx => ((he.1 x hx).imp (fun y => ⟨.inr y.1, y.2⟩) fun y => y.2)) (fun _ _ _ _ _ _ _ => trivial) (fun _ _ _ _ => trivial) hrun2 (sl := sl2) rfl trivial hb2).bind ?_
  rintro m3 t3 ⟨y, gs3, sl3, q3, rfl, _, hb3, ⟨y1, y2, y3⟩, _, hfar⟩
  obtain ⟨yO, yd, yg, w3⟩ := y
  dsimp only at hb3 y1 y2 y3 hfar ⊢
  subst y1 y2
  have hpay : ∀ k, k < fin.length → payQ m C (plF 0 ps) fin k (Ow k) w3 ∧ Far (Ow k) yO w3 ∧ NoSh (fun l => Shun l ∨ ShN m.Wg l) (Ow k) := fun k hk => by
    obtain ⟨p1, p2, p3⟩ := hQ2 k hk
    obtain ⟨f1, f2⟩ := hfar (Ow k) p2
    exact ⟨(payQ_steady m C (plF 0 ps) fin k).rely _ _ _ p1 f2, f1, p3⟩
  obtain ⟨hfn, hfh, hfm⟩ := last_tags (has := has) (plF 0 ps) [] List.nodup_nil (by simp)
  rw [hfin] at hfn hfh hfm
  have uniq : ∀ x ∈ C, ∀ y ∈ C, x.tag = y.tag → x = y := by
    intro x hx y hy he
    apply Classical.byContradiction
    intro hne
    have := List.pairwise_iff_getElem.1 hap
    obtain ⟨a, ha, rfl⟩ := List.mem_iff_getElem.1 hx
    obtain ⟨b', hb', rfl⟩ := List.mem_iff_getElem.1 hy
    rcases Nat.lt_trichotomy a b' with hl | hl | hl
    · exact (this a b' ha hb' hl).1 he
    · subst hl; exact hne rfl
    · exact (this b' a hb' ha hl).1 he.symm
  have each : ∀ x : BC, ∃ SL : (Nat → Prop) × List Cl, x ∈ C → TenC w3 SL.1 x.g x.hp x.hi (finT x.T (ofTag x.tag (plF 0 ps))) SL.2 ∧ ResAt w3 rs (finR x.T (ofTag x.tag (plF 0 ps))) ∧ ((x.tag ∉ fin ∧ SL.1 = x.S) ∨ ∃ k, k < fin.length ∧ fin[k]? = some x.tag ∧ (Ow k).B = SL.1 ∧ ¬ SL.1 rs) := by
    intro x
    rcases Classical.em (x ∈ C) with hx | hx
    · by_cases ht : x.tag ∈ fin
      · obtain ⟨k, hk⟩ := List.mem_iff_getElem?.1 ht
        have hkl : k < fin.length := (List.getElem?_eq_some_iff.1 hk).1
        obtain ⟨x', hx', hk', S, L, p1, p2, p3, p4, p5, p6, _⟩ := (hpay k hkl).1
        have : x' = x := uniq x' hx' x hx (by rw [hk] at hk'; exact (Option.some.inj hk').symm)
        subst this
        refine ⟨(S, L), fun _ => ⟨p1, by rw [← mrs]; exact p5, .inr ⟨k, hkl, hk, by rw [p2], by rw [← mrs]; exact p3⟩⟩⟩
      · have hno : ofTag x.tag (plF 0 ps) = [] := ofTag_nil fun y hy e => ht ((hfm _).2 (.inr ⟨(hhas _).2 (List.mem_map.2 ⟨x, hx, rfl⟩), y, hy, e⟩))
        refine ⟨(x.S, x.L), fun _ => ⟨?_, ?_, .inl ⟨ht, rfl⟩⟩⟩
        · rw [hno]
          exact y3.ten x hx ht
        · rw [hno]
          intro z hz
          cases hz
    · exact ⟨(x.S, x.L), fun h => absurd h hx⟩
  let f : BC → (Nat → Prop) × List Cl := fun x => Classical.choose (each x)
  have hf : ∀ x ∈ C, TenC w3 (f x).1 x.g x.hp x.hi (finT x.T (ofTag x.tag (plF 0 ps))) (f x).2 ∧ ResAt w3 rs (finR x.T (ofTag x.tag (plF 0 ps))) ∧ ((x.tag ∉ fin ∧ (f x).1 = x.S) ∨ ∃ k, k < fin.length ∧ fin[k]? = some x.tag ∧ (Ow k).B = (f x).1 ∧ ¬ (f x).1 rs) := fun x hx => Classical.choose_spec (each x) hx
  have away : ∀ x ∈ C, ∀ k, yO.B k → (k = b ∨ k = r ∨ ot k) → ¬ (f x).1 k := fun x hx k hk hc hs => by
    rcases (hf x hx).2.2 with ⟨_, e⟩ | ⟨n, hn, _, e, _⟩
    · rw [e] at hs
      obtain ⟨s1, s2, _, s4⟩ := hS x hx k hs
      rcases hc with c1 | c1 | c1
      · exact s1 c1
      · exact s2 c1
      · exact s4 c1
    · rw [← e] at hs
      exact ((hpay n hn).2.1.B k hs).2.1 hk
  have hyb : yO.B b := by have := y3.ob.1; rwa [mb] at this
  have hyr : yO.B r := by have := y3.ob.2; rwa [mr] at this
  have hyo : ∀ k, ot k → yO.B k := fun k hk => (y3.oth k (by rw [mot]; exact hk)).1
  have hrs3 : rs < w3.heap.size := by
    obtain ⟨c3, r3, _⟩ := y3.row
    rw [mrs] at r3
    exact lt r3
  have nors : ∀ x ∈ C, ¬ (f x).1 rs := fun x hx => by
    rcases (hf x hx).2.2 with ⟨_, e⟩ | ⟨n, _, _, _, e⟩
    · rw [e]
      intro hs
      have := hSl x hx rs hs
      omega
    · exact e
  let C' : List BC := C.map fun x => ⟨x.tag, finT x.T (ofTag x.tag (plF 0 ps)), x.g, x.hp, x.hi, (f x).1, (f x).2⟩
  have memC : ∀ z ∈ C', ∃ x ∈ C, z = ⟨x.tag, finT x.T (ofTag x.tag (plF 0 ps)), x.g, x.hp, x.hi, (f x).1, (f x).2⟩ := fun z hz => by
    obtain ⟨x, hx, rfl⟩ := List.mem_map.1 hz
    exact ⟨x, hx, rfl⟩
  refine .here ⟨rs, C', m.Wg, gs3, w3, sl3, q3, rfl, ⟨?_, by rw [← mb, ← mr]; exact y3.box, by rw [← mr]; exact y3.map, fun z hz => ?_, ?_, by rw [← mrs, ← mN]; exact y3.row, fun x hx => (hf x hx).2.1, by rw [← mrs]; exact y3.res, fun k hk => by rw [← mw]; exact (y3.oth k (by rw [mot]; exact hk)).2, h1, by rw [← mw]; exact y3.bg⟩, by rw [mW]; omega, y3.lv, ?_⟩
  · simp [C', List.map_map]
  · obtain ⟨x, hx, rfl⟩ := memC z hz
    exact ⟨(hf x hx).1, away x hx b hyb (.inl rfl), away x hx r hyr (.inr (.inl rfl)), nors x hx, fun k hk => away x hx k (hyo k hk) (.inr (.inr hk))⟩
  · rw [List.pairwise_map]
    refine List.Pairwise.imp_of_mem ?_ hap
    intro x z hx hz hxz
    refine ⟨hxz.1, fun k hk hk' => ?_⟩
    dsimp only at hk hk'
    rcases (hf x hx).2.2 with ⟨t1, e1⟩ | ⟨n1, l1, k1, e1, _⟩ <;> rcases (hf z hz).2.2 with ⟨t2, e2⟩ | ⟨n2, l2, k2, e2, _⟩
    · rw [e1] at hk; rw [e2] at hk'
      exact hxz.2 k hk hk'
    · rw [e1] at hk; rw [← e2] at hk'
      exact ((hpay n2 l2).2.1.B k hk').2.1 (y3.ot x hx t1 k hk)
    · rw [← e1] at hk; rw [e2] at hk'
      exact ((hpay n1 l1).2.1.B k hk).2.1 (y3.ot z hz t2 k hk')
    · rw [← e1] at hk; rw [← e2] at hk'
      have hne : n1 ≠ n2 := fun e => by
        subst e
        rw [k1] at k2
        exact hxz.1 (Option.some.inj k2)
      exact ((hdj2 n1 n2 l1 l2 hne).B k hk).1 hk'
  · have hsl : m.sl = .slice (some ⟨rs, 0, none⟩) ps.length ps.length := by unfold MS.sl; rw [mrs, mN]
    refine ⟨by rw [← hsl]; exact hb3.main, hb3.leave, hb3.calm, hb3.deaf, ⟨?_, fun _ _ h => h.elim⟩, ?_, hb3.slow⟩
    · rintro k (rfl | rfl | rfl | hk | ⟨z, hz, hk⟩)
      · exact hb3.lies.B _ hyb
      · exact hb3.lies.B _ hyr
      · exact hrs3
      · exact hb3.lies.B _ (hyo k hk)
      · obtain ⟨x, hx, rfl⟩ := memC z hz
        exact (hf x hx).1.ten.bound k hk
    · have low : ∀ l, Shun l → l.low w.heap.size := hb.slow
      have key : ∀ k, (ownE b r rs C' ot).B k → ∀ l : Loc, (l = .obj k ∨ ∃ a, l = .cell a ∧ a.block = k) → ¬ (Shun l ∨ ShN m.Wg l) := by
        intro k hk l hl
        have ofB : ∀ U : Own, U.B k → OwnL U l := fun U hU => by
          rcases hl with rfl | ⟨a, rfl, rfl⟩
          · exact hU
          · exact .inl hU
        rcases hk with rfl | rfl | rfl | hk | ⟨z, hz, hk⟩
        · exact hb3.nosh l (ofB yO hyb)
        · exact hb3.nosh l (ofB yO hyr)
        · rintro (hs | ⟨a, rfl, ha⟩)
          · have := low l hs
            rcases hl with rfl | ⟨a, rfl, ha⟩
            · have : k < w.heap.size := this
              omega
            · have : a.block < w.heap.size := this
              omega
          · rcases hl with e | ⟨a', e, ha'⟩
            · cases e
            · cases e
              rw [ha, mW] at ha'
              omega
        · exact hb3.nosh l (ofB yO (hyo k hk))
        · obtain ⟨x, hx, rfl⟩ := memC z hz
          dsimp only at hk
          rcases (hf x hx).2.2 with ⟨t1, e1⟩ | ⟨n1, l1, k1, e1, _⟩
          · rw [e1] at hk
            exact hb3.nosh l (ofB yO (y3.ot x hx t1 k hk))
          · rw [← e1] at hk
            exact (hpay n1 l1).2.2 l (ofB _ hk)
      intro l hl
      cases l with
      | cell a => exact key a.block (hl.resolve_right fun x => x) _ (.inr ⟨a, rfl, rfl⟩)
      | obj k => exact key k hl _ (.inl rfl)
      | _ => exact hl.elim

end Go.Proofs.Ytgpplekabohneaa.Co

namespace Go.Proofs.Ytgpplekabohneaa.Co
open Go Go.Conc Go.ConcN Go.RowKit
open Classical

/-! ### a tenant without mappings leads to nothing else -/
theorem tenC_fresh {w : World} {S : Nat → Prop} {g hp hi : Nat} {T : Tn} {L : List Cl} (h : TenR w S g hp hi T L) (h0 : T.maps = []) : TenC w (fun k => k = g ∨ k = hp ∨ k = hi) g hp hi T [] := by
  have hL : L = [] := by
    have := h.maps
    rw [h0] at this
    exact List.map_eq_nil_iff.1 this
  subst hL
  obtain ⟨es, c, e1, e2, e3⟩ := h.mp
  obtain ⟨es', c', f1, f2⟩ := h.mi
  have z1 : es = #[] := by
    have : es.toList = [] := by simpa using e2
    simpa using this
  have z2 : es' = #[] := by
    have : es'.toList = [] := by simpa using f2
    simpa using this
  subst z1 z2
  refine ⟨⟨.inl rfl, .inr (.inl rfl), .inr (.inr rfl), h.ne, ?_, h.blk, ⟨_, _, e1, by simp, by simp, by simp⟩, ⟨_, _, f1, by simp⟩, h.maps, by simp, List.Pairwise.nil, h.good⟩, ⟨?_, rfl, rfl⟩⟩
  · rintro k (rfl | rfl | rfl)
    · exact h.bound _ h.sg
    · exact h.bound _ h.shp
    · exact h.bound _ h.shi
  · rintro b B ⟨rfl, hb⟩
    rcases hb with rfl | rfl | rfl
    · refine ⟨_, _, h.blk, h.blk, .cells _ _ ⟨rfl, fun i hi hi' => ?_⟩⟩
      have : i = 0 ∨ i = 1 ∨ i = 2 ∨ i = 3 ∨ i = 4 := by simp at hi; omega
      rcases this with rfl | rfl | rfl | rfl | rfl
      · exact .int _ _
      · exact .int _ _
      · exact .int _ _
      · exact .map ⟨rfl, .inr (.inl rfl)⟩
      · exact .map ⟨rfl, .inr (.inr rfl)⟩
    · exact ⟨_, _, e1, e1, .map _ rfl (fun i hi _ => by simp at hi)⟩
    · exact ⟨_, _, f1, f1, .map _ rfl (fun i hi _ => by simp at hi)⟩

/-- The tenant's own blocks alone. -/
def slim (x : BC) : BC := ⟨x.tag, x.T, x.g, x.hp, x.hi, fun k => k = x.g ∨ k = x.hp ∨ k = x.hi, []⟩

theorem slim_in {w : World} {b r : Nat} {C : List BC} (h : BoxC w b r C) {x : BC} (hx : x ∈ C) {k : Nat} (hk : (slim x).S k) : x.S k := by
  have ht := (h.ten x hx).1
  rcases hk with rfl | rfl | rfl
  · exact ht.sg
  · exact ht.shp
  · exact ht.shi

/-- What holds in the first world holds in the second. -/
theorem Twin.at {P : Program} {K D : Nat → Prop} {x y : World} (h : Twin P K D x y) {k : Nat} {o : Obj} (hk : x.heap[k]? = some o) (ho : o ≠ .cells #[] badT (0, 0)) : y.heap[k]? = some o := by
  have : ¬ D k := fun hd => by
    rw [h.dead k hd] at hk
    exact ho (Option.some.inj hk).symm
  rw [← h.live k this]
  exact hk

theorem TenC.blocks {w : World} {S : Nat → Prop} {g hp hi : Nat} {T : Tn} {L : List Cl} (h : TenC w S g hp hi T L) {k : Nat} (hk : S k) : (∀ c t, w.heap[k]? ≠ some (.pending c t)) := by
  intro c t e
  obtain ⟨o, O, e1, e2, e3⟩ := h.wr.obj k k ⟨rfl, hk⟩
  rw [e] at e1
  cases e1
  cases e3 using OR.cs

/-- What lies behind a batch, in the world without what waits. -/
structure After (W W' : World) (b r rs : Nat) (C C' : List BC) (ps : List Pk) : Prop where
  fr : ∃ T d, Fr (fun k => ∃ x ∈ C, x.S k) (tp W T d) W'
  box : BoxC W' b r C'
  same : C'.map (fun x => (x.tag, x.T)) = C.map fun x => (x.tag, finT x.T (ofTag x.tag (plF 0 ps)))
  new : ∀ x ∈ C', ∀ k, x.S k → k < W.heap.size → ∃ y ∈ C, y.S k
  nors : ∀ x ∈ C', ¬ x.S rs
  fresh : W.heap.size ≤ rs
  row : RowAt W' rs ps.length
  res : ∀ x ∈ C, ResAt W' rs (finR x.T (ofTag x.tag (plF 0 ps)))
  nob : ∀ y ∈ plF 0 ps, y.2.tag ∉ C.map (·.tag) → ∀ jj v, (reC pk0 1)[jj]? = some v → W'.cell? ⟨rs, 16 * y.1 + jj, none⟩ = some v

theorem after {W Y Y' : World} {D : Nat → Prop} (hS : Twin Try.prog (fun _ => False) D (tp W Y.tape Y.drawn) Y) {b r rs Wg : Nat} {C C' : List BC} {ps : List Pk} (hC : BoxC W b r C)
    (h : PassEnd b r rs ps.length C C' (plF 0 ps) (fun k => k < Y.heap.size ∧ ∀ x ∈ C, ¬ x.S k) Y Y') (hW : Y.heap.size ≤ Wg) (hl : Live Wg Y') (hno : ∀ k, (k = b ∨ k = r ∨ k = rs ∨ (∃ x ∈ C', x.S k)) → k ≠ Wg) (hsz : Y.heap.size ≤ Y'.heap.size) :
    Twin Try.prog (fun k => k = Wg) (deadOf (fun k => k = Wg) Y') (blank (deadOf (fun k => k = Wg) Y') Y') Y' ∧ After W (blank (deadOf (fun k => k = Wg) Y') Y') b r rs C C' ps := by
  obtain ⟨st, sm, hlv⟩ := hl
  have hsame := same_blank (K := fun k => k = Wg) (w := Y') (fun k hk => by subst hk; exact ⟨_, _, hlv⟩)
  refine ⟨hsame, ?_⟩
  have sz0 : W.heap.size = Y.heap.size := hS.sz
  have alive : ∀ k, k ≠ Wg → (∀ c t, Y'.heap[k]? ≠ some (.pending c t)) → (blank (deadOf (fun k => k = Wg) Y') Y').heap[k]? = Y'.heap[k]? := fun k h1 h2 => blank_live (by rintro (e | ⟨c, t, e⟩); exact h1 e; exact h2 c t e)
  have old : ∀ k, k < Y.heap.size → (∀ x ∈ C, ¬ x.S k) → (blank (deadOf (fun k => k = Wg) Y') Y').heap[k]? = W.heap[k]? := by
    intro k hk hx
    have e1 := h.oth k ⟨hk, hx⟩
    rcases Classical.em (D k) with hd | hd
    · have e2 : W.heap[k]? = some (.cells #[] badT (0, 0)) := hS.dead k hd
      rcases hS.tame k hd with ⟨h0, _⟩ | ⟨_, c, t, e3⟩
      · exact h0.elim
      · rw [e2]
        refine blank_dead (.inr ⟨c, t, e1.trans e3⟩) (by omega)
    · have e2 : W.heap[k]? = Y.heap[k]? := hS.live k hd
      rw [alive k (by omega) (fun c t e => hS.nop k c t (by rw [e1] at e; exact e2.trans e)), e1, e2]
  have hbr : b < Y.heap.size ∧ r < Y.heap.size := by
    obtain ⟨es, c, e1, _⟩ := hC.map
    have l1 := (Array.getElem?_eq_some_iff.1 hC.blk).1
    have l2 := (Array.getElem?_eq_some_iff.1 e1).1
    omega
  have hSb : ∀ x ∈ C, ¬ x.S b ∧ ¬ x.S r := fun x hx => (hC.ten x hx).2
  have hg : C'.map (fun x => (Value.int .i64 x.tag, ptrV x.g)) = C.map fun x => (Value.int .i64 x.tag, ptrV x.g) := by
    have := congrArg (fun l => l.map fun y : Int × Nat × Nat × Nat × Tn => (Value.int .i64 y.1, ptrV y.2.1)) h.same
    simpa [List.map_map, Function.comp_def] using this
  have hten : ∀ x ∈ C', TenR (blank (deadOf (fun k => k = Wg) Y') Y') x.S x.g x.hp x.hi x.T x.L := fun x hx =>
    ((h.ten x hx).1.keep (w₁ := blank (deadOf (fun k => k = Wg) Y') Y') (fun k hk => alive k (hno k (.inr (.inr (.inr ⟨x, hx, hk⟩)))) ((h.ten x hx).1.blocks hk)) (Nat.le_of_eq blank_size.symm)).ten
  obtain ⟨cur, hr1, hr2⟩ := h.row
  have hrs : (blank (deadOf (fun k => k = Wg) Y') Y').heap[rs]? = Y'.heap[rs]? := alive rs (hno rs (.inr (.inr (.inl rfl)))) (fun c t e => by rw [hr1] at e; cases e)
  have hcell : ∀ o, (blank (deadOf (fun k => k = Wg) Y') Y').cell? ⟨rs, o, none⟩ = Y'.cell? ⟨rs, o, none⟩ := fun o => by simp only [World.cell?, hrs]
  refine ⟨⟨Y'.tape, 0, h.bg.1.trans hS.os.symm, rfl, h.bg.2.trans hS.output.symm, ?_, fun k hk hx => ?_⟩, ⟨(old b hbr.1 fun x hx => (hSb x hx).1).trans hC.blk, ?_, fun x hx => ⟨hten x hx, (h.ten x hx).2.1, (h.ten x hx).2.2.1⟩, h.apart⟩, ?_, fun x hx k hk hlt => ?_, fun x hx => (h.ten x hx).2.2.2.1, by have := h.fresh; omega, ⟨cur, hrs.trans hr1, hr2⟩, fun x hx => ?_, fun y hy ht jj v hj => by rw [hcell]; exact h.nob y hy ht jj v hj⟩
  · rw [blank_size]
    show W.heap.size ≤ _
    omega
  · exact old k (by have : (tp W Y'.tape 0).heap.size = W.heap.size := rfl; omega) (fun x hx' hk' => hx ⟨x, hx', hk'⟩)
  · obtain ⟨es, c, e1, e2⟩ := hC.map
    exact ⟨es, c, (old r hbr.2 fun x hx => (hSb x hx).2).trans e1, by rw [hg]; exact e2⟩
  · have := congrArg (fun l => l.map fun y : Int × Nat × Nat × Nat × Tn => (y.1, y.2.2.2.2)) h.same
    simpa [List.map_map, Function.comp_def] using this
  · apply Classical.byContradiction
    intro hne
    exact (h.ten x hx).2.2.2.2 k ⟨by omega, fun y hy hyk => hne ⟨y, hy, hyk⟩⟩ hk
  · have := h.res x hx
    unfold ResAt at this ⊢
    intro z hz
    have hz' := this z hz
    simpa only [hcell] using hz'

end Go.Proofs.Ytgpplekabohneaa.Co
