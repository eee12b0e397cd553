/- Leaves: ends, packets, spans, 'pick'; peers. -/
import Derived.Test.YtgpplekabohneaaProg
import Derived.WalkKit
import Derived.WalkSpells
import Derived.WalkLawsBesides
import Derived.Laws.StructEq
import Derived.Deep.QuietTactic
import Derived.BigQuiet
import Derived.Deep.LoopGhost
import Derived.Deep.AppendLies
import Derived.WalkMore
import Derived.ScopeJumps
import Derived.Shelf.Slices.Delete
import Derived.Lib.SliceRun
import Derived.Laws.OwnMore
namespace Go.Proofs.Ytgpplekabohneaa
section
open Go.RowKit

theorem hide {p : Prop} (h : p) : Hid p := h
theorem unhide {p : Prop} (h : Hid p) : p := h

/-- a cell that lies reads the same behind a new block -/
theorem cellA {w : World} {o : Obj} {a : Addr} {v : Value} (h : w.cell? a = some v) : (w.alloc o).cell? a = some v :=
  (World.cell?_of_block (Below.heap_alloc w o a.block (World.block_lt_of_cell? w a h))).trans h

/-- a block that lies is the same behind a new block -/
theorem blkA {w : World} {o x : Obj} {k : Nat} (h : w.heap[k]? = some x) : (w.alloc o).heap[k]? = some x :=
  (Below.heap_alloc w o k (Array.getElem?_eq_some_iff.1 h).1).trans h

/-- the new block -/
theorem blkN (w : World) (o : Obj) (k : Nat) (h : k = w.heap.size) : (w.alloc o).heap[k]? = some o := by
  subst h
  exact heap_alloc_new w o

structure Ten where
  tag : Int
  outer : Int
  low : Int
  high : Int

def okT (t : Ten) : Bool := decide (1 ≤ t.tag ∧ t.tag ≤ 4094 ∧ 0 ≤ t.outer ∧ t.outer ≤ 4294967295 ∧ 0 ≤ t.low ∧ t.low ≤ t.high ∧ t.high ≤ 65535 ∧ t.high - t.low < 64)

def blockB (low high : Int) : Bool := decide (0 ≤ low ∧ low ≤ high ∧ high ≤ 65535 ∧ high - low < 64)

/-- a packet -/
structure Pk where
  tag : Int
  proto : Int
  out : Bool
  sa : Int
  sp : Int
  da : Int
  dp : Int
  syn : Bool
  fin : Bool
  rst : Bool
  err : Bool
  qsa : Int
  qsp : Int
  qda : Int
  qdp : Int

def pkC (p : Pk) : Array Value := #[.int .i64 p.tag, .int .i64 p.proto, .bool p.out, .int .i64 p.sa, .int .i64 p.sp, .int .i64 p.da, .int .i64 p.dp, .bool p.syn, .bool p.fin, .bool p.rst, .bool p.err, .int .i64 p.qsa, .int .i64 p.qsp, .int .i64 p.qda, .int .i64 p.qdp]

def pk0 : Pk := ⟨0, 0, false, 0, 0, 0, 0, false, false, false, false, 0, 0, 0, 0⟩

set_option maxHeartbeats 400000 in
theorem isBlock_any (low high : Int) (w : World) :
    Calls Try.prog 99 #[.int .i64 low, .int .i64 high] w fun e w' => e = .returned (.bool (blockB low high)) ∧ w' = w := by
  by_cases h1 : 0 ≤ low
  · by_cases h2 : low ≤ high
    · by_cases h3 : high ≤ 65535
      · by_cases h4 : high - low < 64
        · have h : blockB low high = true := by simp [blockB, h1, h2, h3, h4]
          rw [h]; clear h
          go_enter Try.func99, Try.ntmps99
          go_wp2
          go_ret
          exact ⟨rfl, rfl⟩
        · have h : blockB low high = false := by simp [blockB, h4]
          rw [h]; clear h
          go_enter Try.func99, Try.ntmps99
          go_wp2
          go_ret
          exact ⟨rfl, rfl⟩
      · have h : blockB low high = false := by simp [blockB, h3]
        rw [h]; clear h
        go_enter Try.func99, Try.ntmps99
        go_wp2
        go_ret
        exact ⟨rfl, rfl⟩
    · have h : blockB low high = false := by simp [blockB, h2]
      rw [h]; clear h
      go_enter Try.func99, Try.ntmps99
      go_wp2
      go_ret
      exact ⟨rfl, rfl⟩
  · have h : blockB low high = false := by simp [blockB, h1]
    rw [h]; clear h
    go_enter Try.func99, Try.ntmps99
    go_wp2
    go_ret
    exact ⟨rfl, rfl⟩

set_option maxHeartbeats 400000 in
theorem isTenant_raw (a b c d : Int) (w : World) :
    Calls Try.prog 63 #[.agg #[.int .i64 a, .int .i64 b, .int .i64 c, .int .i64 d]] w fun e w' => e = .returned (.bool (okT ⟨a, b, c, d⟩)) ∧ Below w.heap.size w w' := by
  by_cases h1 : 1 ≤ a
  · by_cases h2 : a ≤ 4094
    · by_cases h3 : 0 ≤ b
      · by_cases h4 : b ≤ 4294967295
        · have h : okT ⟨a, b, c, d⟩ = blockB c d := by simp [okT, blockB, h1, h2, h3, h4]
          rw [h]; clear h
          go_enter Try.func63, Try.ntmps63
          go_wp2_with (go_at_call 99; refine (isBlock_any _ _ _).mono ?_; rintro e w' ⟨rfl, rfl⟩)
          go_ret
          exact ⟨rfl, (Below.refl _ _).alloc (Nat.le_refl _) _⟩
        · have h : okT ⟨a, b, c, d⟩ = false := by simp [okT, h4]
          rw [h]; clear h
          go_enter Try.func63, Try.ntmps63
          go_wp2
          go_ret
          exact ⟨rfl, (Below.refl _ _).alloc (Nat.le_refl _) _⟩
      · have h : okT ⟨a, b, c, d⟩ = false := by simp [okT, h3]
        rw [h]; clear h
        go_enter Try.func63, Try.ntmps63
        go_wp2
        go_ret
        exact ⟨rfl, (Below.refl _ _).alloc (Nat.le_refl _) _⟩
    · have h : okT ⟨a, b, c, d⟩ = false := by simp [okT, h2]
      rw [h]; clear h
      go_enter Try.func63, Try.ntmps63
      go_wp2
      go_ret
      exact ⟨rfl, (Below.refl _ _).alloc (Nat.le_refl _) _⟩
  · have h : okT ⟨a, b, c, d⟩ = false := by simp [okT, h1]
    rw [h]; clear h
    go_enter Try.func63, Try.ntmps63
    go_wp2
    go_ret
    exact ⟨rfl, (Below.refl _ _).alloc (Nat.le_refl _) _⟩

/-- may it be an end? -/
def endB (a p : Int) : Bool := decide (0 ≤ a ∧ a ≤ 4294967295 ∧ 0 ≤ p ∧ p ≤ 65535)

set_option maxHeartbeats 400000 in
theorem isEnd_any (a p : Int) (w : World) :
    Calls Try.prog 44 #[.agg #[.int .i64 a, .int .i64 p]] w fun e w' => e = .returned (.bool (endB a p)) ∧ w' = w.alloc (.cells #[.int .i64 a, .int .i64 p] 34) := by
  by_cases h1 : 0 ≤ a
  · by_cases h2 : a ≤ 4294967295
    · by_cases h3 : 0 ≤ p
      · by_cases h4 : p ≤ 65535
        · have h : endB a p = true := by simp [endB, h1, h2, h3, h4]
          rw [h]; clear h
          go_enter Try.func44, Try.ntmps44
          go_wp2
          go_ret
          exact ⟨rfl, rfl⟩
        · have h : endB a p = false := by simp [endB, h4]
          rw [h]; clear h
          go_enter Try.func44, Try.ntmps44
          go_wp2
          go_ret
          exact ⟨rfl, rfl⟩
      · have h : endB a p = false := by simp [endB, h3]
        rw [h]; clear h
        go_enter Try.func44, Try.ntmps44
        go_wp2
        go_ret
        exact ⟨rfl, rfl⟩
    · have h : endB a p = false := by simp [endB, h2]
      rw [h]; clear h
      go_enter Try.func44, Try.ntmps44
      go_wp2
      go_ret
      exact ⟨rfl, rfl⟩
  · have h : endB a p = false := by simp [endB, h1]
    rw [h]; clear h
    go_enter Try.func44, Try.ntmps44
    go_wp2
    go_ret
    exact ⟨rfl, rfl⟩
end

section
open Go.RowKit

theorem eq34 (d : Nat) (a b c e : Int) (w : World) : (Op.equalIn (d + 2) 34 (.agg #[.int .i64 a, .int .i64 b]) (.agg #[.int .i64 c, .int .i64 e])).run Try.prog w = .ok (a == c && b == e) w := by
  have u3 := Try.underlying3
  have a3 := Try.isAgg3
  have z3 := Try.sizeOf3
  have hS : Try.prog.underlying 34 = some (.struct (Try.prog.fieldsOf 34)) := by kernel_rfl
  rw [show d + 2 = (d + 1) + 1 from rfl, run_equalIn_agg w (d + 1) 34 _ _ hS (by kernel_rfl)]
  simp only [Program.fieldsOf, Try.underlying34]
  go_simp
  by_cases h1 : a = c <;> by_cases h2 : b = e <;> simp [h1, h2]

theorem eq106 (d : Nat) (a b c e : Int) (w : World) : (Op.equalIn (d + 2) 106 (.agg #[.int .i64 a, .int .i64 b]) (.agg #[.int .i64 c, .int .i64 e])).run Try.prog w = .ok (a == c && b == e) w := by
  have u3 := Try.underlying3
  have a3 := Try.isAgg3
  have z3 := Try.sizeOf3
  have hS : Try.prog.underlying 106 = some (.struct (Try.prog.fieldsOf 106)) := by kernel_rfl
  rw [show d + 2 = (d + 1) + 1 from rfl, run_equalIn_agg w (d + 1) 106 _ _ hS (by kernel_rfl)]
  simp only [Program.fieldsOf, Try.underlying106]
  go_simp
  by_cases h1 : a = c <;> by_cases h2 : b = e <;> simp [h1, h2]

theorem eq148 (d : Nat) (a b c a' b' c' : Int) (w : World) : (Op.equalIn (d + 3) 148 (.agg #[.int .i64 a, .int .i64 b, .int .i64 c]) (.agg #[.int .i64 a', .int .i64 b', .int .i64 c'])).run Try.prog w = .ok (a == a' && (b == b' && c == c')) w := by
  have u3 := Try.underlying3
  have a3 := Try.isAgg3
  have z3 := Try.sizeOf3
  have a34 := Try.isAgg34
  have z34 := Try.sizeOf34
  have e34 := eq34 d
  have hS : Try.prog.underlying 148 = some (.struct (Try.prog.fieldsOf 148)) := by kernel_rfl
  rw [show d + 3 = (d + 2) + 1 from rfl, run_equalIn_agg w (d + 2) 148 _ _ hS (by kernel_rfl)]
  simp only [Program.fieldsOf, Try.underlying148]
  go_simp
  by_cases h1 : a = a' <;> by_cases h2 : b = b' <;> by_cases h3 : c = c' <;> simp [h1, h2, h3]

theorem eq36 (d : Nat) (a b c e a' b' c' e' : Int) (w : World) : (Op.equalIn (d + 3) 36 (.agg #[.int .i64 a, .int .i64 b, .int .i64 c, .int .i64 e]) (.agg #[.int .i64 a', .int .i64 b', .int .i64 c', .int .i64 e'])).run Try.prog w = .ok ((a == a' && b == b') && (c == c' && e == e')) w := by
  have a34 := Try.isAgg34
  have z34 := Try.sizeOf34
  have e34 := eq34 d
  have hS : Try.prog.underlying 36 = some (.struct (Try.prog.fieldsOf 36)) := by kernel_rfl
  rw [show d + 3 = (d + 2) + 1 from rfl, run_equalIn_agg w (d + 2) 36 _ _ hS (by kernel_rfl)]
  simp only [Program.fieldsOf, Try.underlying36]
  go_simp
  by_cases h1 : a = a' <;> by_cases h2 : b = b' <;> by_cases h3 : c = c' <;> by_cases h4 : e = e' <;> simp [h1, h2, h3, h4]

/-- are two packets the same? -/
def pkEq (p q : Pk) : Bool := p.tag == q.tag && (p.proto == q.proto && (p.out == q.out && ((p.sa == q.sa && p.sp == q.sp) && ((p.da == q.da && p.dp == q.dp) && (p.syn == q.syn && (p.fin == q.fin && (p.rst == q.rst && (p.err == q.err && ((p.qsa == q.qsa && p.qsp == q.qsp) && (p.qda == q.qda && p.qdp == q.qdp))))))))))

theorem eq38 (d : Nat) (p q : Pk) (w : World) : (Op.equalIn (d + 4) 38 (.agg (pkC p)) (.agg (pkC q))).run Try.prog w = .ok (pkEq p q) w := by
  have u3 := Try.underlying3
  have a3 := Try.isAgg3
  have z3 := Try.sizeOf3
  have u4 := Try.underlying4
  have a4 := Try.isAgg4
  have z4 := Try.sizeOf4
  have a34 := Try.isAgg34
  have z34 := Try.sizeOf34
  have a36 := Try.isAgg36
  have z36 := Try.sizeOf36
  have e34 := eq34 (d + 1)
  have e36 := eq36 d
  have hS : Try.prog.underlying 38 = some (.struct (Try.prog.fieldsOf 38)) := by kernel_rfl
  rw [show d + 4 = (d + 3) + 1 from rfl, run_equalIn_agg w (d + 3) 38 _ _ hS (by kernel_rfl)]
  simp only [Program.fieldsOf, Try.underlying38, pkC]
  go_simp
  unfold pkEq
  by_cases h0 : p.tag = q.tag
  case neg => simp [h0]
  by_cases h1 : p.proto = q.proto
  case neg => simp [h0, h1]
  by_cases h2 : p.out = q.out
  case neg => simp [h0, h1, h2]
  by_cases h3 : p.sa = q.sa
  case neg => simp [h0, h1, h2, h3]
  by_cases h4 : p.sp = q.sp
  case neg => simp [h0, h1, h2, h3, h4]
  by_cases h5 : p.da = q.da
  case neg => simp [h0, h1, h2, h3, h4, h5]
  by_cases h6 : p.dp = q.dp
  case neg => simp [h0, h1, h2, h3, h4, h5, h6]
  by_cases h7 : p.syn = q.syn
  case neg => simp [h0, h1, h2, h3, h4, h5, h6, h7]
  by_cases h8 : p.fin = q.fin
  case neg => simp [h0, h1, h2, h3, h4, h5, h6, h7, h8]
  by_cases h9 : p.rst = q.rst
  case neg => simp [h0, h1, h2, h3, h4, h5, h6, h7, h8, h9]
  by_cases h10 : p.err = q.err
  case neg => simp [h0, h1, h2, h3, h4, h5, h6, h7, h8, h9, h10]
  by_cases h11 : p.qsa = q.qsa
  case neg => simp [h0, h1, h2, h3, h4, h5, h6, h7, h8, h9, h10, h11]
  by_cases h12 : p.qsp = q.qsp
  case neg => simp [h0, h1, h2, h3, h4, h5, h6, h7, h8, h9, h10, h11, h12]
  by_cases h13 : p.qda = q.qda
  case neg => simp [h0, h1, h2, h3, h4, h5, h6, h7, h8, h9, h10, h11, h12, h13]
  by_cases h14 : p.qdp = q.qdp
  case neg => simp [h0, h1, h2, h3, h4, h5, h6, h7, h8, h9, h10, h11, h12, h13, h14]
  simp [h0, h1, h2, h3, h4, h5, h6, h7, h8, h9, h10, h11, h12, h13, h14]
end

section
open Go.RowKit

/-- may it bear its marks? -/
def markB (p : Pk) : Bool := (p.proto == 2 && !p.err) || (!p.syn && !p.fin && !p.rst)

theorem mayMark_any (p : Pk) (w : World) :
    Calls Try.prog 46 #[.agg (pkC p)] w fun e w' => e = .returned (.bool (markB p)) ∧ w' = w.alloc (.cells (pkC p) 38) := by
  obtain ⟨tag, proto, out, sa, sp, da, dp, syn, fin, rst, err, qsa, qsp, qda, qdp⟩ := p
  unfold pkC
  dsimp only
  by_cases h1 : proto = 2
  · cases err <;> cases syn <;> cases fin <;> cases rst
    all_goals
      simp only [markB, h1]
      go_enter Try.func46, Try.ntmps46
      go_wp2
      go_ret
      exact ⟨rfl, rfl⟩
  · have h2 : (proto == 2) = false := by simpa using h1
    cases syn <;> cases fin <;> cases rst
    all_goals
      simp only [markB, h2]
      go_enter Try.func46, Try.ntmps46
      go_wp2
      go_ret
      exact ⟨rfl, rfl⟩

/-- may it quote what it quotes? -/
def quoteB (p : Pk) : Bool := if p.err then endB p.qsa p.qsp && endB p.qda p.qdp else (p.qsa == 0 && p.qsp == 0) && (p.qda == 0 && p.qdp == 0)

theorem mayQuote_any (p : Pk) (w : World) :
    Calls Try.prog 45 #[.agg (pkC p)] w fun e w' => e = .returned (.bool (quoteB p)) ∧ Below w.heap.size w w' := by
  obtain ⟨tag, proto, out, sa, sp, da, dp, syn, fin, rst, err, qsa, qsp, qda, qdp⟩ := p
  unfold pkC quoteB
  dsimp only
  have e36 := eq36 9997
  cases err
  · go_enter Try.func45, Try.ntmps45
    go_wp2
    go_ret
    exact ⟨rfl, (Below.refl _ _).alloc (Nat.le_refl _) _⟩
  · cases h1 : endB qsa qsp
    · go_enter Try.func45, Try.ntmps45
      go_wp2_with (go_at_call 44; refine (isEnd_any _ _ _).mono ?_; rintro e w' ⟨rfl, rfl⟩)
      go_ret
      exact ⟨by simp, ((Below.refl _ _).alloc (Nat.le_refl _) _).alloc (by simp) _⟩
    · go_enter Try.func45, Try.ntmps45
      go_wp2_with (go_at_call 44; refine (isEnd_any _ _ _).mono ?_; rintro e w' ⟨rfl, rfl⟩)
      go_ret
      exact ⟨by simp, (((Below.refl _ _).alloc (Nat.le_refl _) _).alloc (by simp) _).alloc (by simp; omega) _⟩

/-- is it a packet? -/
def goodB (p : Pk) : Bool := decide (1 ≤ p.proto ∧ p.proto ≤ 3) && endB p.sa p.sp && endB p.da p.dp && quoteB p && markB p
end

section
open Go.RowKit

theorem bcell {W w1 : World} (hb : Below W.heap.size W w1) : (∀ b o, b < W.heap.size → w1.cell? ⟨b, o, none⟩ = W.cell? ⟨b, o, none⟩) ∧ (∀ b o, b < W.heap.size → w1.frozen? ⟨b, o, none⟩ = W.frozen? ⟨b, o, none⟩) :=
  ⟨fun b o h => hb.cell (p := ⟨b, o, none⟩) h, fun b o h => hb.frozen (p := ⟨b, o, none⟩) h⟩

set_option maxHeartbeats 1000000 in
theorem isPacket_any (p : Pk) (w : World) :
    Calls Try.prog 28 #[.agg (pkC p)] w fun e w' => e = .returned (.bool (goodB p)) ∧ Below w.heap.size w w' := by
  have hqC := fun w => hide (mayQuote_any p w)
  have hmC := fun w => hide (mayMark_any p w)
  obtain ⟨tag, proto, out, sa, sp, da, dp, syn, fin, rst, err, qsa, qsp, qda, qdp⟩ := p
  unfold goodB
  generalize hQ : quoteB ⟨tag, proto, out, sa, sp, da, dp, syn, fin, rst, err, qsa, qsp, qda, qdp⟩ = bq at *
  generalize hM : markB ⟨tag, proto, out, sa, sp, da, dp, syn, fin, rst, err, qsa, qsp, qda, qdp⟩ = bm at *
  clear hQ hM
  unfold pkC at *
  dsimp only at *
  by_cases h1 : 1 ≤ proto
  · by_cases h2 : proto ≤ 3
    · have hd : decide (1 ≤ proto ∧ proto ≤ 3) = true := by simp [h1, h2]
      rw [hd]
      clear hd
      cases hs : endB sa sp
      · go_enter Try.func28, Try.ntmps28
        go_wp2_with (go_at_call 44; refine (isEnd_any _ _ _).mono ?_; rintro e w' ⟨rfl, rfl⟩)
        go_ret
        exact ⟨by simp, ((Below.refl _ _).alloc (Nat.le_refl _) _).alloc (by simp) _⟩
      · cases hdd : endB da dp
        · go_enter Try.func28, Try.ntmps28
          go_wp2_with (go_at_call 44; refine (isEnd_any _ _ _).mono ?_; rintro e w' ⟨rfl, rfl⟩)
          go_ret
          exact ⟨by simp, (((Below.refl _ _).alloc (Nat.le_refl _) _).alloc (by simp) _).alloc (by simp; omega) _⟩
        · cases bq
          · go_enter Try.func28, Try.ntmps28
            go_wp2_with (first | (go_at_call 44; refine (isEnd_any _ _ _).mono ?_; rintro e w' ⟨rfl, rfl⟩) | (go_at_call 45; refine (unhide (hqC _)).mono ?_; rintro e w1 ⟨rfl, hb1⟩; obtain ⟨hc, hf⟩ := bcell hb1))
            go_ret
            exact ⟨by simp, ((((Below.refl _ _).alloc (Nat.le_refl _) _).alloc (by simp) _).alloc (by simp; omega) _).trans (hb1.mono (by simp; omega))⟩
          · go_enter Try.func28, Try.ntmps28
            go_wp2_with (first | (go_at_call 44; refine (isEnd_any _ _ _).mono ?_; rintro e w' ⟨rfl, rfl⟩) | (go_at_call 45; refine (unhide (hqC _)).mono ?_; rintro e w1 ⟨rfl, hb1⟩; obtain ⟨hc, hf⟩ := bcell hb1) | (go_at_call 46; refine (unhide (hmC _)).mono ?_; rintro e w2 ⟨rfl, rfl⟩))
            go_ret
            exact ⟨by simp, (((((Below.refl _ _).alloc (Nat.le_refl _) _).alloc (by simp) _).alloc (by simp; omega) _).trans (hb1.mono (by simp; omega))).alloc (by have := hb1.size; simp at this; omega) _⟩
    · have hd : decide (1 ≤ proto ∧ proto ≤ 3) = false := by simp [h2]
      rw [hd]
      clear hd
      go_enter Try.func28, Try.ntmps28
      go_wp2
      go_ret
      exact ⟨by simp, (Below.refl _ _).alloc (Nat.le_refl _) _⟩
  · have hd : decide (1 ≤ proto ∧ proto ≤ 3) = false := by simp [h1]
    rw [hd]
    clear hd
    go_enter Try.func28, Try.ntmps28
    go_wp2
    go_ret
    exact ⟨by simp, (Below.refl _ _).alloc (Nat.le_refl _) _⟩

/-- a mapping's span -/
def spanF (proto state : Int) : Int := if proto = 1 then 100 else if proto = 3 then 20 else if state = 1 then 30 else if state = 2 then 1000 else 10

theorem span_any (g : Nat) (proto state : Int) (w : World) (h0 : w.cell? ⟨g, 0, none⟩ = some (.int .i64 proto)) (h5 : w.cell? ⟨g, 5, none⟩ = some (.int .i64 state)) :
    Calls Try.prog 42 #[.pointer (some ⟨g, 0, none⟩)] w fun e w' => e = .returned (.int .i64 (spanF proto state)) ∧ w' = w := by
  unfold spanF
  by_cases h1 : proto = 1
  · rw [if_pos h1]
    go_enter Try.func42, Try.ntmps42
    go_wp2
    go_ret
    exact ⟨rfl, rfl⟩
  · rw [if_neg h1]
    by_cases h2 : proto = 3
    · rw [if_pos h2]
      go_enter Try.func42, Try.ntmps42
      go_wp2
      go_ret
      exact ⟨rfl, rfl⟩
    · rw [if_neg h2]
      by_cases h3 : state = 1
      · rw [if_pos h3]
        go_enter Try.func42, Try.ntmps42
        go_wp2
        go_ret
        exact ⟨rfl, rfl⟩
      · rw [if_neg h3]
        by_cases h4 : state = 2
        · rw [if_pos h4]
          go_enter Try.func42, Try.ntmps42
          go_wp2
          go_ret
          exact ⟨rfl, rfl⟩
        · rw [if_neg h4]
          go_enter Try.func42, Try.ntmps42
          go_wp2
          go_ret
          exact ⟨rfl, rfl⟩

/-- which of n things the raw number c speaks of -/
def pk (c : Int) (n : Nat) : Nat := if c < 0 then (-(c + 1)).toNat % n else c.toNat % n

theorem pk_lt (c : Int) (n : Nat) (h : 0 < n) : pk c n < n := by
  unfold pk
  split <;> exact Nat.mod_lt _ h

theorem pk_neg (c : Int) (n : Nat) (h1 : c < 0) : -((c + 1).tmod n) = (pk c n : Int) := by
  obtain ⟨m, hm⟩ := Int.eq_ofNat_of_zero_le (show 0 ≤ -(c + 1) by omega)
  have e : c + 1 = -(m : Int) := by omega
  have e2 : pk c n = m % n := by
    unfold pk
    rw [if_pos h1, hm]
    simp
  rw [e2, e, Int.neg_tmod, Int.neg_neg, Int.tmod_eq_emod_of_nonneg (by omega)]
  simp

theorem pk_pos (c : Int) (n : Nat) (h1 : ¬ c < 0) : c % n = (pk c n : Int) := by
  obtain ⟨m, hm⟩ := Int.eq_ofNat_of_zero_le (show 0 ≤ c by omega)
  have e2 : pk c n = m % n := by
    unfold pk
    rw [if_neg h1, hm]
    simp
  rw [e2, hm]
  simp

theorem pick_eq (c : Int) (n : Nat) (w : World) (hc : -9223372036854775808 ≤ c) (hc' : c ≤ 9223372036854775807) (hn : 0 < n) (hn' : n ≤ 100000) :
    Calls Try.prog 14 #[.int .i64 c, .int .i64 n] w fun e w' => e = .returned (.int .i64 (pk c n)) ∧ w' = w := by
  by_cases h1 : c < 0
  · have hp := hide (pk_neg c n h1)
    go_enter Try.func14, Try.ntmps14
    go_wp2
    go_ret
    exact ⟨by rw [← unhide hp]; rfl, rfl⟩
  · have hp := hide (pk_pos c n h1)
    go_enter Try.func14, Try.ntmps14
    go_wp2
    go_ret
    exact ⟨by rw [← unhide hp]; rfl, rfl⟩
end

section
open Go.RowKit

/-- of what lay in w nothing has turned in w' but blocks of X -/
structure Fr (X : Nat → Prop) (w w' : World) : Prop where
  os : w'.os = w.os
  tape : w'.tape = w.tape
  output : w'.output = w.output
  size : w.heap.size ≤ w'.heap.size
  block : ∀ k, k < w.heap.size → ¬ X k → w'.heap[k]? = w.heap[k]?

theorem Fr.refl (X : Nat → Prop) (w : World) : Fr X w w := ⟨rfl, rfl, rfl, Nat.le_refl _, fun _ _ _ => rfl⟩

theorem Fr.trans {X : Nat → Prop} {a b c : World} (h : Fr X a b) (k : Fr X b c) : Fr X a c :=
  ⟨k.os.trans h.os, k.tape.trans h.tape, k.output.trans h.output, Nat.le_trans h.size k.size, fun i hi hn => (k.block i (Nat.lt_of_lt_of_le hi h.size) hn).trans (h.block i hi hn)⟩

/-- .. where what the second step may turn is new, or may turn anyway -/
theorem Fr.trans' {X Y : Nat → Prop} {a b c : World} (h : Fr X a b) (k : Fr Y b c) (hY : ∀ i, Y i → i < a.heap.size → X i) : Fr X a c :=
  ⟨k.os.trans h.os, k.tape.trans h.tape, k.output.trans h.output, Nat.le_trans h.size k.size, fun i hi hn => (k.block i (Nat.lt_of_lt_of_le hi h.size) (fun y => hn (hY i y hi))).trans (h.block i hi hn)⟩

theorem Fr.mono {X Y : Nat → Prop} {a b : World} (h : Fr X a b) (hY : ∀ i, X i → i < a.heap.size → Y i) : Fr Y a b :=
  ⟨h.os, h.tape, h.output, h.size, fun i hi hn => h.block i hi (fun x => hn (hY i x hi))⟩

theorem Fr.of_below {X : Nat → Prop} {a b : World} (h : Below a.heap.size a b) : Fr X a b := ⟨h.os, h.tape, h.output, h.size, fun i hi _ => h.block i hi⟩

theorem Fr.of_grown {X : Nat → Prop} {a b : World} {row : Option Nat} (h : a.grownBy b row) (hr : ∀ k, row = some k → k < a.heap.size → X k) : Fr X a b :=
  ⟨h.os, h.tape, h.output, h.size, fun i hi hn => h.block i hi (fun e => hn (hr i e.symm hi))⟩

theorem Fr.alloc {X : Nat → Prop} {a b : World} (h : Fr X a b) (o : Obj) : Fr X a (b.alloc o) :=
  h.trans' (Y := fun _ => False) (Fr.of_below ((Below.refl _ _).alloc (Nat.le_refl _) o)) (fun _ f _ => f.elim)

theorem Fr.drew {X : Nat → Prop} {a b : World} (h : Fr X a b) : Fr X a b.drew := ⟨h.os, h.tape, h.output, h.size, h.block⟩

theorem Fr.setCell {X : Nat → Prop} {a b : World} (h : Fr X a b) {p : Addr} (u : Value) (hX : p.block < a.heap.size → X p.block) : Fr X a (b.setCell p u) :=
  h.trans' (Y := fun k => k = p.block) ⟨rfl, rfl, rfl, by simp [World.setCell], fun k _ hk => Below.heap_setCell b p u k hk⟩ (fun i hi hl => by subst hi; exact hX hl)

theorem Fr.cell {X : Nat → Prop} {a b : World} (h : Fr X a b) {k o : Nat} (hk : k < a.heap.size) (hX : ¬ X k) : b.cell? ⟨k, o, none⟩ = a.cell? ⟨k, o, none⟩ := World.cell?_of_block (w := a) (h.block k hk hX)

theorem Fr.some {X : Nat → Prop} {a b : World} (h : Fr X a b) {k : Nat} {o : Obj} (hk : a.heap[k]? = some o) (hX : ¬ X k) : b.heap[k]? = some o := (h.block k (Array.getElem?_eq_some_iff.1 hk).1 hX).trans hk

/-- a store into a block -/
theorem setB {w : World} {g : Nat} {cs : Array Value} {e : TypeId} {fz : Nat × Nat} (h : w.heap[g]? = some (.cells cs e fz)) (i : Nat) (v : Value) :
    (w.setCell ⟨g, i, none⟩ v).heap[g]? = some (.cells (cs.setIfInBounds i v) e fz) := by
  have hlt : g < w.heap.size := (Array.getElem?_eq_some_iff.1 h).1
  simp [World.setCell, Array.getElem?_modify, h]

/-- a mapping: what the document tells of it -/
structure Mp where
  proto : Int
  ia : Int
  ip : Int
  port : Int
  peers : List Int
  st : Int
  idle : Int
  fo : Bool
  fi : Bool

def mpC (m : Mp) (sv : Value) : Array Value := #[.int .i64 m.proto, .int .i64 m.ia, .int .i64 m.ip, .int .i64 m.port, sv, .int .i64 m.st, .int .i64 m.idle, .bool m.fo, .bool m.fi]

def intsV (l : List Int) : List Value := l.map (Value.int .i64)

/-- a mapping in memory: its block g, its list of peers sv -/
def Mem (w : World) (g : Nat) (sv : Value) (m : Mp) : Prop :=
  w.heap[g]? = some (.cells (mpC m sv) 109 (0, 0)) ∧ w.ownsRow 0 3 1 sv m.peers.length (intsV m.peers)

/-- the marks of a stream's packet -/
def marksF (m : Mp) (out syn fin rst : Bool) : Mp :=
  let m1 := if out && syn && m.st == 3 then { m with st := 1, fo := false, fi := false } else if !out && m.st == 1 then { m with st := 2 } else m
  let m2 := if fin then (if out then { m1 with fo := true } else { m1 with fi := true }) else m1
  if (fin && m2.fo && m2.fi) || rst then { m2 with st := 3 } else m2

theorem marksF_peers (m : Mp) (a b c d : Bool) : (marksF m a b c d).peers = m.peers := by
  unfold marksF
  dsimp only
  repeat' split
  all_goals rfl

/-- a scope in which the run may jump on, once, to a label further down -/
theorem wp_scope_fwd {P : Program} {a : Act} {w : World} {Q : Exit → Act → World → Prop} {c rest : Code} (l : Nat) (hf : findLabel c l = some rest)
    (h : c.wp P (Exit.jump l (fun a' w' => rest.wp P (Exit.noGoto Q) a' w') Q) a w) : (Code.scope c).wp P Q a w :=
  wp_scope_jumps l _ (fun _ _ => 0) hf h (fun _ _ hJ => wp_mono hJ (by
    intro e a w h
    cases e <;> first | exact h | exact h.elim))
end

section
open Go.RowKit Go.Shelf Go.Lib Go.Sort

/-- the numbers of this program: slices.Delete is function 79, []int is type 50 -/
def ren23 : Ren := ⟨fun _ => 105, fun n => if n = 22 then 50 else n, fun n => n⟩

theorem lays23 : Lays2.n23 Try.prog ren23 where
  mixed := by kernel_rfl
  f23 := by kernel_rfl
  t0 := by kernel_rfl
  a0 := fun _ => by kernel_rfl
  z0 := fun _ => by kernel_rfl
  v0 := fun _ => by kernel_rfl
  t3 := by kernel_rfl
  a3 := fun _ => by kernel_rfl
  z3 := fun _ => by kernel_rfl
  v3 := fun _ => by kernel_rfl
  t4 := by kernel_rfl
  a4 := fun _ => by kernel_rfl
  z4 := fun _ => by kernel_rfl
  v4 := fun _ => by kernel_rfl
  t22 := by kernel_rfl
  a22 := fun _ => by kernel_rfl
  z22 := fun _ => by kernel_rfl
  v22 := fun _ => by kernel_rfl
  i3 := by kernel_rfl

theorem delete_raw (blk cap i j : Nat) (d : Array Int) (w : World) (hH : Holds encI w blk 0 d) (hcap : d.size ≤ cap) (hm : cap ≤ 9223372036854775807) (hij : i ≤ j) (hj : j ≤ d.size) :
    Calls Try.prog 105 #[.slice (some ⟨blk, 0, none⟩) d.size cap, .int .i64 i, .int .i64 j] w fun e w' => e = .returned (.slice (some ⟨blk, 0, none⟩) (d.size - (j - i)) cap) ∧ ∃ q, w' = putRow encI (Sort.ahead w q) blk 0 (d.toList.take i ++ d.toList.drop j ++ List.replicate (j - i) 0).toArray :=
  Any.slices_Delete_int_arr lays23 blk 0 cap i j d w hH hcap hm hij hj
end

section
open Go.RowKit
open Go.Sort Go.Lib

/-- where an address stands in a list; -1: nowhere -/
def idxF (zs : List Int) (x : Int) : Int := if zs.contains x then (zs.idxOf x : Int) else -1

theorem idxF_at {zs : List Int} {x : Int} {j : Nat} (hj : j < zs.length) (hx : zs[j] = x) (hn : (zs.take j).contains x = false) : idxF zs x = j := by
  have hm : x ∈ zs := hx ▸ List.getElem_mem hj
  have hn' : x ∉ zs.take j := by simpa using hn
  have e : zs = zs.take j ++ zs[j] :: zs.drop (j + 1) := by
    rw [← List.drop_eq_getElem_cons hj, List.take_append_drop]
  unfold idxF
  rw [if_pos (by simpa using hm)]
  have : zs.idxOf x = j := by
    have e2 : zs.idxOf x = (zs.take j ++ zs[j] :: zs.drop (j + 1)).idxOf x := by rw [← e]
    rw [e2, List.idxOf_append, if_neg hn', hx, List.idxOf_cons_self]
    simp
    omega
  rw [this]

theorem contains_snoc {zs : List Int} {x : Int} {j : Nat} (hj : j < zs.length) (hx : (x == zs[j]) = false) (hn : (zs.take j).contains x = false) : (zs.take (j + 1)).contains x = false := by
  have hn' : x ∉ zs.take j := by simpa using hn
  have hx' : ¬ x = zs[j] := by simpa using hx
  have : x ∉ zs.take (j + 1) := by
    rw [List.take_succ_eq_append_getElem hj, List.mem_append]
    rintro (h | h)
    · exact hn' h
    · exact hx' (by simpa using h)
  simpa using this

theorem row_cell {w : World} {b n cap : Nat} {zs : List Int} (hown : w.ownsRow 0 3 1 (.slice (some ⟨b, 0, none⟩) n cap) n (intsV zs)) {j : Nat} (hj : j < zs.length) : w.cell? ⟨b, j, none⟩ = some (.int .i64 zs[j]) := by
  have hl : n = zs.length := by have := hown.1; simp [intsV] at this; omega
  rw [hown.cellAt j (by omega)]
  simp [intsV, hj]

theorem row_facts {w : World} {b n cap : Nat} {zs : List Int} (hown : w.ownsRow 0 3 1 (.slice (some ⟨b, 0, none⟩) n cap) n (intsV zs)) : n = zs.length ∧ n ≤ cap ∧ cap ≤ maxLen ∧ b < w.heap.size := by
  have hl : n = zs.length := by have := hown.1; simp [intsV] at this; omega
  rcases hown.2 with ⟨h, _⟩ | ⟨g, c, cur, h, _, hg, h1, h2, _⟩
  · cases h
  · cases h
    exact ⟨hl, h1, h2, (Array.getElem?_eq_some_iff.1 hg).1⟩

theorem index_nil (x : Int) (w : World) : Calls Try.prog 104 #[.slice none 0 0, .int .i64 x] w fun e w' => e = .returned (.int .i64 (-1)) ∧ w' = w := by
  go_enter Try.func104, Try.ntmps104
  go_wp2
  go_loop [8] (fun i => i = .int .i64 0) (fun _ => 1)
  case atStart => rfl
  case round =>
    obtain rfl := hrel
    go_wp2
    go_ret
    exact ⟨rfl, rfl⟩

set_option maxHeartbeats 400000 in
theorem index_some (b n cap : Nat) (zs : List Int) (x : Int) (w : World) (hown : w.ownsRow 0 3 1 (.slice (some ⟨b, 0, none⟩) n cap) n (intsV zs)) :
    Calls Try.prog 104 #[.slice (some ⟨b, 0, none⟩) n cap, .int .i64 x] w fun e w' => e = .returned (.int .i64 (idxF zs x)) ∧ w' = w := by
  obtain ⟨hn, hc, hm, hb⟩ := row_facts hown
  unfold maxLen at hm
  have HO := hide hown
  have HN := hide hn
  clear hown hn
  go_enter Try.func104, Try.ntmps104
  go_wp2
  go_loop [8] (fun i => ∃ j : Nat, j ≤ n ∧ i = .int .i64 j ∧ (zs.take j).contains x = false) (fun i => n - (RowKit.intOf i).toNat)
  case atStart => exact ⟨0, Nat.zero_le _, rfl, by simp⟩
  case round =>
    obtain ⟨j, hj, rfl, hcn⟩ := hrel
    have HC := hide hcn
    clear hcn
    by_cases hlt : j < n
    · have hjt : j < zs.length := by have := unhide HN; omega
      have hcell := row_cell (unhide HO) hjt
      generalize hz : zs[j] = z at *
      have HZ := hide hz
      clear hz
      by_cases he : x = z
      · subst he
        have hfin := hide (idxF_at hjt (unhide HZ) (unhide HC))
        go_wp2
        go_ret
        exact ⟨by rw [unhide hfin]; rfl, rfl⟩
      · have he' : (x == z) = false := by simpa using he
        have hfin := hide (contains_snoc hjt (show (x == zs[j]) = false by rw [unhide HZ]; exact he') (unhide HC))
        clear he
        go_wp2
        go_round
        case rel => exact ⟨j + 1, by omega, by go_num, unhide hfin⟩
        case measure => simp [RowKit.intOf]; omega
    · have hjn : zs.take j = zs := List.take_of_length_le (by have := unhide HN; omega)
      have hfin : Hid (idxF zs x = -1) := by
        have h := unhide HC
        rw [hjn] at h
        show idxF zs x = -1
        unfold idxF
        rw [h]
        rfl
      clear hjn
      go_wp2
      go_ret
      exact ⟨by rw [unhide hfin]; rfl, rfl⟩

/-- slices.Contains, of a list of peers, nil too -/
theorem contains_any (sv : Value) (zs : List Int) (x : Int) (w : World) (hown : w.ownsRow 0 3 1 sv zs.length (intsV zs)) :
    Calls Try.prog 100 #[sv, .int .i64 x] w fun e w' => e = .returned (.bool (zs.contains x)) ∧ w' = w := by
  rcases hown.2 with ⟨rfl, hn⟩ | ⟨b, cap, cur, rfl, _⟩
  · have hz : zs = [] := List.eq_nil_of_length_eq_zero hn
    subst hz
    clear hown hn
    go_enter Try.func100, Try.ntmps100
    go_wp2_with (go_at_call 104; refine (index_nil x _).mono ?_; rintro e w' ⟨rfl, rfl⟩)
    go_ret
    exact ⟨rfl, rfl⟩
  · have HC := hide (index_some b zs.length cap zs x w hown)
    clear hown
    cases hc : zs.contains x
    · have he : idxF zs x = -1 := by unfold idxF; rw [hc]; rfl
      rw [he] at HC
      clear he hc
      go_enter Try.func100, Try.ntmps100
      go_wp2_with (go_at_call 104; refine (unhide HC).mono ?_; rintro e w' ⟨rfl, rfl⟩)
      go_ret
      exact ⟨rfl, rfl⟩
    · have he : idxF zs x = (zs.idxOf x : Nat) := by unfold idxF; rw [hc]; rfl
      rw [he] at HC
      clear he hc
      generalize zs.idxOf x = k at HC
      go_enter Try.func100, Try.ntmps100
      go_wp2_with (go_at_call 104; refine (unhide HC).mono ?_; rintro e w' ⟨rfl, rfl⟩)
      go_ret
      exact ⟨by simp, rfl⟩

theorem hasPeer_any (g : Nat) (sv : Value) (m : Mp) (x : Int) (w : World) (hM : Mem w g sv m) :
    Calls Try.prog 65 #[.pointer (some ⟨g, 0, none⟩), .int .i64 x] w fun e w' => e = .returned (.bool (m.peers.contains x)) ∧ w' = w := by
  have HC := hide (contains_any sv m.peers x w hM.2)
  have hb := hM.1
  have c4 : w.cell? ⟨g, 4, none⟩ = some sv := by simp [World.cell?, hb, mpC]
  clear hM hb
  generalize m.peers.contains x = r at HC
  go_enter Try.func65, Try.ntmps65
  go_wp2_with (go_at_call 100; refine (unhide HC).mono ?_; rintro e w' ⟨rfl, rfl⟩)
  go_ret
  exact ⟨rfl, rfl⟩

/-- slices.Delete of one place of a list of peers -/
theorem delete_any (b n cap i : Nat) (zs : List Int) (w : World) (hown : w.ownsRow 0 3 1 (.slice (some ⟨b, 0, none⟩) n cap) n (intsV zs)) (hi : i < n) :
    Calls Try.prog 105 #[.slice (some ⟨b, 0, none⟩) n cap, .int .i64 i, .int .i64 ((i : Int) + 1)] w fun e w' => e = .returned (.slice (some ⟨b, 0, none⟩) (n - 1) cap) ∧
      w'.ownsRow 0 3 1 (.slice (some ⟨b, 0, none⟩) (n - 1) cap) (n - 1) (intsV (zs.eraseIdx i)) ∧ Fr (fun k => k = b) w w' ∧ w'.heap.size = w.heap.size := by
  obtain ⟨hn, hc, hm, hb⟩ := row_facts hown
  unfold maxLen at hm
  have hH : Holds encI w b 0 zs.toArray := by
    intro j hj
    simp at hj
    refine ⟨?_, ?_⟩
    · rw [Nat.zero_add, row_cell hown hj]
      simp [encI, hj]
    · rw [Nat.zero_add]
      exact hown.frozenAt j
  have key := delete_raw b cap i (i + 1) zs.toArray w hH (by simp; omega) (by omega) (by omega) (by simp; omega)
  have e1 : zs.toArray.size = n := by simp [hn]
  have e2 : ((i + 1 : Nat) : Int) = (i : Int) + 1 := by omega
  rw [e1, e2] at key
  refine key.mono ?_
  rintro e w' ⟨rfl, q, rfl⟩
  have e3 : n - (i + 1 - i) = n - 1 := by omega
  refine ⟨by rw [e3], ?_, ?_, ?_⟩
  · rcases hown.2 with ⟨h, _⟩ | ⟨g, c, cur, h, _, hg, h1, h2, h3, h4⟩
    · cases h
    · cases h
      refine ⟨by simp [intsV, List.length_eraseIdx]; split <;> omega, .inr ⟨b, cap, putCells encI 0 (List.take i zs.toArray.toList ++ List.drop (i + 1) zs.toArray.toList ++ List.replicate (i + 1 - i) (0 : Int)).toArray cur, rfl, Nat.zero_le _, ?_, by omega, h2, ?_, ?_⟩⟩
      · exact (Array.getElem?_modify ..).trans (by rw [if_pos rfl]; show Option.map _ (w.heap[b]?) = _; rw [hg]; rfl)
      · simpa [Go.Sort.putCells] using h3
      · apply List.ext_getElem?
        intro k
        simp only [intsV, Go.Sort.putCells, List.getElem?_take, List.getElem?_map, Nat.mul_one, Array.toList_mapIdx, List.getElem?_mapIdx]
        have hsz : cur.size = cap := by simpa using h3
        by_cases hk : k < n - 1
        · have hkc : k < cur.toList.length := by simp; omega
          rw [if_pos hk, List.getElem?_eq_getElem hkc]
          simp only [Option.map_some]
          have hl : (List.take i zs.toArray.toList ++ List.drop (i + 1) zs.toArray.toList ++ List.replicate (i + 1 - i) (0 : Int)).length = n := by simp; omega
          rw [if_pos ⟨Nat.zero_le _, by rw [List.size_toArray, hl]; omega⟩, Nat.sub_zero]
          have hke : k < (zs.eraseIdx i).length := by rw [List.length_eraseIdx]; split <;> omega
          have e5 : (List.take i zs.toArray.toList ++ List.drop (i + 1) zs.toArray.toList ++ List.replicate (i + 1 - i) (0 : Int)).toArray[k]! = (zs.eraseIdx i)[k] := by
            rw [getElem!_pos _ k (by rw [List.size_toArray, hl]; omega)]
            simp only [List.getElem_toArray]
            rw [List.getElem_append_left (by simp; omega)]
            simp [List.eraseIdx_eq_take_drop_succ]
          rw [e5, List.getElem?_eq_getElem hke]
          rfl
        · rw [if_neg hk, List.getElem?_eq_none (by rw [List.length_eraseIdx]; split <;> omega)]
          rfl
  · refine ⟨rfl, rfl, rfl, by simp [putRow, Go.Sort.mapBlock, Go.Sort.ahead], fun k _ hk => ?_⟩
    simp [putRow, Go.Sort.mapBlock, Go.Sort.ahead, Array.getElem?_modify, Ne.symm hk]
  · simp [putRow, Go.Sort.mapBlock, Go.Sort.ahead]
end

section
open Go.RowKit

section
variable {P : Program} (w : World)

theorem run_append_x (t ty : TypeId) (base : Nat) (e : TypeId) (i : TypeInfo) (z : Value) (size bytes : Nat) (ht : P.underlying t = some (.slice e)) (hi : P.info? e = some i) (hz : i.zero = some z)
    (hsize : i.size = size) (hby : i.bytes = bytes) (hzs : z.cells.size = size) (hsz : 0 < size)
    (v : Value) (n : Nat) (xs : List Value) (hown : w.ownsRow base e size v n xs)
    (ad : Addr) (m c : Nat) (news : List Value) (hl : news.length = m * size) (hnews : ∀ j u, news[j]? = some u → w.cell? (ad.add j) = some u) (h1 : ∀ u ∈ news, u.oneCell' = true)
    (hm : 0 < m) (h63 : n + m ≤ maxLen) (hbytes : (n + m) * bytes ≤ 140737488355328) (hbase : base ≤ w.heap.size) :
    ∃ g cap w', (Builtin.append_ #[t, t] ty #[v, .slice (some ad) m c]).run P w = .ok (.slice (some ⟨g, 0, none⟩) (n + m) cap) w' ∧
      w'.ownsRow base e size (.slice (some ⟨g, 0, none⟩) (n + m) cap) (n + m) (xs ++ news) ∧ ((v.ownBlock = some g ∧ w.grownBy w' (some g)) ∨ (g = w.heap.size ∧ w.grownBy w' none)) := by
  obtain ⟨g', cap', w', hr, h2, h3, h4, h5⟩ := run_append_lies (P := P) w t ty base e i z size bytes ht hi hz hsize hby hzs hsz v n xs hown ad m c news hl hnews h1 hm h63 hbytes hbase w.heap.size rfl
  have hsmall : n + m ≤ 9223372036854775807 := by simp only [maxLen] at h63; omega
  refine ⟨g', cap', w', hr, h2, ?_⟩
  rcases h4 with h4 | h4
  · exact .inl ⟨h4, h4 ▸ h3⟩
  · refine .inr ⟨h4, ?_⟩
    subst hsize
    subst hby
    rcases hown.2 with ⟨rfl, rfl⟩ | ⟨g, cap, cur, rfl, hbg, hg, hnc, hcm, hcs, htake⟩
    · simpa [Value.ownBlock] using h3
    · by_cases hroom : n + m ≤ cap
      · have hfit : n * i.size + news.length ≤ cur.size := by rw [hl, hcs, ← Nat.add_mul]; exact Nat.mul_le_mul_right _ hroom
        have hr2 := run_append_room (P := P) w t ty e i ht hi g n cap cur hg ad m c news hl hnews h1 hroom hfit
        rw [hr2] at hr
        have hgl : g < w.heap.size := (Array.getElem?_eq_some_iff.1 hg).1
        simp at hr
      · have holds : ∀ j u, xs[j]? = some u → w.cell? ((⟨g, 0, none⟩ : Addr).add j) = some u := hown.cells (g := g) rfl
        have hr2 := run_append_grow (P := P) w t ty e i z ht hi hz ⟨g, 0, none⟩ n cap xs hown.1 holds ad m c news hl hnews (by omega) (by omega) (growslice_fits (by omega) hbytes)
        rw [hr2] at hr
        simp at hr
        obtain ⟨_, rfl⟩ := hr
        exact ⟨rfl, rfl, rfl, by simp, fun k hk _ => Below.heap_alloc w.drew _ k hk⟩

theorem wp_append_x {o : Oper} {a : Act} {K : Act → World → Prop} {Q : Exit → Act → World → Prop} (s x : Operand) (t : TypeId)
    (ho : o.op = .call { callee := .builtin .append, args := #[s, x], argTypes := #[t, t] })
    (base : Nat) (e : TypeId) (i : TypeInfo) (z : Value) (size bytes : Nat) (ht : P.underlying t = some (.slice e)) (hi : P.info? e = some i) (hz : i.zero = some z)
    (hsize : i.size = size) (hby : i.bytes = bytes) (hzs : z.cells.size = size) (hsz : 0 < size)
    (v : Value) (n : Nat) (xs : List Value) (hs : a.eval s = v) (hown : w.ownsRow base e size v n xs)
    (ad : Addr) (m c : Nat) (news : List Value) (hx : a.eval x = .slice (some ad) m c) (hl : news.length = m * size) (hnews : ∀ j u, news[j]? = some u → w.cell? (ad.add j) = some u) (h1 : ∀ u ∈ news, u.oneCell' = true)
    (hm : 0 < m) (h63 : n + m ≤ maxLen) (hbytes : (n + m) * bytes ≤ 140737488355328) (hbase : base ≤ w.heap.size)
    (h : ∀ g cap w', w'.ownsRow base e size (.slice (some ⟨g, 0, none⟩) (n + m) cap) (n + m) (xs ++ news) → ((v.ownBlock = some g ∧ w.grownBy w' (some g)) ∨ (g = w.heap.size ∧ w.grownBy w' none)) → K (a.put o.dst (.slice (some ⟨g, 0, none⟩) (n + m) cap)) w') : o.wp P a w K Q := by
  obtain ⟨g, cap, w', hr, h2, h3⟩ := run_append_x (P := P) w t o.type base e i z size bytes ht hi hz hsize hby hzs hsz v n xs hown ad m c news hl hnews h1 hm h63 hbytes hbase
  unfold Oper.wp execOp
  simp only [ho, resolve, invoke, builtin, Sem.run_bind, Sem.run_pure, Result.andThen_ok, List.map_toArray, List.map_cons, List.map_nil, hs, hx, hr]
  exact h g cap w' h2 h3

theorem wpList_append_x {ops : Array Oper} {rest : List Oper} {o : Oper} {a : Act} {Q : Exit → Act → World → Prop} (hgd : o.guard = none) (s x : Operand) (t : TypeId)
    (ho : o.op = .call { callee := .builtin .append, args := #[s, x], argTypes := #[t, t] })
    (base : Nat) (e : TypeId) (i : TypeInfo) (z : Value) (size bytes : Nat) (ht : P.underlying t = some (.slice e)) (hi : P.info? e = some i) (hz : i.zero = some z)
    (hsize : i.size = size) (hby : i.bytes = bytes) (hzs : z.cells.size = size) (hsz : 0 < size)
    (v : Value) (n : Nat) (xs : List Value) (hs : a.eval s = v) (hown : w.ownsRow base e size v n xs)
    (ad : Addr) (m c : Nat) (news : List Value) (hx : a.eval x = .slice (some ad) m c) (hl : news.length = m * size) (hnews : ∀ j u, news[j]? = some u → w.cell? (ad.add j) = some u) (h1 : ∀ u ∈ news, u.oneCell' = true)
    (hm : 0 < m) (h63 : n + m ≤ maxLen) (hbytes : (n + m) * bytes ≤ 140737488355328) (hbase : base ≤ w.heap.size)
    (h : ∀ g cap w', w'.ownsRow base e size (.slice (some ⟨g, 0, none⟩) (n + m) cap) (n + m) (xs ++ news) → ((v.ownBlock = some g ∧ w.grownBy w' (some g)) ∨ (g = w.heap.size ∧ w.grownBy w' none)) → wpList P ops Q rest (a.put o.dst (.slice (some ⟨g, 0, none⟩) (n + m) cap)) w') : wpList P ops Q (o :: rest) a w :=
  wpList_plain hgd fun _ hK => wp_append_x w s x t ho base e i z size bytes ht hi hz hsize hby hzs hsz v n xs hs hown ad m c news hx hl hnews h1 hm h63 hbytes hbase fun g cap w' h2 h3 => hK _ _ (h g cap w' h2 h3)

theorem step_append_x {ops : Array Oper} {o : Oper} {a : Act} {K : Act → World → Prop} {Q : Exit → Act → World → Prop} {E : Prop} (hgd : o.guard = none) (s x : Operand) (t : TypeId)
    (ho : o.op = .call { callee := .builtin .append, args := #[s, x], argTypes := #[t, t] })
    (base : Nat) (e : TypeId) (i : TypeInfo) (z : Value) (size bytes : Nat) (ht : P.underlying t = some (.slice e)) (hi : P.info? e = some i) (hz : i.zero = some z)
    (hsize : i.size = size) (hby : i.bytes = bytes) (hzs : z.cells.size = size) (hsz : 0 < size)
    (v : Value) (n : Nat) (xs : List Value) (hs : a.eval s = v) (hown : w.ownsRow base e size v n xs)
    (ad : Addr) (m c : Nat) (news : List Value) (hx : a.eval x = .slice (some ad) m c) (hl : news.length = m * size) (hnews : ∀ j u, news[j]? = some u → w.cell? (ad.add j) = some u) (h1 : ∀ u ∈ news, u.oneCell' = true)
    (hm : 0 < m) (h63 : n + m ≤ maxLen) (hbytes : (n + m) * bytes ≤ 140737488355328) (hbase : base ≤ w.heap.size)
    (h : ∀ g cap w', w'.ownsRow base e size (.slice (some ⟨g, 0, none⟩) (n + m) cap) (n + m) (xs ++ news) → ((v.ownBlock = some g ∧ w.grownBy w' (some g)) ∨ (g = w.heap.size ∧ w.grownBy w' none)) → K (a.put o.dst (.slice (some ⟨g, 0, none⟩) (n + m) cap)) w') :
    if Region.wanted o (yielded ops a.tmps) = true then Oper.wp P o a w K Q else E := by
  have hw : Region.wanted o (yielded ops a.tmps) = true := by simp [Region.wanted, hgd]
  rw [if_pos hw]
  exact wp_append_x w s x t ho base e i z size bytes ht hi hz hsize hby hzs hsz v n xs hs hown ad m c news hx hl hnews h1 hm h63 hbytes hbase h

end
end

section
open Go.RowKit

def useF (l : List Int) (a : Int) : List Int := if 4 < (l.erase a ++ [a]).length then (l.erase a ++ [a]).eraseIdx 0 else l.erase a ++ [a]

theorem index_any (sv : Value) (zs : List Int) (x : Int) (w : World) (hown : w.ownsRow 0 3 1 sv zs.length (intsV zs)) :
    Calls Try.prog 104 #[sv, .int .i64 x] w fun e w' => e = .returned (.int .i64 (idxF zs x)) ∧ w' = w := by
  rcases hown.2 with ⟨rfl, hn⟩ | ⟨b, cap, cur, rfl, _⟩
  · have hz : zs = [] := List.eq_nil_of_length_eq_zero hn
    subst hz
    exact index_nil x w
  · exact index_some b zs.length cap zs x w hown

theorem row_ne {w : World} {sv : Value} {n : Nat} {xs : List Value} (hown : w.ownsRow 0 3 1 sv n xs) {g : Nat} {cs : Array Value} {e : TypeId} {fz : Nat × Nat} (hg : w.heap[g]? = some (.cells cs e fz)) (he : e ≠ 3) : sv.ownBlock ≠ some g := by
  intro h
  rcases hown.2 with ⟨rfl, _⟩ | ⟨b, cap, cur, rfl, _, hb, _⟩
  · cases h
  · cases h
    rw [hg] at hb
    cases hb
    exact he rfl

theorem ownsRow_keep {w w' : World} {sv : Value} {n : Nat} {xs : List Value} {X : Nat → Prop} (h : w.ownsRow 0 3 1 sv n xs) (hF : Fr X w w') (hX : ∀ k, sv.ownBlock = some k → ¬ X k) : w'.ownsRow 0 3 1 sv n xs := by
  refine ⟨h.1, ?_⟩
  rcases h.2 with h' | ⟨b, cap, cur, rfl, hb, hg, rest⟩
  · exact .inl h'
  · exact .inr ⟨b, cap, cur, rfl, hb, hF.some hg (hX b rfl), rest⟩

theorem memStore {w : World} {g : Nat} {sv sv' : Value} {m : Mp} {l : List Int} (hg : w.heap[g]? = some (.cells (mpC m sv) 109 (0, 0))) (hr : w.ownsRow 0 3 1 sv' l.length (intsV l)) :
    Mem (w.setCell ⟨g, 4, none⟩ sv') g sv' { m with peers := l } := by
  refine ⟨?_, ?_⟩
  · rw [setB hg]
    simp [mpC]
  · exact ownsRow_keep hr ((Fr.refl (fun k => k = g) w).setCell _ (fun _ => rfl)) (fun k hk e => row_ne hr hg (by decide) (e ▸ hk))

/-- the facts that a walk wants of a mapping in memory -/
theorem Mem.cells {w : World} {g : Nat} {sv : Value} {m : Mp} (h : Mem w g sv m) : g < w.heap.size ∧ w.cell? ⟨g, 0, none⟩ = some (.int .i64 m.proto) ∧ w.cell? ⟨g, 1, none⟩ = some (.int .i64 m.ia) ∧ w.cell? ⟨g, 2, none⟩ = some (.int .i64 m.ip) ∧ w.cell? ⟨g, 3, none⟩ = some (.int .i64 m.port) ∧ w.cell? ⟨g, 4, none⟩ = some sv ∧
    w.cell? ⟨g, 5, none⟩ = some (.int .i64 m.st) ∧ w.cell? ⟨g, 6, none⟩ = some (.int .i64 m.idle) ∧ w.cell? ⟨g, 7, none⟩ = some (.bool m.fo) ∧ w.cell? ⟨g, 8, none⟩ = some (.bool m.fi) ∧ ∀ o, w.frozen? ⟨g, o, none⟩ = false := by
  have hb := h.1
  refine ⟨(Array.getElem?_eq_some_iff.1 hb).1, ?_, ?_, ?_, ?_, ?_, ?_, ?_, ?_, ?_, fun o => ?_⟩ <;> simp [World.cell?, World.frozen?, hb, mpC]

theorem info3 : (Try.prog.info? 3).map (fun i => (i.zero, i.size, i.bytes)) = some (some (.int .i64 0), 1, 8) := by kernel_rfl

/-- what a step on the peers leaves: the new list in its place -/
def UsedS (w : World) (g : Nat) (sv : Value) (m : Mp) (l : List Int) (w' : World) (sv' : Value) : Prop :=
  Mem w' g sv' { m with peers := l } ∧ Fr (fun k => k = g ∨ sv.ownBlock = some k) w w' ∧ ∃ b, sv'.ownBlock = some b ∧ (sv.ownBlock = some b ∨ w.heap.size ≤ b)

/-- what usePeer leaves -/
def Used (w : World) (g : Nat) (sv : Value) (m : Mp) (l : List Int) (w' : World) : Prop := ∃ sv', UsedS w g sv m l w' sv'

theorem UsedS.trans {w w1 w2 : World} {g : Nat} {sv sv1 sv2 : Value} {m : Mp} {l1 l2 : List Int} (h : UsedS w g sv m l1 w1 sv1) (k : UsedS w1 g sv1 { m with peers := l1 } l2 w2 sv2) : UsedS w g sv m l2 w2 sv2 := by
  obtain ⟨h1, h2, b, h3, h4⟩ := h
  obtain ⟨k1, k2, c, k3, k4⟩ := k
  refine ⟨k1, h2.trans' k2 ?_, c, k3, ?_⟩
  · rintro i (hi | hi) hl
    · exact .inl hi
    · rw [h3] at hi
      cases hi
      rcases h4 with h4 | h4
      · exact .inr h4
      · omega
  · rcases k4 with k4 | k4
    · rw [h3] at k4
      cases k4
      exact h4
    · have := h2.size
      exact .inr (by omega)
end

section
open Go.RowKit

theorem grown_fr {w w' : World} {sv : Value} {g : Nat} (h : (sv.ownBlock = some g ∧ w.grownBy w' (some g)) ∨ (g = w.heap.size ∧ w.grownBy w' none)) : Fr (fun k => sv.ownBlock = some k) w w' := by
  rcases h with ⟨h1, h2⟩ | ⟨_, h2⟩
  · exact Fr.of_grown h2 (fun k hk _ => by cases hk; exact h1)
  · exact Fr.of_grown h2 (fun k hk _ => by cases hk)

/-- behind the append: the store of the new list -/
theorem used_app {w w3 : World} {g g2 cap2 n : Nat} {sv : Value} {m : Mp} {l : List Int} {o : Obj} (hM : Mem w g sv m) (hn : n = l.length) (hO3 : w3.ownsRow 0 3 1 (.slice (some ⟨g2, 0, none⟩) n cap2) n (intsV l))
    (hG3 : (sv.ownBlock = some g2 ∧ (w.alloc o).grownBy w3 (some g2)) ∨ (g2 = (w.alloc o).heap.size ∧ (w.alloc o).grownBy w3 none)) :
    w3.heap[g]? = some (.cells (mpC m sv) 109 (0, 0)) ∧ UsedS w g sv m l (w3.setCell ⟨g, 4, none⟩ (.slice (some ⟨g2, 0, none⟩) n cap2)) (.slice (some ⟨g2, 0, none⟩) n cap2) := by
  subst hn
  have hlt := hM.cells.1
  have hne := row_ne hM.2 hM.1 (by decide)
  have hF : Fr (fun k => sv.ownBlock = some k) w w3 := ((Fr.refl _ w).alloc o).trans (grown_fr hG3)
  have h3 : w3.heap[g]? = some (.cells (mpC m sv) 109 (0, 0)) := hF.some hM.1 hne
  refine ⟨h3, memStore h3 hO3, ?_, g2, rfl, ?_⟩
  · exact (hF.mono (fun k hk _ => Or.inr hk)).setCell _ (fun _ => Or.inl rfl)
  · rcases hG3 with ⟨h1, _⟩ | ⟨h1, _⟩
    · exact .inl h1
    · right; rw [h1]; simp

/-- behind the deletion: the store of the new list -/
theorem used_del {w w1 : World} {g b n cap : Nat} {m : Mp} {l : List Int} {n' : Nat} (hM : Mem w g (.slice (some ⟨b, 0, none⟩) n cap) m) (hn : n' = l.length) (hO : w1.ownsRow 0 3 1 (.slice (some ⟨b, 0, none⟩) n' cap) n' (intsV l))
    (hF : Fr (fun k => k = b) w w1) :
    w1.heap[g]? = some (.cells (mpC m (.slice (some ⟨b, 0, none⟩) n cap)) 109 (0, 0)) ∧ UsedS w g (.slice (some ⟨b, 0, none⟩) n cap) m l (w1.setCell ⟨g, 4, none⟩ (.slice (some ⟨b, 0, none⟩) n' cap)) (.slice (some ⟨b, 0, none⟩) n' cap) := by
  subst hn
  have hne := row_ne hM.2 hM.1 (by decide)
  have h3 : w1.heap[g]? = some (.cells (mpC m (.slice (some ⟨b, 0, none⟩) n cap)) 109 (0, 0)) := hF.some hM.1 (fun e => hne (by rw [e]; rfl))
  refine ⟨h3, memStore h3 hO, ?_, b, rfl, .inl rfl⟩
  exact (hF.mono (fun k hk _ => Or.inr (by rw [hk]; rfl))).setCell _ (fun _ => Or.inl rfl)

set_option maxHeartbeats 1000000 in
set_option maxRecDepth 100000 in
theorem usePeer_new (g : Nat) (sv : Value) (m : Mp) (addr : Int) (w : World) (hM : Mem w g sv m) (hlen : m.peers.length < 4) (hc : m.peers.contains addr = false) :
    Calls Try.prog 69 #[.pointer (some ⟨g, 0, none⟩), .int .i64 addr] w fun e w' => e = .returned (.tuple #[]) ∧ Used w g sv m (m.peers ++ [addr]) w' := by
  obtain ⟨i0, hi, hz0, hz1, hz2⟩ := info_parts info3
  have HI := hide (And.intro hi (And.intro hz0 (And.intro hz1 hz2)))
  clear hi hz0 hz1 hz2
  have hidx := hide (index_any sv m.peers addr w hM.2)
  obtain ⟨hlt, -, -, -, -, c4, -, -, -, -, z⟩ := hM.cells
  have HM := hide hM
  have he : idxF m.peers addr = -1 := by unfold idxF; rw [hc]; rfl
  rw [he] at hidx
  clear hM he hc
  generalize hn : m.peers.length = n at *
  have HN := hide hn
  clear hn
  go_enter Try.func69, Try.ntmps69
  go_wp2_with (first | (go_at_call 104; refine (unhide hidx).mono ?_; rintro e w' ⟨rfl, hw⟩; symm at hw; subst hw; clear hidx) | (at_builtin; go_loud (refine wpList_append_x _ rfl _ _ 50 rfl 0 3 i0 (.int .i64 0) 1 8 Try.underlying50 (unhide HI).1 (unhide HI).2.1 (unhide HI).2.2.1 (unhide HI).2.2.2 rfl (by decide) sv n (intsV m.peers) rfl (by rw [← unhide HN]; exact (unhide HM).2.alloc _) ⟨w.heap.size, 0, none⟩ 1 1 [.int .i64 addr] rfl rfl (World.news_of_block (by exact blkN w _ _ rfl)) (by simp [Value.oneCell']) (by omega) (by unfold maxLen; omega) (by omega) (Nat.zero_le _) ?_; intro g2 cap2 w3 hO3 hG3; have hst := hide (used_app (n := n + 1) (l := m.peers ++ [addr]) (unhide HM) (by rw [List.length_append, unhide HN, List.length_singleton]) (by simpa [intsV] using hO3) hG3); have c4' : w3.cell? ⟨g, 4, none⟩ = some sv := (by simp [World.cell?, (unhide hst).1, mpC]); have z' : ∀ o, w3.frozen? ⟨g, o, none⟩ = false := (by intro o; simp [World.frozen?, (unhide hst).1]); clear hO3 hG3)))
  go_end0
  exact ⟨rfl, _, (unhide hst).2⟩

set_option maxHeartbeats 1000000 in
set_option maxRecDepth 100000 in
theorem usePeer_full (g : Nat) (sv : Value) (m : Mp) (addr : Int) (w : World) (hM : Mem w g sv m) (hlen : m.peers.length = 4) (hc : m.peers.contains addr = false) :
    Calls Try.prog 69 #[.pointer (some ⟨g, 0, none⟩), .int .i64 addr] w fun e w' => e = .returned (.tuple #[]) ∧ Used w g sv m ((m.peers ++ [addr]).eraseIdx 0) w' := by
  obtain ⟨i0, hi, hz0, hz1, hz2⟩ := info_parts info3
  have HI := hide (And.intro hi (And.intro hz0 (And.intro hz1 hz2)))
  clear hi hz0 hz1 hz2
  have hidx := hide (index_any sv m.peers addr w hM.2)
  obtain ⟨hlt, -, -, -, -, c4, -, -, -, -, z⟩ := hM.cells
  have HM := hide hM
  have he : idxF m.peers addr = -1 := by unfold idxF; rw [hc]; rfl
  rw [he] at hidx
  clear hM he hc
  have HN := hide hlen
  clear hlen
  go_enter Try.func69, Try.ntmps69
  go_wp2_with (first | (go_at_call 104; refine (unhide hidx).mono ?_; rintro e w' ⟨rfl, hw⟩; symm at hw; subst hw; clear hidx) | (at_builtin; go_loud (refine wpList_append_x _ rfl _ _ 50 rfl 0 3 i0 (.int .i64 0) 1 8 Try.underlying50 (unhide HI).1 (unhide HI).2.1 (unhide HI).2.2.1 (unhide HI).2.2.2 rfl (by decide) sv 4 (intsV m.peers) rfl (by rw [← unhide HN]; exact (unhide HM).2.alloc _) ⟨w.heap.size, 0, none⟩ 1 1 [.int .i64 addr] rfl rfl (World.news_of_block (by exact blkN w _ _ rfl)) (by simp [Value.oneCell']) (by omega) (by unfold maxLen; omega) (by omega) (Nat.zero_le _) ?_; intro g2 cap2 w3 hO3 hG3; have hst := hide (used_app (n := 5) (l := m.peers ++ [addr]) (unhide HM) (by rw [List.length_append, unhide HN, List.length_singleton]) (by simpa [intsV] using hO3) hG3); have c4' : w3.cell? ⟨g, 4, none⟩ = some sv := (by simp [World.cell?, (unhide hst).1, mpC]); have z' : ∀ o, w3.frozen? ⟨g, o, none⟩ = false := (by intro o; simp [World.frozen?, (unhide hst).1]); clear hO3 hG3)) | (go_at_call 105; go_loud (refine (show Calls _ _ _ _ _ from (by simpa using delete_any g2 5 cap2 0 (m.peers ++ [addr]) _ (by have := (unhide hst).2.1.2; simpa [unhide HN] using this) (by omega))).mono ?_; rintro e w5 ⟨rfl, hO5, hF5, hS5⟩; have hsd := hide (used_del (n' := 4) (l := (m.peers ++ [addr]).eraseIdx 0) (unhide hst).2.1 (by rw [List.length_eraseIdx, List.length_append, unhide HN, List.length_singleton]; rfl) (by simpa using hO5) hF5); have c4'' : w5.cell? ⟨g, 4, none⟩ = some (.slice (some ⟨g2, 0, none⟩) 5 cap2) := (by simp [World.cell?, (unhide hsd).1, mpC]); have z'' : ∀ o, w5.frozen? ⟨g, o, none⟩ = false := (by intro o; simp [World.frozen?, (unhide hsd).1]); clear hO5 hF5 hS5)))
  go_end0
  exact ⟨rfl, _, (unhide hst).2.trans (unhide hsd).2⟩
end

end Go.Proofs.Ytgpplekabohneaa
