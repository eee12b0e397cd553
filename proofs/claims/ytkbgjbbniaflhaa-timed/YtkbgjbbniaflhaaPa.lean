/- The leaves: 'isBlock', 'isTenant', 'pick', 'isEnd', 'mayMark', 'mayQuote', 'isPacket', 'span': each returns what its plain twin here computes; nothing old in memory turns. -/
import Derived.Test.YtkbgjbbniaflhaaProg
import Derived.WalkKit
import Derived.WalkSpells
import Derived.WalkLawsBesides
import Derived.Laws.StructEq
import Derived.Deep.QuietTactic
import Derived.BigQuiet
namespace Go.Proofs.Ytkbgjbbniaflhaa
open Go.RowKit

theorem hide {p : Prop} (h : p) : Hid p := h
theorem unhide {p : Prop} (h : Hid p) : p := h

/-- a cell that lies reads the same behind a new block -/
theorem cellA {w : World} {o : Obj} {a : Addr} {v : Value} (h : w.cell? a = some v) : (w.alloc o).cell? a = some v :=
  (World.cell?_of_block (Below.heap_alloc w o a.block (World.block_lt_of_cell? w a h))).trans h

/-- a block that lies is the same behind a new block -/
theorem blkA {w : World} {o x : Obj} {k : Nat} (h : w.heap[k]? = some x) : (w.alloc o).heap[k]? = some x :=
  (Below.heap_alloc w o k (Array.getElem?_eq_some_iff.1 h).1).trans h

/-- the new block -/
theorem blkN (w : World) (o : Obj) (k : Nat) (h : k = w.heap.size) : (w.alloc o).heap[k]? = some o := by
  subst h
  exact heap_alloc_new w o

structure Ten where
  tag : Int
  outer : Int
  low : Int
  high : Int

def okT (t : Ten) : Bool := decide (1 ≤ t.tag ∧ t.tag ≤ 4094 ∧ 0 ≤ t.outer ∧ t.outer ≤ 4294967295 ∧ 0 ≤ t.low ∧ t.low ≤ t.high ∧ t.high ≤ 65535 ∧ t.high - t.low < 64)

def blockB (low high : Int) : Bool := decide (0 ≤ low ∧ low ≤ high ∧ high ≤ 65535 ∧ high - low < 64)

/-- a packet -/
structure Pk where
  tag : Int
  proto : Int
  out : Bool
  sa : Int
  sp : Int
  da : Int
  dp : Int
  syn : Bool
  fin : Bool
  rst : Bool
  err : Bool
  qsa : Int
  qsp : Int
  qda : Int
  qdp : Int

def pkC (p : Pk) : Array Value := #[.int .i64 p.tag, .int .i64 p.proto, .bool p.out, .int .i64 p.sa, .int .i64 p.sp, .int .i64 p.da, .int .i64 p.dp, .bool p.syn, .bool p.fin, .bool p.rst, .bool p.err, .int .i64 p.qsa, .int .i64 p.qsp, .int .i64 p.qda, .int .i64 p.qdp]

def pk0 : Pk := ⟨0, 0, false, 0, 0, 0, 0, false, false, false, false, 0, 0, 0, 0⟩

set_option maxHeartbeats 400000 in
theorem isBlock_any (low high : Int) (w : World) :
    Calls Try.prog 73 #[.int .i64 low, .int .i64 high] w fun e w' => e = .returned (.bool (blockB low high)) ∧ w' = w := by
  by_cases h1 : 0 ≤ low
  · by_cases h2 : low ≤ high
    · by_cases h3 : high ≤ 65535
      · by_cases h4 : high - low < 64
        · have h : blockB low high = true := by simp [blockB, h1, h2, h3, h4]
          rw [h]; clear h
          go_enter Try.func73, Try.ntmps73
          go_wp2
          go_ret
          exact ⟨rfl, rfl⟩
        · have h : blockB low high = false := by simp [blockB, h4]
          rw [h]; clear h
          go_enter Try.func73, Try.ntmps73
          go_wp2
          go_ret
          exact ⟨rfl, rfl⟩
      · have h : blockB low high = false := by simp [blockB, h3]
        rw [h]; clear h
        go_enter Try.func73, Try.ntmps73
        go_wp2
        go_ret
        exact ⟨rfl, rfl⟩
    · have h : blockB low high = false := by simp [blockB, h2]
      rw [h]; clear h
      go_enter Try.func73, Try.ntmps73
      go_wp2
      go_ret
      exact ⟨rfl, rfl⟩
  · have h : blockB low high = false := by simp [blockB, h1]
    rw [h]; clear h
    go_enter Try.func73, Try.ntmps73
    go_wp2
    go_ret
    exact ⟨rfl, rfl⟩

set_option maxHeartbeats 400000 in
theorem isTenant_raw (a b c d : Int) (w : World) :
    Calls Try.prog 56 #[.agg #[.int .i64 a, .int .i64 b, .int .i64 c, .int .i64 d]] w fun e w' => e = .returned (.bool (okT ⟨a, b, c, d⟩)) ∧ Below w.heap.size w w' := by
  by_cases h1 : 1 ≤ a
  · by_cases h2 : a ≤ 4094
    · by_cases h3 : 0 ≤ b
      · by_cases h4 : b ≤ 4294967295
        · have h : okT ⟨a, b, c, d⟩ = blockB c d := by simp [okT, blockB, h1, h2, h3, h4]
          rw [h]; clear h
          go_enter Try.func56, Try.ntmps56
          go_wp2_with (go_at_call 73; refine (isBlock_any _ _ _).mono ?_; rintro e w' ⟨rfl, rfl⟩)
          go_ret
          exact ⟨rfl, (Below.refl _ _).alloc (Nat.le_refl _) _⟩
        · have h : okT ⟨a, b, c, d⟩ = false := by simp [okT, h4]
          rw [h]; clear h
          go_enter Try.func56, Try.ntmps56
          go_wp2
          go_ret
          exact ⟨rfl, (Below.refl _ _).alloc (Nat.le_refl _) _⟩
      · have h : okT ⟨a, b, c, d⟩ = false := by simp [okT, h3]
        rw [h]; clear h
        go_enter Try.func56, Try.ntmps56
        go_wp2
        go_ret
        exact ⟨rfl, (Below.refl _ _).alloc (Nat.le_refl _) _⟩
    · have h : okT ⟨a, b, c, d⟩ = false := by simp [okT, h2]
      rw [h]; clear h
      go_enter Try.func56, Try.ntmps56
      go_wp2
      go_ret
      exact ⟨rfl, (Below.refl _ _).alloc (Nat.le_refl _) _⟩
  · have h : okT ⟨a, b, c, d⟩ = false := by simp [okT, h1]
    rw [h]; clear h
    go_enter Try.func56, Try.ntmps56
    go_wp2
    go_ret
    exact ⟨rfl, (Below.refl _ _).alloc (Nat.le_refl _) _⟩

/-- may it be an end? -/
def endB (a p : Int) : Bool := decide (0 ≤ a ∧ a ≤ 4294967295 ∧ 0 ≤ p ∧ p ≤ 65535)

set_option maxHeartbeats 400000 in
theorem isEnd_any (a p : Int) (w : World) :
    Calls Try.prog 39 #[.agg #[.int .i64 a, .int .i64 p]] w fun e w' => e = .returned (.bool (endB a p)) ∧ w' = w.alloc (.cells #[.int .i64 a, .int .i64 p] 34) := by
  by_cases h1 : 0 ≤ a
  · by_cases h2 : a ≤ 4294967295
    · by_cases h3 : 0 ≤ p
      · by_cases h4 : p ≤ 65535
        · have h : endB a p = true := by simp [endB, h1, h2, h3, h4]
          rw [h]; clear h
          go_enter Try.func39, Try.ntmps39
          go_wp2
          go_ret
          exact ⟨rfl, rfl⟩
        · have h : endB a p = false := by simp [endB, h4]
          rw [h]; clear h
          go_enter Try.func39, Try.ntmps39
          go_wp2
          go_ret
          exact ⟨rfl, rfl⟩
      · have h : endB a p = false := by simp [endB, h3]
        rw [h]; clear h
        go_enter Try.func39, Try.ntmps39
        go_wp2
        go_ret
        exact ⟨rfl, rfl⟩
    · have h : endB a p = false := by simp [endB, h2]
      rw [h]; clear h
      go_enter Try.func39, Try.ntmps39
      go_wp2
      go_ret
      exact ⟨rfl, rfl⟩
  · have h : endB a p = false := by simp [endB, h1]
    rw [h]; clear h
    go_enter Try.func39, Try.ntmps39
    go_wp2
    go_ret
    exact ⟨rfl, rfl⟩

end Go.Proofs.Ytkbgjbbniaflhaa
