/- The leaves: 'within', 'isBlock', 'isTenant', 'pick', the program's 'Tick': each returns what its plain twin here computes; nothing old in memory turns. -/
import Derived.Test.YtgiafiifoegokaaProg
import Derived.WalkKit
import Derived.WalkSpells
import Derived.WalkLawsBesides
namespace Go.Proofs.Ytgiafiifoegokaa
open Go.RowKit

/-- a cell that lies reads the same behind a new block -/
theorem cellA {w : World} {o : Obj} {a : Addr} {v : Value} (h : w.cell? a = some v) : (w.alloc o).cell? a = some v :=
  (World.cell?_of_block (Below.heap_alloc w o a.block (World.block_lt_of_cell? w a h))).trans h

/-- a block that lies is the same behind a new block -/
theorem blkA {w : World} {o x : Obj} {k : Nat} (h : w.heap[k]? = some x) : (w.alloc o).heap[k]? = some x :=
  (Below.heap_alloc w o k (Array.getElem?_eq_some_iff.1 h).1).trans h

/-- the new block -/
theorem blkN (w : World) (o : Obj) (k : Nat) (h : k = w.heap.size) : (w.alloc o).heap[k]? = some o := by
  subst h
  exact heap_alloc_new w o

structure Ten where
  tag : Int
  outer : Int
  low : Int
  high : Int

def okT (t : Ten) : Bool := decide (1 ≤ t.tag ∧ t.tag ≤ 4094 ∧ 0 ≤ t.outer ∧ t.outer ≤ 4294967295 ∧ 0 ≤ t.low ∧ t.low ≤ t.high ∧ t.high ≤ 65535 ∧ t.high - t.low < 64)

def inB (n low high : Int) : Bool := decide (low ≤ n ∧ n ≤ high)

set_option maxHeartbeats 400000 in
theorem within_any (n low high : Int) (w : World) :
    Calls Try.prog 29 #[.int .i64 n, .int .i64 low, .int .i64 high] w fun e w' => e = .returned (.bool (inB n low high)) ∧ w' = w := by
  by_cases h1 : low ≤ n
  · by_cases h2 : n ≤ high
    · have h : inB n low high = true := by simp [inB, h1, h2]
      rw [h]
      clear h
      go_enter Try.func29, Try.ntmps29
      go_wp2
      go_ret
      exact ⟨rfl, rfl⟩
    · have h : inB n low high = false := by simp [inB, h2]
      rw [h]
      clear h
      go_enter Try.func29, Try.ntmps29
      go_wp2
      go_ret
      exact ⟨rfl, rfl⟩
  · have h : inB n low high = false := by simp [inB, h1]
    rw [h]
    clear h
    go_enter Try.func29, Try.ntmps29
    go_wp2
    go_ret
    exact ⟨rfl, rfl⟩

def blockB (low high : Int) : Bool := decide (0 ≤ low ∧ low ≤ high ∧ high ≤ 65535 ∧ high - low < 64)

set_option maxHeartbeats 400000 in
theorem isBlock_any (low high : Int) (w : World) :
    Calls Try.prog 46 #[.int .i64 low, .int .i64 high] w fun e w' => e = .returned (.bool (blockB low high)) ∧ w' = w := by
  by_cases h1 : 0 ≤ low
  · by_cases h2 : low ≤ high
    · by_cases h3 : high ≤ 65535
      · by_cases h4 : high - low < 64
        · have h : blockB low high = true := by simp [blockB, h1, h2, h3, h4]
          rw [h]; clear h
          go_enter Try.func46, Try.ntmps46
          go_wp2
          go_ret
          exact ⟨rfl, rfl⟩
        · have h : blockB low high = false := by simp [blockB, h4]
          rw [h]; clear h
          go_enter Try.func46, Try.ntmps46
          go_wp2
          go_ret
          exact ⟨rfl, rfl⟩
      · have h : blockB low high = false := by simp [blockB, h3]
        rw [h]; clear h
        go_enter Try.func46, Try.ntmps46
        go_wp2
        go_ret
        exact ⟨rfl, rfl⟩
    · have h : blockB low high = false := by simp [blockB, h2]
      rw [h]; clear h
      go_enter Try.func46, Try.ntmps46
      go_wp2
      go_ret
      exact ⟨rfl, rfl⟩
  · have h : blockB low high = false := by simp [blockB, h1]
    rw [h]; clear h
    go_enter Try.func46, Try.ntmps46
    go_wp2
    go_ret
    exact ⟨rfl, rfl⟩

def tenV (t : Ten) : Value := .agg #[.int .i64 t.tag, .int .i64 t.outer, .int .i64 t.low, .int .i64 t.high]

set_option maxHeartbeats 400000 in
theorem isTenant_raw (a b c d : Int) (w : World) :
    Calls Try.prog 38 #[.agg #[.int .i64 a, .int .i64 b, .int .i64 c, .int .i64 d]] w fun e w' => e = .returned (.bool (okT ⟨a, b, c, d⟩)) ∧ Below w.heap.size w w' := by
  by_cases h1 : 1 ≤ a
  · by_cases h2 : a ≤ 4094
    · by_cases h3 : 0 ≤ b
      · by_cases h4 : b ≤ 4294967295
        · have h : okT ⟨a, b, c, d⟩ = blockB c d := by simp [okT, blockB, h1, h2, h3, h4]
          rw [h]; clear h
          go_enter Try.func38, Try.ntmps38
          go_wp2_with (go_at_call 46; refine (isBlock_any _ _ _).mono ?_; rintro e w' ⟨rfl, rfl⟩)
          go_ret
          exact ⟨rfl, (Below.refl _ _).alloc (Nat.le_refl _) _⟩
        · have h : okT ⟨a, b, c, d⟩ = false := by simp [okT, h4]
          rw [h]; clear h
          go_enter Try.func38, Try.ntmps38
          go_wp2
          go_ret
          exact ⟨rfl, (Below.refl _ _).alloc (Nat.le_refl _) _⟩
      · have h : okT ⟨a, b, c, d⟩ = false := by simp [okT, h3]
        rw [h]; clear h
        go_enter Try.func38, Try.ntmps38
        go_wp2
        go_ret
        exact ⟨rfl, (Below.refl _ _).alloc (Nat.le_refl _) _⟩
    · have h : okT ⟨a, b, c, d⟩ = false := by simp [okT, h2]
      rw [h]; clear h
      go_enter Try.func38, Try.ntmps38
      go_wp2
      go_ret
      exact ⟨rfl, (Below.refl _ _).alloc (Nat.le_refl _) _⟩
  · have h : okT ⟨a, b, c, d⟩ = false := by simp [okT, h1]
    rw [h]; clear h
    go_enter Try.func38, Try.ntmps38
    go_wp2
    go_ret
    exact ⟨rfl, (Below.refl _ _).alloc (Nat.le_refl _) _⟩

def tickB (t : Int) : Int := if t < 0 ∨ 100000 < t then 6 else 0

set_option maxHeartbeats 400000 in
theorem tick_any (v : Value) (t : Int) (w : World) :
    Calls Try.prog 10 #[v, .int .i64 t] w fun e w' => e = .returned (.int .i64 (tickB t)) ∧ w' = w := by
  by_cases h1 : t < 0
  · have h : tickB t = 6 := by simp [tickB, h1]
    rw [h]; clear h
    go_enter Try.func10, Try.ntmps10
    go_wp2
    go_ret
    exact ⟨rfl, rfl⟩
  · by_cases h2 : 100000 < t
    · have h : tickB t = 6 := by simp [tickB, h2]
      rw [h]; clear h
      go_enter Try.func10, Try.ntmps10
      go_wp2
      go_ret
      exact ⟨rfl, rfl⟩
    · have h : tickB t = 0 := by simp [tickB, h1, h2]
      rw [h]; clear h
      go_enter Try.func10, Try.ntmps10
      go_wp2
      go_ret
      exact ⟨rfl, rfl⟩

theorem pick_neg (c : Int) (n : Nat) (h1 : c < 0) (hn : 0 < n) : ∃ j : Nat, j < n ∧ -((c + 1).tmod n) = j := by
  obtain ⟨m, hm⟩ := Int.eq_ofNat_of_zero_le (show 0 ≤ -(c + 1) by omega)
  have e : c + 1 = -(m : Int) := by omega
  rw [e, Int.neg_tmod, Int.neg_neg, Int.tmod_eq_emod_of_nonneg (by omega)]
  exact ⟨m % n, Nat.mod_lt _ hn, by simp⟩

/-- which of n things the raw number c speaks of: from 0 to n - 1 -/
theorem pick_any (c : Int) (n : Nat) (w : World) (hc : -9223372036854775808 ≤ c) (hc' : c ≤ 9223372036854775807) (hn : 0 < n) (hn' : n ≤ 8) :
    Calls Try.prog 8 #[.int .i64 c, .int .i64 n] w fun e w' => ∃ j : Nat, j < n ∧ e = .returned (.int .i64 j) ∧ w' = w := by
  by_cases h1 : c < 0
  · have hp := pick_neg c n h1 hn
    have hq : Hid (∃ j : Nat, j < n ∧ -((c + 1).tmod n) = j) := hp
    clear hp
    go_enter Try.func8, Try.ntmps8
    go_wp2
    go_ret
    obtain ⟨j, hj, e⟩ := hq.out
    exact ⟨j, hj, by rw [e]; rfl, rfl⟩
  · go_enter Try.func8, Try.ntmps8
    go_wp2
    go_ret
    obtain ⟨m, hm⟩ := Int.eq_ofNat_of_zero_le (show 0 ≤ c by omega)
    exact ⟨m % n, Nat.mod_lt _ hn, by rw [hm]; simp, rfl⟩

end Go.Proofs.Ytgiafiifoegokaa
