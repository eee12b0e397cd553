/- The program's 'Table': of a box without mappings: nothing, and ErrNone where no tenant has the tag. -/
import Derived.Test.YtgiafiifoegokaaWe
namespace Go.Proofs.Ytgiafiifoegokaa
open Go.RowKit

attribute [local go_sem ↓] Go.wp_at_zero Go.wp_at_succ

def mapZ : Value := .agg #[.int .i64 0, .int .i64 0, .int .i64 0, .int .i64 0, .slice none 0 0, .int .i64 0, .int .i64 0]
theorem info61 : (Try.prog.info? 61).map (fun i => (i.zero, i.size, i.bytes)) = some (some mapZ, 7, 72) := by kernel_rfl

theorem run_make0 (w : World) : (Instr.makeSlice 59 (.int .i64 0) (.int .i64 0)).run Try.prog w = .ok (.slice (some ⟨w.heap.size, 0, none⟩) 0 0) (w.alloc (.cells #[] 61)) := by
  obtain ⟨i0, hi, hz0, hz1, hz2⟩ := info_parts info61
  have h := run_make (P := Try.prog) w 59 61 i0 _ Try.underlying59 hi hz0 .i64 .i64 0 0 (Int.le_refl _) (Int.le_refl _) (by simp) (by simp)
  simpa [madeCells, Array.range_zero'] using h

theorem run_lenMap0 (w : World) (h c : Nat) (hh : w.heap[h]? = some (.map #[] c)) (ty : TypeId) : (Builtin.len_ #[104] ty #[.map (some h)]).run Try.prog w = .ok (.int .i64 0) w := by
  simp [Builtin.len_, run_underlying Try.underlying104, MapKept.run_getObj_map hh, goInt, Result.andThen]

theorem run_check110 (w : World) (e : Bool) (p q : Int) : (Instr.checkKey e 10000 110 (.agg #[.int .i64 p, .int .i64 q])).run Try.prog w = .ok () w := by
  cases e <;> kernel_rfl

theorem run_look0 (w : World) (h c : Nat) (hh : w.heap[h]? = some (.map #[] c)) (p q : Int) :
    (Instr.lookup 104 (.map (some h)) (.agg #[.int .i64 p, .int .i64 q]) true).run Try.prog w = .ok (.tuple #[.pointer none, .bool false]) w := by
  have hz : (zeroValue 107).run Try.prog w = .ok (.pointer none) w := by kernel_rfl
  have hu : ∃ d, Try.prog.underlying 110 = some d := ⟨_, Try.underlying110⟩
  obtain ⟨d, hd⟩ := hu
  have hf : (Instr.findKey 110 (.agg #[.int .i64 p, .int .i64 q]) []).run Try.prog w = .ok none w := MapKept.run_findKey hd rfl
  simp [Instr.lookup, run_underlying Try.underlying104, MapKept.run_getObj_map hh, run_check110, hf, hz, Result.andThen]

set_option maxHeartbeats 400000 in
theorem tentab_any (g h c : Nat) (low high : Int) (w : World) (hg : w.heap[g]? = some (.cells #[.int .i64 low, .int .i64 high, .map (some h)] 106 (0, 0))) (hh : w.heap[h]? = some (.map #[] c)) (hlo : 0 ≤ low) (hhi : high ≤ 65535) :
    Calls Try.prog 30 #[.pointer (some ⟨g, 0, none⟩)] w fun e w' => e = .returned (.slice (some ⟨w.heap.size, 0, none⟩) 0 0) ∧ w' = w.alloc (.cells #[] 61) := by
  have hmk := run_make0
  have hl := fun ty => run_lenMap0 w h c hh ty
  have hlook := fun p q => run_look0 (w.alloc (.cells #[] 61)) h c (blkA hh) p q
  have c0 : w.cell? ⟨g, 0, none⟩ = some (.int .i64 low) := by simp [World.cell?, hg]
  have c1 : w.cell? ⟨g, 1, none⟩ = some (.int .i64 high) := by simp [World.cell?, hg]
  have c2 : w.cell? ⟨g, 2, none⟩ = some (.map (some h)) := by simp [World.cell?, hg]
  have d0 := cellA (o := .cells #[] 61) c0
  have d1 := cellA (o := .cells #[] 61) c1
  have d2 := cellA (o := .cells #[] 61) c2
  clear hg hh
  go_enter Try.func30, Try.ntmps30
  go_wp2
  go_loop [3, 4] (fun l p => l = .slice (some ⟨w.heap.size, 0, none⟩) 0 0 ∧ ∃ k : Int, 1 ≤ k ∧ k ≤ 4 ∧ p = .int .i64 k) (fun _ p => (4 - intOf p).toNat)
  case atStart => exact ⟨rfl, 1, by omega, by omega, rfl⟩
  case round =>
    obtain ⟨rfl, k, hk1, hk2, rfl⟩ := hrel
    by_cases hk : k ≤ 3
    · go_wp2
      go_loop [3, 5] (fun l q => l = .slice (some ⟨w.heap.size, 0, none⟩) 0 0 ∧ ∃ x : Int, 0 ≤ x ∧ q = .int .i64 x) (fun _ q => (65536 - intOf q).toNat)
      case atStart => exact ⟨rfl, low, hlo, rfl⟩
      case round =>
        obtain ⟨rfl, x, hx, rfl⟩ := hrel
        by_cases hxh : x ≤ high
        · go_wp2
          go_round
          case rel => exact ⟨rfl, x + 1, by omega, rfl⟩
          case measure => simp [intOf]; omega
        · go_wp2
          go_round
          case rel => exact ⟨rfl, k + 1, by omega, by omega, rfl⟩
          case measure => simp [intOf]; omega
    · go_wp2
      go_ret
      exact ⟨rfl, rfl⟩

/-- has a tenant the tag? -/
def hasTag (ts : List Ten) (tag : Int) : Bool := ts.any fun t => t.tag == tag

def tabErr (ts : List Ten) (tag : Int) : Int := if hasTag ts tag then 0 else 5

set_option maxHeartbeats 400000 in
theorem table_any (p : Nat) (S : Nat → Prop) (ts : List Ten) (tag : Int) (w : World) (hB : ProgBox w S p ts) :
    Calls Try.prog 17 #[.pointer (some ⟨p, 0, none⟩), .int .i64 tag] w fun e w' =>
      (hasTag ts tag = true ∧ e = .returned (.tuple #[.slice (some ⟨w.heap.size, 0, none⟩) 0 0, .int .i64 0]) ∧ w' = w.alloc (.cells #[] 61)) ∨ (hasTag ts tag = false ∧ e = .returned (.tuple #[.slice none 0 0, .int .i64 5]) ∧ w' = w) := by
  obtain ⟨_, r, es, clock, _, hp, hr, hE⟩ := hB
  have c0 : w.cell? ⟨p, 0, none⟩ = some (.map (some r)) := by simp [World.cell?, hp]
  cases hh : hasTag ts tag
  · have hlook := run_look_none w r es clock tag hr (fun e he => by
      obtain ⟨t, ht, hk⟩ := hE.keys e he
      refine ⟨t.tag, hk, fun e' => ?_⟩
      have : hasTag ts tag = true := by
        unfold hasTag
        rw [List.any_eq_true]
        exact ⟨t, ht, by simp [e']⟩
      rw [this] at hh
      cases hh)
    clear hp hr hE
    go_enter Try.func17, Try.ntmps17
    go_wp2
    go_ret2
    exact .inr ⟨trivial, rfl, rfl⟩
  · obtain ⟨e, he, hek, hlook⟩ := run_look_some w r es clock tag hr (fun e he => by
      obtain ⟨t, ht, hk⟩ := hE.keys e he
      exact ⟨t.tag, hk⟩) (by
      unfold hasTag at hh
      obtain ⟨t, ht, he⟩ := List.any_eq_true.1 hh
      have : Value.int .i64 t.tag ∈ es.toList.map (·.key) := by rw [hE.1]; exact List.mem_map.2 ⟨t, ht, rfl⟩
      obtain ⟨e, he', hk⟩ := List.mem_map.1 this
      exact ⟨e, he', by rw [hk]; simp at he; rw [he]⟩)
    obtain ⟨g, hv, _, low, high, h, c, _, b1, b2, b3, b4⟩ := hE.2 e he
    rw [hv] at hlook
    have HT := hide (tentab_any g h c low high w b1 b2 b3 b4)
    clear hp hr hE b1 b2 hek he hv
    go_enter Try.func17, Try.ntmps17
    go_wp2_with fail
    refine (unhide HT).mono ?_
    rintro e w' ⟨rfl, rfl⟩
    go_wp2
    go_ret2
    exact .inl ⟨trivial, rfl, rfl⟩

end Go.Proofs.Ytgiafiifoegokaa
