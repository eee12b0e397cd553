/- 'face', 'behind', 'newMapping'. -/
import Derived.Test.YtkbgjbbniaflhaaQc
import Derived.Deep.RegionHeld3
import Derived.Deep.DrawnRows
namespace Go.Proofs.Ytkbgjbbniaflhaa
open Go.RowKit
open Go.ChangeMaps (setBlock)

theorem below_drewN {B : Nat} {a b : World} (h : Below B a b) (n : Nat) : Below B a (b.drewN n) := ⟨h.os, h.tape, h.output, h.size, h.block⟩
theorem Fr.drewN {X : Nat → Prop} {a b : World} (h : Fr X a b) (n : Nat) : Fr X a (b.drewN n) := ⟨h.os, h.tape, h.output, h.size, h.block⟩

theorem TenR.ofFind {w : World} {S : Nat → Prop} {g hp hi : Nat} {T : Tn} {L : List Cl} (h : TenR w S g hp hi T L) {f : Mp → Bool} {m : Mp} (hf : T.maps.find? f = some m) : ∃ x ∈ L, x.m = m := by
  have := List.mem_of_find?_eq_some hf
  rw [← h.maps] at this
  exact List.mem_map.1 this

theorem TenR.same {w : World} {S : Nat → Prop} {g hp hi : Nat} {T : Tn} {L : List Cl} (h : TenR w S g hp hi T L) {x y : Cl} (hx : x ∈ L) (hy : y ∈ L) (e : x.m = y.m) : x = y :=
  pw_eq h.apart hx hy (fun r => r.2.2.1 (by rw [e]; exact ⟨rfl, rfl⟩)) (fun r => r.2.2.1 (by rw [e]; exact ⟨rfl, rfl⟩))

theorem TenR.lookP_some {w : World} {S : Nat → Prop} {g hp hi : Nat} {T : Tn} {L : List Cl} (h : TenR w S g hp hi T L) {p q : Int} {x : Cl} (hx : x ∈ L) (hf : T.maps.find? (isP p q) = some x.m) :
    (Instr.lookup 97 (.map (some hp)) (.agg #[.int .i64 p, .int .i64 q]) true).run Try.prog w = .ok (.tuple #[.pointer (some ⟨x.g, 0, none⟩), .bool true]) w := by
  rcases h.lookP p q with ⟨h1, _⟩ | ⟨y, hy, h1, h2⟩
  · rw [hf] at h1; cases h1
  · rw [hf] at h1
    rw [h.same hx hy (Option.some.inj h1)]
    exact h2

theorem TenR.lookP_none {w : World} {S : Nat → Prop} {g hp hi : Nat} {T : Tn} {L : List Cl} (h : TenR w S g hp hi T L) {p q : Int} (hf : T.maps.find? (isP p q) = none) :
    (Instr.lookup 97 (.map (some hp)) (.agg #[.int .i64 p, .int .i64 q]) true).run Try.prog w = .ok (.tuple #[.pointer none, .bool false]) w := by
  rcases h.lookP p q with ⟨_, h2⟩ | ⟨y, hy, h1, _⟩
  · exact h2
  · rw [hf] at h1; cases h1

theorem TenR.lookI_some {w : World} {S : Nat → Prop} {g hp hi : Nat} {T : Tn} {L : List Cl} (h : TenR w S g hp hi T L) {p a b : Int} {x : Cl} (hx : x ∈ L) (hf : T.maps.find? (isI p a b) = some x.m) :
    (Instr.lookup 98 (.map (some hi)) (.agg #[.int .i64 p, .int .i64 a, .int .i64 b]) true).run Try.prog w = .ok (.tuple #[.pointer (some ⟨x.g, 0, none⟩), .bool true]) w := by
  rcases h.lookI p a b with ⟨h1, _⟩ | ⟨y, hy, h1, h2⟩
  · rw [hf] at h1; cases h1
  · rw [hf] at h1
    rw [h.same hx hy (Option.some.inj h1)]
    exact h2

theorem TenR.lookI_none {w : World} {S : Nat → Prop} {g hp hi : Nat} {T : Tn} {L : List Cl} (h : TenR w S g hp hi T L) {p a b : Int} (hf : T.maps.find? (isI p a b) = none) :
    (Instr.lookup 98 (.map (some hi)) (.agg #[.int .i64 p, .int .i64 a, .int .i64 b]) true).run Try.prog w = .ok (.tuple #[.pointer none, .bool false]) w := by
  rcases h.lookI p a b with ⟨_, h2⟩ | ⟨y, hy, h1, _⟩
  · exact h2
  · rw [hf] at h1; cases h1

/-- a tenant stays while blocks are made and orders are drawn -/
theorem TenR.new {w w' : World} {S : Nat → Prop} {g hp hi : Nat} {T : Tn} {L : List Cl} (h : TenR w S g hp hi T L) (hb : Below w.heap.size w w') : TenR w' S g hp hi T L :=
  h.keep (X := fun _ => False) (Fr.of_below hb) (fun _ _ f => f)

theorem TenR.cells {w : World} {S : Nat → Prop} {g hp hi : Nat} {T : Tn} {L : List Cl} (h : TenR w S g hp hi T L) : g < w.heap.size ∧ w.cell? ⟨g, 0, none⟩ = some (.int .i64 T.outer) ∧ w.cell? ⟨g, 1, none⟩ = some (.int .i64 T.low) ∧ w.cell? ⟨g, 2, none⟩ = some (.int .i64 T.high) ∧ w.cell? ⟨g, 3, none⟩ = some (.map (some hp)) ∧ w.cell? ⟨g, 4, none⟩ = some (.map (some hi)) := by
  have hb := h.blk
  refine ⟨(Array.getElem?_eq_some_iff.1 hb).1, ?_, ?_, ?_, ?_, ?_⟩ <;> simp [World.cell?, hb]

set_option maxHeartbeats 1000000 in
theorem face_any (g n : Nat) (outer port : Int) (w : World) (hg : w.cell? ⟨g, 0, none⟩ = some (.int .i64 outer)) (hn : w.cell? ⟨n, 3, none⟩ = some (.int .i64 port)) :
    Calls Try.prog 59 #[.pointer (some ⟨g, 0, none⟩), .pointer (some ⟨n, 0, none⟩)] w fun e w' => e = .returned (.agg #[.int .i64 outer, .int .i64 port]) ∧ Below w.heap.size w w' := by
  have l1 : g < w.heap.size := World.block_lt_of_cell? w _ hg
  have l2 : n < w.heap.size := World.block_lt_of_cell? w _ hn
  go_enter Try.func59, Try.ntmps59
  go_wp2
  go_region
  go_wp2
  all_goals exact bodyPost_ret (v := .agg #[.int .i64 outer, .int .i64 port]) (by simp [results, Try.results59, go_sem]) rfl ⟨rfl, ((Below.refl _ _).alloc (Nat.le_refl _) _).drew⟩

set_option maxHeartbeats 1000000 in
theorem newMapping_any (proto ia ip port : Int) (w : World) :
    Calls Try.prog 76 #[.int .i64 proto, .agg #[.int .i64 ia, .int .i64 ip], .int .i64 port] w fun e w' => e = .returned (.pointer (some ⟨w.heap.size + 1, 0, none⟩)) ∧
      w'.heap[w.heap.size + 1]? = some (.cells (mpC (newM proto ia ip port) (.slice none 0 0)) 105 (0, 0)) ∧ Below w.heap.size w w' ∧ w'.heap.size = w.heap.size + 2 := by
  by_cases h : proto = 2
  · have hn : newM proto ia ip port = ⟨proto, ia, ip, port, [], 1, 0, false, false⟩ := by unfold newM; rw [if_pos h]
    rw [hn]
    clear hn
    go_enter Try.func76, Try.ntmps76
    go_wp2
    go_ret
    refine ⟨rfl, ?_, ((Below.refl _ _).alloc (Nat.le_refl _) _).alloc (by simp) _, by simp⟩
    rw [blkN _ _ _ (by simp)]
    simp [mpC, h]
  · have hn : newM proto ia ip port = ⟨proto, ia, ip, port, [], 0, 0, false, false⟩ := by unfold newM; rw [if_neg h]
    have h' : (proto == 2) = false := by simpa using h
    rw [hn]
    clear hn
    go_enter Try.func76, Try.ntmps76
    go_wp2
    go_ret
    refine ⟨rfl, ?_, ((Below.refl _ _).alloc (Nat.le_refl _) _).alloc (by simp) _, by simp⟩
    rw [blkN _ _ _ (by simp)]
    simp [mpC]

set_option maxHeartbeats 1000000 in
theorem behind_far (g : Nat) (outer proto a q : Int) (w : World) (hg : w.cell? ⟨g, 0, none⟩ = some (.int .i64 outer)) (hne : a ≠ outer) :
    Calls Try.prog 60 #[.pointer (some ⟨g, 0, none⟩), .int .i64 proto, .agg #[.int .i64 a, .int .i64 q]] w fun e w' => e = .returned (.tuple #[.pointer none, .bool false]) ∧ Below w.heap.size w w' := by
  have l1 : g < w.heap.size := World.block_lt_of_cell? w _ hg
  have hne' : (a == outer) = false := by simpa using hne
  go_enter Try.func60, Try.ntmps60
  go_wp2
  go_quiet (fail)
  go_wp2
  go_ret2
  exact ⟨rfl, below_drewN ((Below.refl _ _).alloc (Nat.le_refl _) _) _⟩

set_option maxHeartbeats 1000000 in
theorem behind_none {w : World} {S : Nat → Prop} {g hp hi : Nat} {T : Tn} {L : List Cl} (h : TenR w S g hp hi T L) (p q : Int) (hf : T.maps.find? (isP p q) = none) :
    Calls Try.prog 60 #[.pointer (some ⟨g, 0, none⟩), .int .i64 p, .agg #[.int .i64 T.outer, .int .i64 q]] w fun e w' => e = .returned (.tuple #[.pointer none, .bool false]) ∧ Below w.heap.size w w' := by
  obtain ⟨l1, c0, -, -, c3, -⟩ := h.cells
  have HT := hide h
  have HF := hide hf
  clear h hf
  go_enter Try.func60, Try.ntmps60
  go_wp2
  go_quiet (fail)
  go_wp2
  have HB : Hid (Below w.heap.size w ((w.alloc (.cells #[.int .i64 T.outer, .int .i64 q] 34)).drewN nq)) := below_drewN ((Below.refl _ _).alloc (Nat.le_refl _) _) nq
  have d1 : ((w.alloc (.cells #[.int .i64 T.outer, .int .i64 q] 34)).drewN nq).cell? ⟨w.heap.size, 1, none⟩ = some (.int .i64 q) := by simp
  generalize ((w.alloc (.cells #[.int .i64 T.outer, .int .i64 q] 34)).drewN nq) = w1 at *
  have HT1 := hide ((unhide HT).new (unhide HB))
  have c3' := (unhide HT1).cells.2.2.2.2.1
  have hl := ((unhide HT1).new (Below.refl _ _).drew).lookP_none (unhide HF)
  go_region
  all_goals
    go_wp2
    go_ret2
    exact ⟨rfl, (unhide HB).drew⟩

set_option maxHeartbeats 1000000 in
theorem behind_some {w : World} {S : Nat → Prop} {g hp hi : Nat} {T : Tn} {L : List Cl} (h : TenR w S g hp hi T L) (p q : Int) {x : Cl} (hx : x ∈ L) (hf : T.maps.find? (isP p q) = some x.m) :
    Calls Try.prog 60 #[.pointer (some ⟨g, 0, none⟩), .int .i64 p, .agg #[.int .i64 T.outer, .int .i64 q]] w fun e w' => e = .returned (.tuple #[.pointer (some ⟨x.g, 0, none⟩), .bool true]) ∧ Below w.heap.size w w' := by
  obtain ⟨l1, c0, -, -, c3, -⟩ := h.cells
  have HT := hide h
  have HF := hide (And.intro hx hf)
  clear h hx hf
  go_enter Try.func60, Try.ntmps60
  go_wp2
  go_quiet (fail)
  go_wp2
  have HB : Hid (Below w.heap.size w ((w.alloc (.cells #[.int .i64 T.outer, .int .i64 q] 34)).drewN nq)) := below_drewN ((Below.refl _ _).alloc (Nat.le_refl _) _) nq
  have d1 : ((w.alloc (.cells #[.int .i64 T.outer, .int .i64 q] 34)).drewN nq).cell? ⟨w.heap.size, 1, none⟩ = some (.int .i64 q) := by simp
  generalize ((w.alloc (.cells #[.int .i64 T.outer, .int .i64 q] 34)).drewN nq) = w1 at *
  have HT1 := hide ((unhide HT).new (unhide HB))
  have c3' := (unhide HT1).cells.2.2.2.2.1
  have hl := ((unhide HT1).new (Below.refl _ _).drew).lookP_some (unhide HF).1 (unhide HF).2
  go_region
  all_goals
    go_wp2
    go_ret2
    exact ⟨rfl, (unhide HB).drew⟩

end Go.Proofs.Ytkbgjbbniaflhaa
