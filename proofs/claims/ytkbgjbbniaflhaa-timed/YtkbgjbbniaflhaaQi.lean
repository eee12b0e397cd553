/- 'passIn'. -/
import Derived.Test.YtkbgjbbniaflhaaQd
namespace Go.Proofs.Ytkbgjbbniaflhaa
open Go.RowKit
open Go.ChangeMaps (setBlock)

/-- what a call on a tenant leaves -/
def After (w : World) (S : Nat → Prop) (g hp hi : Nat) (T : Tn) (w' : World) : Prop := ∃ L, TenR w' (grow S w w') g hp hi T L ∧ Fr S w w'

theorem TenR.after {w w' : World} {S : Nat → Prop} {g hp hi : Nat} {T : Tn} {L : List Cl} (h : TenR w S g hp hi T L) (hb : Below w.heap.size w w') : After w S g hp hi T w' :=
  ⟨L, (h.new hb).mono (fun _ hk => .inl hk) (by
    rintro k (hk | hk)
    · exact Nat.lt_of_lt_of_le (h.bound k hk) hb.size
    · exact hk.2), Fr.of_below hb⟩

def pk0V : Value := .agg #[.int .i64 0, .int .i64 0, .bool false, .int .i64 0, .int .i64 0, .int .i64 0, .int .i64 0, .bool false, .bool false, .bool false, .bool false, .int .i64 0, .int .i64 0, .int .i64 0, .int .i64 0]

theorem Fr.setNew {X : Nat → Prop} {a b : World} (h : Fr X a b) {p : Addr} {u : Value} (hn : a.heap.size ≤ p.block) : Fr X a (b.setCell p u) := h.setCell u (fun hl => by omega)

/-- the cells of a packet that lies in a block -/
theorem pk_cells {w : World} {b : Nat} {p : Pk} (h : w.heap[b]? = some (.cells (pkC p) 38 (0, 0))) :
    w.cell? ⟨b, 0, none⟩ = some (.int .i64 p.tag) ∧ w.cell? ⟨b, 1, none⟩ = some (.int .i64 p.proto) ∧ w.cell? ⟨b, 2, none⟩ = some (.bool p.out) ∧ w.cell? ⟨b, 3, none⟩ = some (.int .i64 p.sa) ∧ w.cell? ⟨b, 4, none⟩ = some (.int .i64 p.sp) ∧ w.cell? ⟨b, 5, none⟩ = some (.int .i64 p.da) ∧ w.cell? ⟨b, 6, none⟩ = some (.int .i64 p.dp) ∧
    w.cell? ⟨b, 7, none⟩ = some (.bool p.syn) ∧ w.cell? ⟨b, 8, none⟩ = some (.bool p.fin) ∧ w.cell? ⟨b, 9, none⟩ = some (.bool p.rst) ∧ w.cell? ⟨b, 10, none⟩ = some (.bool p.err) ∧ w.cell? ⟨b, 11, none⟩ = some (.int .i64 p.qsa) ∧ w.cell? ⟨b, 12, none⟩ = some (.int .i64 p.qsp) ∧ w.cell? ⟨b, 13, none⟩ = some (.int .i64 p.qda) ∧ w.cell? ⟨b, 14, none⟩ = some (.int .i64 p.qdp) ∧ ∀ o, w.frozen? ⟨b, o, none⟩ = false := by
  refine ⟨?_, ?_, ?_, ?_, ?_, ?_, ?_, ?_, ?_, ?_, ?_, ?_, ?_, ?_, ?_, fun o => ?_⟩ <;> simp [World.cell?, World.frozen?, h, pkC]

set_option maxHeartbeats 1000000 in
theorem passIn_far {w : World} {S : Nat → Prop} {g hp hi : Nat} {T : Tn} {L : List Cl} (h : TenR w S g hp hi T L) (p : Pk) (hno : p.da ≠ T.outer ∨ (p.da = T.outer ∧ T.maps.find? (isP p.proto p.dp) = none)) :
    Calls Try.prog 45 #[.pointer (some ⟨g, 0, none⟩), .agg (pkC p)] w fun e w' => e = .returned (.tuple #[.agg (pkC pk0), .int .i64 4]) ∧ Below w.heap.size w w' := by
  have hC : ∀ (w1 : World), Below w.heap.size w w1 → Hid (Calls Try.prog 60 #[.pointer (some ⟨g, 0, none⟩), .int .i64 p.proto, .agg #[.int .i64 p.da, .int .i64 p.dp]] w1 fun e w' => e = .returned (.tuple #[.pointer none, .bool false]) ∧ Below w1.heap.size w1 w') := by
    intro w1 hb
    rcases hno with hne | ⟨he, hf⟩
    · exact behind_far g T.outer p.proto p.da p.dp w1 (h.new hb).cells.2.1 hne
    · rw [he]
      exact behind_none (h.new hb) p.proto p.dp hf
  have l1 := h.cells.1
  obtain ⟨tag, proto, out, sa, sp, da, dp, syn, fin, rst, err, qsa, qsp, qda, qdp⟩ := p
  unfold pkC at *
  dsimp only at *
  clear h hno
  go_enter Try.func45, Try.ntmps45
  go_wp2_with fail
  refine (unhide (hC _ (((Below.refl _ _).alloc (Nat.le_refl _) _).alloc (by simp) _))).mono ?_
  rintro e w1 ⟨rfl, hb1⟩
  obtain ⟨hc, hf⟩ := bcell hb1
  have hz : w.heap.size + 2 ≤ w1.heap.size := by have := hb1.size; simpa using this
  have HB : Hid (Below w.heap.size w w1) := Below.trans (((Below.refl _ _).alloc (Nat.le_refl _) _).alloc (by simp) _) (hb1.mono (by simp; omega))
  clear hb1 hC
  go_wp2
  refine bodyPost_ret (v := .tuple #[pk0V, .int .i64 4]) (by simp [results, Try.results45, go_sem, pk0V, hc]) rfl ⟨rfl, ?_⟩
  repeat (refine Below.setCell ?_ (by simp) _)
  exact unhide HB

end Go.Proofs.Ytkbgjbbniaflhaa
