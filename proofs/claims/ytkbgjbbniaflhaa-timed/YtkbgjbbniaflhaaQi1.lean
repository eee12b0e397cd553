/- 'passIn': filtered; passed on. -/
import Derived.Test.YtkbgjbbniaflhaaQi
namespace Go.Proofs.Ytkbgjbbniaflhaa
open Go.RowKit
open Go.ChangeMaps (setBlock)

set_option maxHeartbeats 1000000 in
theorem passIn_filt {w : World} {S : Nat → Prop} {g hp hi : Nat} {T : Tn} {L : List Cl} (h : TenR w S g hp hi T L) (p : Pk) (he : p.da = T.outer) {x : Cl} (hx : x ∈ L) (hf : T.maps.find? (isP p.proto p.dp) = some x.m) (hc : x.m.peers.contains p.sa = false) :
    Calls Try.prog 45 #[.pointer (some ⟨g, 0, none⟩), .agg (pkC p)] w fun e w' => e = .returned (.tuple #[.agg (pkC pk0), .int .i64 5]) ∧ Below w.heap.size w w' := by
  have hC : ∀ (w1 : World), Below w.heap.size w w1 → Hid (Calls Try.prog 60 #[.pointer (some ⟨g, 0, none⟩), .int .i64 p.proto, .agg #[.int .i64 p.da, .int .i64 p.dp]] w1 fun e w' => e = .returned (.tuple #[.pointer (some ⟨x.g, 0, none⟩), .bool true]) ∧ Below w1.heap.size w1 w') := by
    intro w1 hb
    rw [he]
    exact behind_some (h.new hb) p.proto p.dp hx hf
  have hP : ∀ (w1 : World), Below w.heap.size w w1 → Hid (Calls Try.prog 58 #[.pointer (some ⟨x.g, 0, none⟩), .int .i64 p.sa] w1 fun e w' => e = .returned (.bool false) ∧ w' = w1) := by
    intro w1 hb
    rw [← hc]
    exact hasPeer_any x.g x.sv x.m p.sa w1 ((h.new hb).mem x hx).1
  have l1 := h.cells.1
  obtain ⟨tag, proto, out, sa, sp, da, dp, syn, fin, rst, err, qsa, qsp, qda, qdp⟩ := p
  unfold pkC at *
  dsimp only at *
  clear h he hx hf hc
  go_enter Try.func45, Try.ntmps45
  go_wp2_with fail
  refine (unhide (hC _ (((Below.refl _ _).alloc (Nat.le_refl _) _).alloc (by simp) _))).mono ?_
  rintro e w1 ⟨rfl, hb1⟩
  obtain ⟨hc, hf⟩ := bcell hb1
  have hz : w.heap.size + 2 ≤ w1.heap.size := by have := hb1.size; simpa using this
  have HB : Hid (Below w.heap.size w w1) := Below.trans (((Below.refl _ _).alloc (Nat.le_refl _) _).alloc (by simp) _) (hb1.mono (by simp; omega))
  clear hb1 hC
  go_wp2_with (go_at_call 58; refine (unhide (hP _ (unhide HB))).mono ?_; rintro e w' ⟨rfl, hw⟩; symm at hw; subst hw)
  refine bodyPost_ret (v := .tuple #[pk0V, .int .i64 5]) (by simp [results, Try.results45, go_sem, pk0V, hc]) rfl ⟨rfl, ?_⟩
  repeat (refine Below.setCell ?_ (by simp) _)
  exact unhide HB

set_option maxHeartbeats 2000000 in
theorem passIn_ok {w : World} {S : Nat → Prop} {g hp hi : Nat} {T : Tn} {L : List Cl} (h : TenR w S g hp hi T L) (p : Pk) (he : p.da = T.outer) {x : Cl} (hx : x ∈ L) (hf : T.maps.find? (isP p.proto p.dp) = some x.m) (hc : x.m.peers.contains p.sa = true) (hp2 : (p.proto == 2) = false) :
    Calls Try.prog 45 #[.pointer (some ⟨g, 0, none⟩), .agg (pkC p)] w fun e w' => e = .returned (.tuple #[.agg (pkC { p with da := x.m.ia, dp := x.m.ip }), .int .i64 0]) ∧ Below w.heap.size w w' := by
  have hC : ∀ (w1 : World), Below w.heap.size w w1 → Hid (Calls Try.prog 60 #[.pointer (some ⟨g, 0, none⟩), .int .i64 p.proto, .agg #[.int .i64 p.da, .int .i64 p.dp]] w1 fun e w' => e = .returned (.tuple #[.pointer (some ⟨x.g, 0, none⟩), .bool true]) ∧ Below w1.heap.size w1 w') := by
    intro w1 hb
    rw [he]
    exact behind_some (h.new hb) p.proto p.dp hx hf
  have hP : ∀ (w1 : World), Below w.heap.size w w1 → Hid (Calls Try.prog 58 #[.pointer (some ⟨x.g, 0, none⟩), .int .i64 p.sa] w1 fun e w' => e = .returned (.bool true) ∧ w' = w1) := by
    intro w1 hb
    rw [← hc]
    exact hasPeer_any x.g x.sv x.m p.sa w1 ((h.new hb).mem x hx).1
  have hI : ∀ (w1 : World), Below w.heap.size w w1 → w1.cell? ⟨x.g, 1, none⟩ = some (.int .i64 x.m.ia) ∧ w1.cell? ⟨x.g, 2, none⟩ = some (.int .i64 x.m.ip) := fun w1 hb =>
    ⟨((h.new hb).mem x hx).1.cells.2.2.1, ((h.new hb).mem x hx).1.cells.2.2.2.1⟩
  have l1 := h.cells.1
  have l2 := (h.mem x hx).1.cells.1
  obtain ⟨tag, proto, out, sa, sp, da, dp, syn, fin, rst, err, qsa, qsp, qda, qdp⟩ := p
  unfold pkC at *
  dsimp only at *
  clear h he hx hf hc
  go_enter Try.func45, Try.ntmps45
  go_wp2_with fail
  refine (unhide (hC _ (((Below.refl _ _).alloc (Nat.le_refl _) _).alloc (by simp) _))).mono ?_
  rintro e w1 ⟨rfl, hb1⟩
  have hpk : w1.heap[w.heap.size]? = some (.cells (pkC ⟨tag, proto, out, sa, sp, da, dp, syn, fin, rst, err, qsa, qsp, qda, qdp⟩) 38 (0, 0)) := (hb1.block _ (by simp; omega)).trans (blkA (blkN _ _ _ rfl))
  have hrs : w1.heap[w.heap.size + 1]? = some (.cells (pkC pk0) 38 (0, 0)) := (hb1.block _ (by simp)).trans (blkN _ _ _ (by simp))
  obtain ⟨a0, a1, a2, a3, a4, a5, a6, a7, a8, a9, a10, a11, a12, a13, a14, az⟩ := pk_cells hpk
  obtain ⟨b0, b1, b2, b3, b4, b5, b6, b7, b8, b9, b10, b11, b12, b13, b14, bz⟩ := pk_cells hrs
  dsimp only [pk0] at *
  clear hpk hrs
  have hz : w.heap.size + 2 ≤ w1.heap.size := by have := hb1.size; simpa using this
  have HB : Hid (Below w.heap.size w w1) := Below.trans (((Below.refl _ _).alloc (Nat.le_refl _) _).alloc (by simp) _) (hb1.mono (by simp; omega))
  obtain ⟨i1, i2⟩ := hI _ (unhide HB)
  clear hb1 hC hI
  go_wp2_with (go_at_call 58; refine (unhide (hP _ (unhide HB))).mono ?_; rintro e w' ⟨rfl, hw⟩; symm at hw; subst hw)
  refine bodyPost_ret (v := .tuple #[.agg #[.int .i64 tag, .int .i64 proto, .bool out, .int .i64 sa, .int .i64 sp, .int .i64 x.m.ia, .int .i64 x.m.ip, .bool syn, .bool fin, .bool rst, .bool err, .int .i64 qsa, .int .i64 qsp, .int .i64 qda, .int .i64 qdp], .int .i64 0]) (by simp [results, Try.results45, go_sem, b0, b1, b2, b3, b4, b5, b6, b7, b8, b9, b10, b11, b12, b13, b14]) rfl ⟨rfl, ?_⟩
  repeat (refine Below.setCell ?_ (by simp) _)
  exact unhide HB

end Go.Proofs.Ytkbgjbbniaflhaa
