/- 'passErrorOut': filtered; passed on. -/
import Derived.Test.YtkbgjbbniaflhaaQj
namespace Go.Proofs.Ytkbgjbbniaflhaa
open Go.RowKit
open Go.ChangeMaps (setBlock)

set_option maxHeartbeats 2000000 in
theorem errOut_filt {w : World} {S : Nat → Prop} {g hp hi : Nat} {T : Tn} {L : List Cl} (h : TenR w S g hp hi T L) (p : Pk) {x : Cl} (hx : x ∈ L) (hf : T.maps.find? (isI p.proto p.qda p.qdp) = some x.m) (hc : x.m.peers.contains p.qsa = false) :
    Calls Try.prog 42 #[.pointer (some ⟨g, 0, none⟩), .agg (pkC p)] w fun e w' => e = .returned (.tuple #[.agg (pkC pk0), .int .i64 5]) ∧ Below w.heap.size w w' := by
  have hB1 : Below w.heap.size w ((w.alloc (.cells (pkC p) 38)).alloc (.cells (pkC pk0) 38)).drew := (((Below.refl _ _).alloc (Nat.le_refl _) _).alloc (by simp) _).drew
  have hl := (h.new hB1).lookI_some hx hf
  have hP : Hid (Calls Try.prog 58 #[.pointer (some ⟨x.g, 0, none⟩), .int .i64 p.qsa] ((w.alloc (.cells (pkC p) 38)).alloc (.cells (pkC pk0) 38)).drew fun e w' => e = .returned (.bool false) ∧ w' = ((w.alloc (.cells (pkC p) 38)).alloc (.cells (pkC pk0) 38)).drew) := by
    rw [← hc]
    exact hasPeer_any x.g x.sv x.m p.qsa _ ((h.new hB1).mem x hx).1
  obtain ⟨l1, -, -, -, -, c4⟩ := h.cells
  obtain ⟨tag, proto, out, sa, sp, da, dp, syn, fin, rst, err, qsa, qsp, qda, qdp⟩ := p
  unfold pkC at *
  dsimp only [pk0] at *
  have HB := hide hB1
  clear h hf hB1 hx hc
  go_enter Try.func42, Try.ntmps42
  go_wp2
  go_region
  all_goals
    go_wp2_with (go_at_call 58; refine (unhide hP).mono ?_; rintro e w' ⟨rfl, hw⟩; symm at hw; subst hw)
    refine bodyPost_ret (v := .tuple #[pk0V, .int .i64 5]) (by simp [results, Try.results42, go_sem, pk0V]) rfl ⟨rfl, ?_⟩
    exact unhide HB

set_option maxHeartbeats 2000000 in
theorem errOut_ok {w : World} {S : Nat → Prop} {g hp hi : Nat} {T : Tn} {L : List Cl} (h : TenR w S g hp hi T L) (p : Pk) {x : Cl} (hx : x ∈ L) (hf : T.maps.find? (isI p.proto p.qda p.qdp) = some x.m) (hc : x.m.peers.contains p.qsa = true) :
    Calls Try.prog 42 #[.pointer (some ⟨g, 0, none⟩), .agg (pkC p)] w fun e w' => e = .returned (.tuple #[.agg (pkC { p with sa := T.outer, qda := T.outer, qdp := x.m.port }), .int .i64 0]) ∧ Below w.heap.size w w' := by
  have hB1 : Below w.heap.size w ((w.alloc (.cells (pkC p) 38)).alloc (.cells (pkC pk0) 38)).drew := (((Below.refl _ _).alloc (Nat.le_refl _) _).alloc (by simp) _).drew
  have hl := (h.new hB1).lookI_some hx hf
  have hP : Hid (Calls Try.prog 58 #[.pointer (some ⟨x.g, 0, none⟩), .int .i64 p.qsa] ((w.alloc (.cells (pkC p) 38)).alloc (.cells (pkC pk0) 38)).drew fun e w' => e = .returned (.bool true) ∧ w' = ((w.alloc (.cells (pkC p) 38)).alloc (.cells (pkC pk0) 38)).drew) := by
    rw [← hc]
    exact hasPeer_any x.g x.sv x.m p.qsa _ ((h.new hB1).mem x hx).1
  have hFC : ∀ W, Below w.heap.size w W → Hid (Calls Try.prog 59 #[.pointer (some ⟨g, 0, none⟩), .pointer (some ⟨x.g, 0, none⟩)] W fun e w' => e = .returned (.agg #[.int .i64 T.outer, .int .i64 x.m.port]) ∧ Below W.heap.size W w') := fun W hb =>
    face_any g x.g T.outer x.m.port W (h.new hb).cells.2.1 ((h.new hb).mem x hx).1.cells.2.2.2.2.1
  obtain ⟨l1, c0, -, -, -, c4⟩ := h.cells
  obtain ⟨tag, proto, out, sa, sp, da, dp, syn, fin, rst, err, qsa, qsp, qda, qdp⟩ := p
  unfold pkC at *
  dsimp only [pk0] at *
  have HB := hide hB1
  clear h hf hB1 hx hc
  go_enter Try.func42, Try.ntmps42
  go_wp2
  go_region
  all_goals
    go_wp2_with (go_at_call 58; refine (unhide hP).mono ?_; rintro e w' ⟨rfl, hw⟩; symm at hw; subst hw)
    refine (unhide (hFC _ ?fb)).mono ?_
    case fb => exact (((Below.refl _ _).alloc (Nat.le_refl _) _).alloc (by simp) _).drew
    rintro e w5 ⟨rfl, hb5⟩
    have HB5 : Hid (Below w.heap.size w w5) := Below.trans ((((Below.refl _ _).alloc (Nat.le_refl _) _).alloc (by simp) _).drew) (hb5.mono (by simp; omega))
    have hpk5 : w5.heap[w.heap.size]? = some (.cells (pkC ⟨tag, proto, out, T.outer, sp, da, dp, syn, fin, rst, err, qsa, qsp, qda, qdp⟩) 38 (0, 0)) := (hb5.block _ (by simp; omega)).trans (blkA (blkN _ _ _ rfl))
    have hrs5 : w5.heap[w.heap.size + 1]? = some (.cells (pkC pk0) 38 (0, 0)) := (hb5.block _ (by simp)).trans (blkN _ _ _ (by simp))
    obtain ⟨a0, a1, a2, a3, a4, a5, a6, a7, a8, a9, a10, a11, a12, a13, a14, az⟩ := pk_cells hpk5
    obtain ⟨b0, b1, b2, b3, b4, b5, b6, b7, b8, b9, b10, b11, b12, b13, b14, bz⟩ := pk_cells hrs5
    dsimp only [pk0] at a0 a1 a2 a3 a4 a5 a6 a7 a8 a9 a10 a11 a12 a13 a14 b0 b1 b2 b3 b4 b5 b6 b7 b8 b9 b10 b11 b12 b13 b14
    clear hpk5 hrs5 hb5 hFC hP
    go_wp2
    refine bodyPost_ret (v := .tuple #[.agg #[.int .i64 tag, .int .i64 proto, .bool out, .int .i64 T.outer, .int .i64 sp, .int .i64 da, .int .i64 dp, .bool syn, .bool fin, .bool rst, .bool err, .int .i64 qsa, .int .i64 qsp, .int .i64 T.outer, .int .i64 x.m.port], .int .i64 0]) (by simp [results, Try.results42, go_sem, b0, b1, b2, b3, b4, b5, b6, b7, b8, b9, b10, b11, b12, b13, b14]) rfl ⟨rfl, ?_⟩
    repeat (refine Below.setCell ?_ (by simp) _)
    exact unhide HB5

end Go.Proofs.Ytkbgjbbniaflhaa
