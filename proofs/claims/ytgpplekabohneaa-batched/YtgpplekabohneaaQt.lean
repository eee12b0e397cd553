/- What comes in. -/
import Derived.Test.YtgpplekabohneaaQr
namespace Go.Proofs.Ytgpplekabohneaa
section
open Go.RowKit
open Go.ChangeMaps (setBlock)

set_option maxHeartbeats 2000000 in
theorem errOut_none {w : World} {S : Nat → Prop} {g hp hi : Nat} {T : Tn} {L : List Cl} (h : TenR w S g hp hi T L) (p : Pk) (hf : T.maps.find? (isI p.proto p.qda p.qdp) = none) :
    Calls Try.prog 47 #[.pointer (some ⟨g, 0, none⟩), .agg (pkC p)] w fun e w' => e = .returned (.tuple #[.agg (pkC pk0), .int .i64 4]) ∧ Below w.heap.size w w' := by
  have hB1 : Below w.heap.size w ((w.alloc (.cells (pkC p) 38)).alloc (.cells (pkC pk0) 38)).drew := (((Below.refl _ _).alloc (Nat.le_refl _) _).alloc (by simp) _).drew
  have hl := (h.new hB1).lookI_none hf
  obtain ⟨l1, -, -, -, -, c4⟩ := h.cells
  obtain ⟨tag, proto, out, sa, sp, da, dp, syn, fin, rst, err, qsa, qsp, qda, qdp⟩ := p
  unfold pkC at *
  dsimp only [pk0] at *
  have HB := hide hB1
  clear h hf hB1
  go_enter Try.func47, Try.ntmps47
  go_wp2
  go_region
  all_goals
    go_wp2
    refine bodyPost_ret (v := .tuple #[pk0V, .int .i64 4]) (by simp [results, Try.results47, go_sem, pk0V]) rfl ⟨rfl, ?_⟩
    exact unhide HB
end

section
open Go.RowKit
open Go.ChangeMaps (setBlock)

set_option maxHeartbeats 2000000 in
theorem errOut_filt {w : World} {S : Nat → Prop} {g hp hi : Nat} {T : Tn} {L : List Cl} (h : TenR w S g hp hi T L) (p : Pk) {x : Cl} (hx : x ∈ L) (hf : T.maps.find? (isI p.proto p.qda p.qdp) = some x.m) (hc : x.m.peers.contains p.qsa = false) :
    Calls Try.prog 47 #[.pointer (some ⟨g, 0, none⟩), .agg (pkC p)] w fun e w' => e = .returned (.tuple #[.agg (pkC pk0), .int .i64 5]) ∧ Below w.heap.size w w' := by
  have hB1 : Below w.heap.size w ((w.alloc (.cells (pkC p) 38)).alloc (.cells (pkC pk0) 38)).drew := (((Below.refl _ _).alloc (Nat.le_refl _) _).alloc (by simp) _).drew
  have hl := (h.new hB1).lookI_some hx hf
  have hP : Hid (Calls Try.prog 65 #[.pointer (some ⟨x.g, 0, none⟩), .int .i64 p.qsa] ((w.alloc (.cells (pkC p) 38)).alloc (.cells (pkC pk0) 38)).drew fun e w' => e = .returned (.bool false) ∧ w' = ((w.alloc (.cells (pkC p) 38)).alloc (.cells (pkC pk0) 38)).drew) := by
    rw [← hc]
    exact hasPeer_any x.g x.sv x.m p.qsa _ ((h.new hB1).mem x hx).1
  obtain ⟨l1, -, -, -, -, c4⟩ := h.cells
  obtain ⟨tag, proto, out, sa, sp, da, dp, syn, fin, rst, err, qsa, qsp, qda, qdp⟩ := p
  unfold pkC at *
  dsimp only [pk0] at *
  have HB := hide hB1
  clear h hf hB1 hx hc
  go_enter Try.func47, Try.ntmps47
  go_wp2
  go_region
  all_goals
    go_wp2_with (go_at_call 65; refine (unhide hP).mono ?_; rintro e w' ⟨rfl, hw⟩; symm at hw; subst hw)
    refine bodyPost_ret (v := .tuple #[pk0V, .int .i64 5]) (by simp [results, Try.results47, go_sem, pk0V]) rfl ⟨rfl, ?_⟩
    exact unhide HB

set_option maxHeartbeats 2000000 in
theorem errOut_ok {w : World} {S : Nat → Prop} {g hp hi : Nat} {T : Tn} {L : List Cl} (h : TenR w S g hp hi T L) (p : Pk) {x : Cl} (hx : x ∈ L) (hf : T.maps.find? (isI p.proto p.qda p.qdp) = some x.m) (hc : x.m.peers.contains p.qsa = true) :
    Calls Try.prog 47 #[.pointer (some ⟨g, 0, none⟩), .agg (pkC p)] w fun e w' => e = .returned (.tuple #[.agg (pkC { p with sa := T.outer, qda := T.outer, qdp := x.m.port }), .int .i64 0]) ∧ Below w.heap.size w w' := by
  have hB1 : Below w.heap.size w ((w.alloc (.cells (pkC p) 38)).alloc (.cells (pkC pk0) 38)).drew := (((Below.refl _ _).alloc (Nat.le_refl _) _).alloc (by simp) _).drew
  have hl := (h.new hB1).lookI_some hx hf
  have hP : Hid (Calls Try.prog 65 #[.pointer (some ⟨x.g, 0, none⟩), .int .i64 p.qsa] ((w.alloc (.cells (pkC p) 38)).alloc (.cells (pkC pk0) 38)).drew fun e w' => e = .returned (.bool true) ∧ w' = ((w.alloc (.cells (pkC p) 38)).alloc (.cells (pkC pk0) 38)).drew) := by
    rw [← hc]
    exact hasPeer_any x.g x.sv x.m p.qsa _ ((h.new hB1).mem x hx).1
  have hFC : ∀ W, Below w.heap.size w W → Hid (Calls Try.prog 66 #[.pointer (some ⟨g, 0, none⟩), .pointer (some ⟨x.g, 0, none⟩)] W fun e w' => e = .returned (.agg #[.int .i64 T.outer, .int .i64 x.m.port]) ∧ Below W.heap.size W w') := fun W hb =>
    face_any g x.g T.outer x.m.port W (h.new hb).cells.2.1 ((h.new hb).mem x hx).1.cells.2.2.2.2.1
  obtain ⟨l1, c0, -, -, -, c4⟩ := h.cells
  obtain ⟨tag, proto, out, sa, sp, da, dp, syn, fin, rst, err, qsa, qsp, qda, qdp⟩ := p
  unfold pkC at *
  dsimp only [pk0] at *
  have HB := hide hB1
  clear h hf hB1 hx hc
  go_enter Try.func47, Try.ntmps47
  go_wp2
  go_region
  all_goals
    go_wp2_with (go_at_call 65; refine (unhide hP).mono ?_; rintro e w' ⟨rfl, hw⟩; symm at hw; subst hw)
    refine (unhide (hFC _ ?fb)).mono ?_
    case fb => exact (((Below.refl _ _).alloc (Nat.le_refl _) _).alloc (by simp) _).drew
    rintro e w5 ⟨rfl, hb5⟩
    have HB5 : Hid (Below w.heap.size w w5) := Below.trans ((((Below.refl _ _).alloc (Nat.le_refl _) _).alloc (by simp) _).drew) (hb5.mono (by simp; omega))
    have hpk5 : w5.heap[w.heap.size]? = some (.cells (pkC ⟨tag, proto, out, T.outer, sp, da, dp, syn, fin, rst, err, qsa, qsp, qda, qdp⟩) 38 (0, 0)) := (hb5.block _ (by simp; omega)).trans (blkA (blkN _ _ _ rfl))
    have hrs5 : w5.heap[w.heap.size + 1]? = some (.cells (pkC pk0) 38 (0, 0)) := (hb5.block _ (by simp)).trans (blkN _ _ _ (by simp))
    obtain ⟨a0, a1, a2, a3, a4, a5, a6, a7, a8, a9, a10, a11, a12, a13, a14, az⟩ := pk_cells hpk5
    obtain ⟨b0, b1, b2, b3, b4, b5, b6, b7, b8, b9, b10, b11, b12, b13, b14, bz⟩ := pk_cells hrs5
    dsimp only [pk0] at a0 a1 a2 a3 a4 a5 a6 a7 a8 a9 a10 a11 a12 a13 a14 b0 b1 b2 b3 b4 b5 b6 b7 b8 b9 b10 b11 b12 b13 b14
    clear hpk5 hrs5 hb5 hFC hP
    go_wp2
    refine bodyPost_ret (v := .tuple #[.agg #[.int .i64 tag, .int .i64 proto, .bool out, .int .i64 T.outer, .int .i64 sp, .int .i64 da, .int .i64 dp, .bool syn, .bool fin, .bool rst, .bool err, .int .i64 qsa, .int .i64 qsp, .int .i64 T.outer, .int .i64 x.m.port], .int .i64 0]) (by simp [results, Try.results47, go_sem, b0, b1, b2, b3, b4, b5, b6, b7, b8, b9, b10, b11, b12, b13, b14]) rfl ⟨rfl, ?_⟩
    repeat (refine Below.setCell ?_ (by simp) _)
    exact unhide HB5
end

section
open Go.RowKit
open Go.ChangeMaps (setBlock)

set_option maxHeartbeats 2000000 in
theorem errIn_none {w : World} {S : Nat → Prop} {g hp hi : Nat} {T : Tn} {L : List Cl} (h : TenR w S g hp hi T L) (p : Pk) (hno : p.qsa ≠ T.outer ∨ (p.qsa = T.outer ∧ T.maps.find? (isP p.proto p.qsp) = none)) :
    Calls Try.prog 48 #[.pointer (some ⟨g, 0, none⟩), .agg (pkC p)] w fun e w' => e = .returned (.tuple #[.agg (pkC pk0), .int .i64 4]) ∧ Below w.heap.size w w' := by
  have hC : ∀ (w1 : World), Below w.heap.size w w1 → Hid (Calls Try.prog 67 #[.pointer (some ⟨g, 0, none⟩), .int .i64 p.proto, .agg #[.int .i64 p.qsa, .int .i64 p.qsp]] w1 fun e w' => e = .returned (.tuple #[.pointer none, .bool false]) ∧ Below w1.heap.size w1 w') := by
    intro w1 hb
    rcases hno with hne | ⟨he, hf⟩
    · exact behind_far g T.outer p.proto p.qsa p.qsp w1 (h.new hb).cells.2.1 hne
    · rw [he]
      exact behind_none (h.new hb) p.proto p.qsp hf
  obtain ⟨l1, c0, -, -, -, -⟩ := h.cells
  have c0' : ∀ W, Below w.heap.size w W → W.cell? ⟨g, 0, none⟩ = some (.int .i64 T.outer) := fun W hb => (h.new hb).cells.2.1
  obtain ⟨tag, proto, out, sa, sp, da, dp, syn, fin, rst, err, qsa, qsp, qda, qdp⟩ := p
  unfold pkC at *
  dsimp only at *
  clear h hno
  go_enter Try.func48, Try.ntmps48
  go_wp2_with fail
  refine (unhide (hC _ (((Below.refl _ _).alloc (Nat.le_refl _) _).alloc (by simp) _))).mono ?_
  rintro e w1 ⟨rfl, hb1⟩
  have hpk : w1.heap[w.heap.size]? = some (.cells (pkC ⟨tag, proto, out, sa, sp, da, dp, syn, fin, rst, err, qsa, qsp, qda, qdp⟩) 38 (0, 0)) := (hb1.block _ (by simp; omega)).trans (blkA (blkN _ _ _ rfl))
  have hrs : w1.heap[w.heap.size + 1]? = some (.cells (pkC pk0) 38 (0, 0)) := (hb1.block _ (by simp)).trans (blkN _ _ _ (by simp))
  obtain ⟨a0, a1, a2, a3, a4, a5, a6, a7, a8, a9, a10, a11, a12, a13, a14, az⟩ := pk_cells hpk
  obtain ⟨b0, b1, b2, b3, b4, b5, b6, b7, b8, b9, b10, b11, b12, b13, b14, bz⟩ := pk_cells hrs
  dsimp only [pk0] at a0 a1 a2 a3 a4 a5 a6 a7 a8 a9 a10 a11 a12 a13 a14 b0 b1 b2 b3 b4 b5 b6 b7 b8 b9 b10 b11 b12 b13 b14
  have hz : w.heap.size + 2 ≤ w1.heap.size := by have := hb1.size; simpa using this
  have HB : Hid (Below w.heap.size w w1) := Below.trans (((Below.refl _ _).alloc (Nat.le_refl _) _).alloc (by simp) _) (hb1.mono (by simp; omega))
  have c01 := c0' _ (unhide HB)
  clear hpk hrs hb1 hC c0'
  go_wp2
  go_region
  all_goals
    go_wp2
    refine bodyPost_ret (v := .tuple #[pk0V, .int .i64 4]) (by simp [results, Try.results48, go_sem, pk0V, b0, b1, b2, b3, b4, b5, b6, b7, b8, b9, b10, b11, b12, b13, b14]) rfl ⟨rfl, ?_⟩
    refine Below.drew ?_
    repeat (refine Below.setCell ?_ (by simp) _)
    exact unhide HB

set_option maxHeartbeats 2000000 in
theorem errIn_far {w : World} {S : Nat → Prop} {g hp hi : Nat} {T : Tn} {L : List Cl} (h : TenR w S g hp hi T L) (p : Pk) (he : p.qsa = T.outer) {x : Cl} (hx : x ∈ L) (hf : T.maps.find? (isP p.proto p.qsp) = some x.m) (hd : (p.da == T.outer) = false) :
    Calls Try.prog 48 #[.pointer (some ⟨g, 0, none⟩), .agg (pkC p)] w fun e w' => e = .returned (.tuple #[.agg (pkC pk0), .int .i64 4]) ∧ Below w.heap.size w w' := by
  have hC : ∀ (w1 : World), Below w.heap.size w w1 → Hid (Calls Try.prog 67 #[.pointer (some ⟨g, 0, none⟩), .int .i64 p.proto, .agg #[.int .i64 p.qsa, .int .i64 p.qsp]] w1 fun e w' => e = .returned (.tuple #[.pointer (some ⟨x.g, 0, none⟩), .bool true]) ∧ Below w1.heap.size w1 w') := by
    intro w1 hb
    rw [he]
    exact behind_some (h.new hb) p.proto p.qsp hx hf
  obtain ⟨l1, c0, -, -, -, -⟩ := h.cells
  have c0' : ∀ W, Below w.heap.size w W → W.cell? ⟨g, 0, none⟩ = some (.int .i64 T.outer) := fun W hb => (h.new hb).cells.2.1
  obtain ⟨tag, proto, out, sa, sp, da, dp, syn, fin, rst, err, qsa, qsp, qda, qdp⟩ := p
  unfold pkC at *
  dsimp only at *
  clear h he hx hf
  go_enter Try.func48, Try.ntmps48
  go_wp2_with fail
  refine (unhide (hC _ (((Below.refl _ _).alloc (Nat.le_refl _) _).alloc (by simp) _))).mono ?_
  rintro e w1 ⟨rfl, hb1⟩
  have hpk : w1.heap[w.heap.size]? = some (.cells (pkC ⟨tag, proto, out, sa, sp, da, dp, syn, fin, rst, err, qsa, qsp, qda, qdp⟩) 38 (0, 0)) := (hb1.block _ (by simp; omega)).trans (blkA (blkN _ _ _ rfl))
  have hrs : w1.heap[w.heap.size + 1]? = some (.cells (pkC pk0) 38 (0, 0)) := (hb1.block _ (by simp)).trans (blkN _ _ _ (by simp))
  obtain ⟨a0, a1, a2, a3, a4, a5, a6, a7, a8, a9, a10, a11, a12, a13, a14, az⟩ := pk_cells hpk
  obtain ⟨b0, b1, b2, b3, b4, b5, b6, b7, b8, b9, b10, b11, b12, b13, b14, bz⟩ := pk_cells hrs
  dsimp only [pk0] at a0 a1 a2 a3 a4 a5 a6 a7 a8 a9 a10 a11 a12 a13 a14 b0 b1 b2 b3 b4 b5 b6 b7 b8 b9 b10 b11 b12 b13 b14
  have hz : w.heap.size + 2 ≤ w1.heap.size := by have := hb1.size; simpa using this
  have HB : Hid (Below w.heap.size w w1) := Below.trans (((Below.refl _ _).alloc (Nat.le_refl _) _).alloc (by simp) _) (hb1.mono (by simp; omega))
  have c01 := c0' _ (unhide HB)
  clear hpk hrs hb1 hC c0'
  go_wp2
  go_region
  all_goals
    go_wp2
    refine bodyPost_ret (v := .tuple #[pk0V, .int .i64 4]) (by simp [results, Try.results48, go_sem, pk0V, b0, b1, b2, b3, b4, b5, b6, b7, b8, b9, b10, b11, b12, b13, b14]) rfl ⟨rfl, ?_⟩
    refine Below.drew ?_
    repeat (refine Below.setCell ?_ (by simp) _)
    exact unhide HB
end

section
open Go.RowKit
open Go.ChangeMaps (setBlock)

set_option maxHeartbeats 2000000 in
theorem errIn_filt {w : World} {S : Nat → Prop} {g hp hi : Nat} {T : Tn} {L : List Cl} (h : TenR w S g hp hi T L) (p : Pk) (he : p.qsa = T.outer) {x : Cl} (hx : x ∈ L) (hf : T.maps.find? (isP p.proto p.qsp) = some x.m) (hd : p.da = T.outer) (hc : x.m.peers.contains p.qda = false) :
    Calls Try.prog 48 #[.pointer (some ⟨g, 0, none⟩), .agg (pkC p)] w fun e w' => e = .returned (.tuple #[.agg (pkC pk0), .int .i64 5]) ∧ Below w.heap.size w w' := by
  have hC : ∀ (w1 : World), Below w.heap.size w w1 → Hid (Calls Try.prog 67 #[.pointer (some ⟨g, 0, none⟩), .int .i64 p.proto, .agg #[.int .i64 p.qsa, .int .i64 p.qsp]] w1 fun e w' => e = .returned (.tuple #[.pointer (some ⟨x.g, 0, none⟩), .bool true]) ∧ Below w1.heap.size w1 w') := by
    intro w1 hb
    rw [he]
    exact behind_some (h.new hb) p.proto p.qsp hx hf
  have hP : ∀ (w1 : World), Below w.heap.size w w1 → Hid (Calls Try.prog 65 #[.pointer (some ⟨x.g, 0, none⟩), .int .i64 p.qda] w1 fun e w' => e = .returned (.bool false) ∧ w' = w1) := by
    intro w1 hb
    rw [← hc]
    exact hasPeer_any x.g x.sv x.m p.qda w1 ((h.new hb).mem x hx).1
  have hI : ∀ (w1 : World), Below w.heap.size w w1 → w1.cell? ⟨x.g, 1, none⟩ = some (.int .i64 x.m.ia) ∧ w1.cell? ⟨x.g, 2, none⟩ = some (.int .i64 x.m.ip) := fun w1 hb =>
    ⟨((h.new hb).mem x hx).1.cells.2.2.1, ((h.new hb).mem x hx).1.cells.2.2.2.1⟩
  have l2 := (h.mem x hx).1.cells.1
  obtain ⟨l1, c0, -, -, -, -⟩ := h.cells
  have c0' : ∀ W, Below w.heap.size w W → W.cell? ⟨g, 0, none⟩ = some (.int .i64 T.outer) := fun W hb => (h.new hb).cells.2.1
  obtain ⟨tag, proto, out, sa, sp, da, dp, syn, fin, rst, err, qsa, qsp, qda, qdp⟩ := p
  unfold pkC at *
  dsimp only at *
  subst hd
  clear h he hx hf hc hI
  go_enter Try.func48, Try.ntmps48
  go_wp2_with fail
  refine (unhide (hC _ (((Below.refl _ _).alloc (Nat.le_refl _) _).alloc (by simp) _))).mono ?_
  rintro e w1 ⟨rfl, hb1⟩
  have hpk : w1.heap[w.heap.size]? = some (.cells (pkC ⟨tag, proto, out, sa, sp, T.outer, dp, syn, fin, rst, err, qsa, qsp, qda, qdp⟩) 38 (0, 0)) := (hb1.block _ (by simp; omega)).trans (blkA (blkN _ _ _ rfl))
  have hrs : w1.heap[w.heap.size + 1]? = some (.cells (pkC pk0) 38 (0, 0)) := (hb1.block _ (by simp)).trans (blkN _ _ _ (by simp))
  obtain ⟨a0, a1, a2, a3, a4, a5, a6, a7, a8, a9, a10, a11, a12, a13, a14, az⟩ := pk_cells hpk
  obtain ⟨b0, b1, b2, b3, b4, b5, b6, b7, b8, b9, b10, b11, b12, b13, b14, bz⟩ := pk_cells hrs
  dsimp only [pk0] at a0 a1 a2 a3 a4 a5 a6 a7 a8 a9 a10 a11 a12 a13 a14 b0 b1 b2 b3 b4 b5 b6 b7 b8 b9 b10 b11 b12 b13 b14
  have hz : w.heap.size + 2 ≤ w1.heap.size := by have := hb1.size; simpa using this
  have HB : Hid (Below w.heap.size w w1) := Below.trans (((Below.refl _ _).alloc (Nat.le_refl _) _).alloc (by simp) _) (hb1.mono (by simp; omega))
  have c01 := c0' _ (unhide HB)
  clear hpk hrs hb1 hC c0'
  go_wp2
  go_region
  all_goals
    go_wp2_with (go_at_call 65; refine (unhide (hP _ (unhide HB).drew)).mono ?_; rintro e w' ⟨rfl, hw⟩; symm at hw; subst hw)
    refine bodyPost_ret (v := .tuple #[pk0V, .int .i64 5]) (by simp [results, Try.results48, go_sem, pk0V, b0, b1, b2, b3, b4, b5, b6, b7, b8, b9, b10, b11, b12, b13, b14]) rfl ⟨rfl, ?_⟩
    refine Below.drew ?_
    repeat (refine Below.setCell ?_ (by simp) _)
    exact unhide HB

set_option maxHeartbeats 2000000 in
theorem errIn_ok {w : World} {S : Nat → Prop} {g hp hi : Nat} {T : Tn} {L : List Cl} (h : TenR w S g hp hi T L) (p : Pk) (he : p.qsa = T.outer) {x : Cl} (hx : x ∈ L) (hf : T.maps.find? (isP p.proto p.qsp) = some x.m) (hd : p.da = T.outer) (hc : x.m.peers.contains p.qda = true) :
    Calls Try.prog 48 #[.pointer (some ⟨g, 0, none⟩), .agg (pkC p)] w fun e w' => e = .returned (.tuple #[.agg (pkC { p with da := x.m.ia, qsa := x.m.ia, qsp := x.m.ip }), .int .i64 0]) ∧ Below w.heap.size w w' := by
  have hC : ∀ (w1 : World), Below w.heap.size w w1 → Hid (Calls Try.prog 67 #[.pointer (some ⟨g, 0, none⟩), .int .i64 p.proto, .agg #[.int .i64 p.qsa, .int .i64 p.qsp]] w1 fun e w' => e = .returned (.tuple #[.pointer (some ⟨x.g, 0, none⟩), .bool true]) ∧ Below w1.heap.size w1 w') := by
    intro w1 hb
    rw [he]
    exact behind_some (h.new hb) p.proto p.qsp hx hf
  have hP : ∀ (w1 : World), Below w.heap.size w w1 → Hid (Calls Try.prog 65 #[.pointer (some ⟨x.g, 0, none⟩), .int .i64 p.qda] w1 fun e w' => e = .returned (.bool true) ∧ w' = w1) := by
    intro w1 hb
    rw [← hc]
    exact hasPeer_any x.g x.sv x.m p.qda w1 ((h.new hb).mem x hx).1
  have hI : ∀ (w1 : World), Below w.heap.size w w1 → w1.cell? ⟨x.g, 1, none⟩ = some (.int .i64 x.m.ia) ∧ w1.cell? ⟨x.g, 2, none⟩ = some (.int .i64 x.m.ip) := fun w1 hb =>
    ⟨((h.new hb).mem x hx).1.cells.2.2.1, ((h.new hb).mem x hx).1.cells.2.2.2.1⟩
  have l2 := (h.mem x hx).1.cells.1
  obtain ⟨l1, c0, -, -, -, -⟩ := h.cells
  have c0' : ∀ W, Below w.heap.size w W → W.cell? ⟨g, 0, none⟩ = some (.int .i64 T.outer) := fun W hb => (h.new hb).cells.2.1
  obtain ⟨tag, proto, out, sa, sp, da, dp, syn, fin, rst, err, qsa, qsp, qda, qdp⟩ := p
  unfold pkC at *
  dsimp only at *
  subst hd
  clear h he hx hf hc
  go_enter Try.func48, Try.ntmps48
  go_wp2_with fail
  refine (unhide (hC _ (((Below.refl _ _).alloc (Nat.le_refl _) _).alloc (by simp) _))).mono ?_
  rintro e w1 ⟨rfl, hb1⟩
  have hpk : w1.heap[w.heap.size]? = some (.cells (pkC ⟨tag, proto, out, sa, sp, T.outer, dp, syn, fin, rst, err, qsa, qsp, qda, qdp⟩) 38 (0, 0)) := (hb1.block _ (by simp; omega)).trans (blkA (blkN _ _ _ rfl))
  have hrs : w1.heap[w.heap.size + 1]? = some (.cells (pkC pk0) 38 (0, 0)) := (hb1.block _ (by simp)).trans (blkN _ _ _ (by simp))
  obtain ⟨a0, a1, a2, a3, a4, a5, a6, a7, a8, a9, a10, a11, a12, a13, a14, az⟩ := pk_cells hpk
  obtain ⟨b0, b1, b2, b3, b4, b5, b6, b7, b8, b9, b10, b11, b12, b13, b14, bz⟩ := pk_cells hrs
  dsimp only [pk0] at a0 a1 a2 a3 a4 a5 a6 a7 a8 a9 a10 a11 a12 a13 a14 b0 b1 b2 b3 b4 b5 b6 b7 b8 b9 b10 b11 b12 b13 b14
  have hz : w.heap.size + 2 ≤ w1.heap.size := by have := hb1.size; simpa using this
  have HB : Hid (Below w.heap.size w w1) := Below.trans (((Below.refl _ _).alloc (Nat.le_refl _) _).alloc (by simp) _) (hb1.mono (by simp; omega))
  have c01 := c0' _ (unhide HB)
  obtain ⟨i1, i2⟩ := hI _ (unhide HB)
  clear hI
  clear hpk hrs hb1 hC c0'
  go_wp2
  go_region
  all_goals
    go_wp2_with (go_at_call 65; refine (unhide (hP _ (unhide HB).drew)).mono ?_; rintro e w' ⟨rfl, hw⟩; symm at hw; subst hw)
    refine bodyPost_ret (v := .tuple #[.agg #[.int .i64 tag, .int .i64 proto, .bool out, .int .i64 sa, .int .i64 sp, .int .i64 x.m.ia, .int .i64 dp, .bool syn, .bool fin, .bool rst, .bool err, .int .i64 x.m.ia, .int .i64 x.m.ip, .int .i64 qda, .int .i64 qdp], .int .i64 0]) (by simp [results, Try.results48, go_sem, b0, b1, b2, b3, b4, b5, b6, b7, b8, b9, b10, b11, b12, b13, b14]) rfl ⟨rfl, ?_⟩
    refine Below.drew ?_
    repeat (refine Below.setCell ?_ (by simp) _)
    exact unhide HB
end

end Go.Proofs.Ytgpplekabohneaa
