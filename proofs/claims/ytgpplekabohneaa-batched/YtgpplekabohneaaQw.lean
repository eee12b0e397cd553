/- Errors, walked. -/
import Derived.Test.YtgpplekabohneaaQs
namespace Go.Proofs.Ytgpplekabohneaa
section
open Go.RowKit

set_option maxHeartbeats 2000000 in
theorem pass_eo {w : World} {S : Nat → Prop} {g hp hi : Nat} (p : Pk) (R : Tn × Pk × Int) (hS : ∀ k, S k → k < w.heap.size) (he : p.err = true) (ho : p.out = true) (hC : ∀ W, Below w.heap.size w W → Hid (Calls Try.prog 47 #[.pointer (some ⟨g, 0, none⟩), .agg (pkC p)] W fun e w' => e = .returned (.tuple #[.agg (pkC R.2.1), .int .i64 R.2.2]) ∧ After W S g hp hi R.1 w')) :
    Calls Try.prog 29 #[.pointer (some ⟨g, 0, none⟩), .agg (pkC p)] w fun e w' => e = .returned (.tuple #[.agg (pkC R.2.1), .int .i64 R.2.2]) ∧ After w S g hp hi R.1 w' := by
  obtain ⟨tag, proto, out, sa, sp, da, dp, syn, fin, rst, err, qsa, qsp, qda, qdp⟩ := p
  dsimp only at he ho
  subst he
  subst ho
  unfold pkC at *
  dsimp only at *
  go_enter Try.func29, Try.ntmps29
  go_wp2_with fail
  have hbW : Below w.heap.size w ((w.alloc (.cells #[.int .i64 tag, .int .i64 proto, .bool true, .int .i64 sa, .int .i64 sp, .int .i64 da, .int .i64 dp, .bool syn, .bool fin, .bool rst, .bool true, .int .i64 qsa, .int .i64 qsp, .int .i64 qda, .int .i64 qdp] 38)).alloc (.cells (pkC pk0) 38)) := ((Below.refl _ _).alloc (Nat.le_refl _) _).alloc (by simp) _
  refine (unhide (hC _ hbW)).mono ?_
  have hszW : ((w.alloc (.cells #[.int .i64 tag, .int .i64 proto, .bool true, .int .i64 sa, .int .i64 sp, .int .i64 da, .int .i64 dp, .bool syn, .bool fin, .bool rst, .bool true, .int .i64 qsa, .int .i64 qsp, .int .i64 qda, .int .i64 qdp] 38)).alloc (.cells (pkC pk0) 38)).heap.size = w.heap.size + 2 := by simp
  have hblkR : ((w.alloc (.cells #[.int .i64 tag, .int .i64 proto, .bool true, .int .i64 sa, .int .i64 sp, .int .i64 da, .int .i64 dp, .bool syn, .bool fin, .bool rst, .bool true, .int .i64 qsa, .int .i64 qsp, .int .i64 qda, .int .i64 qdp] 38)).alloc (.cells (pkC pk0) 38)).heap[w.heap.size + 1]? = some (.cells (pkC pk0) 38 (0, 0)) := blkN _ _ _ (by simp)
  rintro e w1 ⟨rfl, hA⟩
  have hs1 : w.heap.size + 2 ≤ w1.heap.size := by
    obtain ⟨L1, hT1, hF1⟩ := hA
    have := hF1.size
    omega
  have hrs1 : w1.heap[w.heap.size + 1]? = some (.cells (pkC pk0) 38 (0, 0)) := by
    obtain ⟨L1, hT1, hF1⟩ := hA
    exact hF1.some hblkR (fun hk => by have := hS _ hk; omega)
  have HA : Hid (∀ wz, Fr (fun k => k = w.heap.size ∨ k = w.heap.size + 1) w1 wz → After w S g hp hi R.1 wz) := fun wz hz =>
    finish2 hbW hszW (Fr.refl _ _) (fun _ hk => hk) (fun _ hk => .inl hk) hS (fun k hk => by have := hS k hk; omega) (Fr.refl _ _) hA hz
  clear hA hbW hszW hblkR hC
  obtain ⟨b0, b1, b2, b3, b4, b5, b6, b7, b8, b9, b10, b11, b12, b13, b14, bz⟩ := pk_cells hrs1
  dsimp only [pk0] at b0 b1 b2 b3 b4 b5 b6 b7 b8 b9 b10 b11 b12 b13 b14
  clear hrs1
  go_wp2
  refine bodyPost_ret (v := .tuple #[.agg #[.int .i64 R.2.1.tag, .int .i64 R.2.1.proto, .bool R.2.1.out, .int .i64 R.2.1.sa, .int .i64 R.2.1.sp, .int .i64 R.2.1.da, .int .i64 R.2.1.dp, .bool R.2.1.syn, .bool R.2.1.fin, .bool R.2.1.rst, .bool R.2.1.err, .int .i64 R.2.1.qsa, .int .i64 R.2.1.qsp, .int .i64 R.2.1.qda, .int .i64 R.2.1.qdp], .int .i64 R.2.2]) (by simp [results, Try.results29, go_sem, b0, b1, b2, b3, b4, b5, b6, b7, b8, b9, b10, b11, b12, b13, b14]) rfl ⟨rfl, unhide HA _ ?_⟩
  repeat (refine Fr.setR ?_)
  exact Fr.refl _ _
end

section
open Go.RowKit

set_option maxHeartbeats 2000000 in
theorem pass_ei {w : World} {S : Nat → Prop} {g hp hi : Nat} (p : Pk) (R : Tn × Pk × Int) (hS : ∀ k, S k → k < w.heap.size) (he : p.err = true) (ho : p.out = false) (hC : ∀ W, Below w.heap.size w W → Hid (Calls Try.prog 48 #[.pointer (some ⟨g, 0, none⟩), .agg (pkC p)] W fun e w' => e = .returned (.tuple #[.agg (pkC R.2.1), .int .i64 R.2.2]) ∧ After W S g hp hi R.1 w')) :
    Calls Try.prog 29 #[.pointer (some ⟨g, 0, none⟩), .agg (pkC p)] w fun e w' => e = .returned (.tuple #[.agg (pkC R.2.1), .int .i64 R.2.2]) ∧ After w S g hp hi R.1 w' := by
  obtain ⟨tag, proto, out, sa, sp, da, dp, syn, fin, rst, err, qsa, qsp, qda, qdp⟩ := p
  dsimp only at he ho
  subst he
  subst ho
  unfold pkC at *
  dsimp only at *
  go_enter Try.func29, Try.ntmps29
  go_wp2_with fail
  have hbW : Below w.heap.size w ((w.alloc (.cells #[.int .i64 tag, .int .i64 proto, .bool false, .int .i64 sa, .int .i64 sp, .int .i64 da, .int .i64 dp, .bool syn, .bool fin, .bool rst, .bool true, .int .i64 qsa, .int .i64 qsp, .int .i64 qda, .int .i64 qdp] 38)).alloc (.cells (pkC pk0) 38)) := ((Below.refl _ _).alloc (Nat.le_refl _) _).alloc (by simp) _
  refine (unhide (hC _ hbW)).mono ?_
  have hszW : ((w.alloc (.cells #[.int .i64 tag, .int .i64 proto, .bool false, .int .i64 sa, .int .i64 sp, .int .i64 da, .int .i64 dp, .bool syn, .bool fin, .bool rst, .bool true, .int .i64 qsa, .int .i64 qsp, .int .i64 qda, .int .i64 qdp] 38)).alloc (.cells (pkC pk0) 38)).heap.size = w.heap.size + 2 := by simp
  have hblkR : ((w.alloc (.cells #[.int .i64 tag, .int .i64 proto, .bool false, .int .i64 sa, .int .i64 sp, .int .i64 da, .int .i64 dp, .bool syn, .bool fin, .bool rst, .bool true, .int .i64 qsa, .int .i64 qsp, .int .i64 qda, .int .i64 qdp] 38)).alloc (.cells (pkC pk0) 38)).heap[w.heap.size + 1]? = some (.cells (pkC pk0) 38 (0, 0)) := blkN _ _ _ (by simp)
  rintro e w1 ⟨rfl, hA⟩
  have hs1 : w.heap.size + 2 ≤ w1.heap.size := by
    obtain ⟨L1, hT1, hF1⟩ := hA
    have := hF1.size
    omega
  have hrs1 : w1.heap[w.heap.size + 1]? = some (.cells (pkC pk0) 38 (0, 0)) := by
    obtain ⟨L1, hT1, hF1⟩ := hA
    exact hF1.some hblkR (fun hk => by have := hS _ hk; omega)
  have HA : Hid (∀ wz, Fr (fun k => k = w.heap.size ∨ k = w.heap.size + 1) w1 wz → After w S g hp hi R.1 wz) := fun wz hz =>
    finish2 hbW hszW (Fr.refl _ _) (fun _ hk => hk) (fun _ hk => .inl hk) hS (fun k hk => by have := hS k hk; omega) (Fr.refl _ _) hA hz
  clear hA hbW hszW hblkR hC
  obtain ⟨b0, b1, b2, b3, b4, b5, b6, b7, b8, b9, b10, b11, b12, b13, b14, bz⟩ := pk_cells hrs1
  dsimp only [pk0] at b0 b1 b2 b3 b4 b5 b6 b7 b8 b9 b10 b11 b12 b13 b14
  clear hrs1
  go_wp2
  refine bodyPost_ret (v := .tuple #[.agg #[.int .i64 R.2.1.tag, .int .i64 R.2.1.proto, .bool R.2.1.out, .int .i64 R.2.1.sa, .int .i64 R.2.1.sp, .int .i64 R.2.1.da, .int .i64 R.2.1.dp, .bool R.2.1.syn, .bool R.2.1.fin, .bool R.2.1.rst, .bool R.2.1.err, .int .i64 R.2.1.qsa, .int .i64 R.2.1.qsp, .int .i64 R.2.1.qda, .int .i64 R.2.1.qdp], .int .i64 R.2.2]) (by simp [results, Try.results29, go_sem, b0, b1, b2, b3, b4, b5, b6, b7, b8, b9, b10, b11, b12, b13, b14]) rfl ⟨rfl, unhide HA _ ?_⟩
  repeat (refine Fr.setR ?_)
  exact Fr.refl _ _
end

section
open Go.RowKit

set_option maxHeartbeats 2000000 in
theorem pass_o {w : World} {S : Nat → Prop} {g hp hi : Nat} (p : Pk) (R : Tn × Pk × Int) (hS : ∀ k, S k → k < w.heap.size) (he : p.err = false) (ho : p.out = true) (hC : ∀ W, Below w.heap.size w W → Hid (Calls Try.prog 49 #[.pointer (some ⟨g, 0, none⟩), .agg (pkC p)] W fun e w' => e = .returned (.tuple #[.agg (pkC R.2.1), .int .i64 R.2.2]) ∧ After W S g hp hi R.1 w')) :
    Calls Try.prog 29 #[.pointer (some ⟨g, 0, none⟩), .agg (pkC p)] w fun e w' => e = .returned (.tuple #[.agg (pkC R.2.1), .int .i64 R.2.2]) ∧ After w S g hp hi R.1 w' := by
  obtain ⟨tag, proto, out, sa, sp, da, dp, syn, fin, rst, err, qsa, qsp, qda, qdp⟩ := p
  dsimp only at he ho
  subst he
  subst ho
  unfold pkC at *
  dsimp only at *
  go_enter Try.func29, Try.ntmps29
  go_wp2_with fail
  have hbW : Below w.heap.size w ((w.alloc (.cells #[.int .i64 tag, .int .i64 proto, .bool true, .int .i64 sa, .int .i64 sp, .int .i64 da, .int .i64 dp, .bool syn, .bool fin, .bool rst, .bool false, .int .i64 qsa, .int .i64 qsp, .int .i64 qda, .int .i64 qdp] 38)).alloc (.cells (pkC pk0) 38)) := ((Below.refl _ _).alloc (Nat.le_refl _) _).alloc (by simp) _
  refine (unhide (hC _ hbW)).mono ?_
  have hszW : ((w.alloc (.cells #[.int .i64 tag, .int .i64 proto, .bool true, .int .i64 sa, .int .i64 sp, .int .i64 da, .int .i64 dp, .bool syn, .bool fin, .bool rst, .bool false, .int .i64 qsa, .int .i64 qsp, .int .i64 qda, .int .i64 qdp] 38)).alloc (.cells (pkC pk0) 38)).heap.size = w.heap.size + 2 := by simp
  have hblkR : ((w.alloc (.cells #[.int .i64 tag, .int .i64 proto, .bool true, .int .i64 sa, .int .i64 sp, .int .i64 da, .int .i64 dp, .bool syn, .bool fin, .bool rst, .bool false, .int .i64 qsa, .int .i64 qsp, .int .i64 qda, .int .i64 qdp] 38)).alloc (.cells (pkC pk0) 38)).heap[w.heap.size + 1]? = some (.cells (pkC pk0) 38 (0, 0)) := blkN _ _ _ (by simp)
  rintro e w1 ⟨rfl, hA⟩
  have hs1 : w.heap.size + 2 ≤ w1.heap.size := by
    obtain ⟨L1, hT1, hF1⟩ := hA
    have := hF1.size
    omega
  have hrs1 : w1.heap[w.heap.size + 1]? = some (.cells (pkC pk0) 38 (0, 0)) := by
    obtain ⟨L1, hT1, hF1⟩ := hA
    exact hF1.some hblkR (fun hk => by have := hS _ hk; omega)
  have HA : Hid (∀ wz, Fr (fun k => k = w.heap.size ∨ k = w.heap.size + 1) w1 wz → After w S g hp hi R.1 wz) := fun wz hz =>
    finish2 hbW hszW (Fr.refl _ _) (fun _ hk => hk) (fun _ hk => .inl hk) hS (fun k hk => by have := hS k hk; omega) (Fr.refl _ _) hA hz
  clear hA hbW hszW hblkR hC
  obtain ⟨b0, b1, b2, b3, b4, b5, b6, b7, b8, b9, b10, b11, b12, b13, b14, bz⟩ := pk_cells hrs1
  dsimp only [pk0] at b0 b1 b2 b3 b4 b5 b6 b7 b8 b9 b10 b11 b12 b13 b14
  clear hrs1
  go_wp2
  refine bodyPost_ret (v := .tuple #[.agg #[.int .i64 R.2.1.tag, .int .i64 R.2.1.proto, .bool R.2.1.out, .int .i64 R.2.1.sa, .int .i64 R.2.1.sp, .int .i64 R.2.1.da, .int .i64 R.2.1.dp, .bool R.2.1.syn, .bool R.2.1.fin, .bool R.2.1.rst, .bool R.2.1.err, .int .i64 R.2.1.qsa, .int .i64 R.2.1.qsp, .int .i64 R.2.1.qda, .int .i64 R.2.1.qdp], .int .i64 R.2.2]) (by simp [results, Try.results29, go_sem, b0, b1, b2, b3, b4, b5, b6, b7, b8, b9, b10, b11, b12, b13, b14]) rfl ⟨rfl, unhide HA _ ?_⟩
  repeat (refine Fr.setR ?_)
  exact Fr.refl _ _
end

section
open Go.RowKit

set_option maxHeartbeats 2000000 in
theorem pass_i {w : World} {S : Nat → Prop} {g hp hi : Nat} (p : Pk) (R : Tn × Pk × Int) (hS : ∀ k, S k → k < w.heap.size) (he : p.err = false) (ho : p.out = false) (hC : ∀ W, Below w.heap.size w W → Hid (Calls Try.prog 50 #[.pointer (some ⟨g, 0, none⟩), .agg (pkC p)] W fun e w' => e = .returned (.tuple #[.agg (pkC R.2.1), .int .i64 R.2.2]) ∧ After W S g hp hi R.1 w')) :
    Calls Try.prog 29 #[.pointer (some ⟨g, 0, none⟩), .agg (pkC p)] w fun e w' => e = .returned (.tuple #[.agg (pkC R.2.1), .int .i64 R.2.2]) ∧ After w S g hp hi R.1 w' := by
  obtain ⟨tag, proto, out, sa, sp, da, dp, syn, fin, rst, err, qsa, qsp, qda, qdp⟩ := p
  dsimp only at he ho
  subst he
  subst ho
  unfold pkC at *
  dsimp only at *
  go_enter Try.func29, Try.ntmps29
  go_wp2_with fail
  have hbW : Below w.heap.size w ((w.alloc (.cells #[.int .i64 tag, .int .i64 proto, .bool false, .int .i64 sa, .int .i64 sp, .int .i64 da, .int .i64 dp, .bool syn, .bool fin, .bool rst, .bool false, .int .i64 qsa, .int .i64 qsp, .int .i64 qda, .int .i64 qdp] 38)).alloc (.cells (pkC pk0) 38)) := ((Below.refl _ _).alloc (Nat.le_refl _) _).alloc (by simp) _
  refine (unhide (hC _ hbW)).mono ?_
  have hszW : ((w.alloc (.cells #[.int .i64 tag, .int .i64 proto, .bool false, .int .i64 sa, .int .i64 sp, .int .i64 da, .int .i64 dp, .bool syn, .bool fin, .bool rst, .bool false, .int .i64 qsa, .int .i64 qsp, .int .i64 qda, .int .i64 qdp] 38)).alloc (.cells (pkC pk0) 38)).heap.size = w.heap.size + 2 := by simp
  have hblkR : ((w.alloc (.cells #[.int .i64 tag, .int .i64 proto, .bool false, .int .i64 sa, .int .i64 sp, .int .i64 da, .int .i64 dp, .bool syn, .bool fin, .bool rst, .bool false, .int .i64 qsa, .int .i64 qsp, .int .i64 qda, .int .i64 qdp] 38)).alloc (.cells (pkC pk0) 38)).heap[w.heap.size + 1]? = some (.cells (pkC pk0) 38 (0, 0)) := blkN _ _ _ (by simp)
  rintro e w1 ⟨rfl, hA⟩
  have hs1 : w.heap.size + 2 ≤ w1.heap.size := by
    obtain ⟨L1, hT1, hF1⟩ := hA
    have := hF1.size
    omega
  have hrs1 : w1.heap[w.heap.size + 1]? = some (.cells (pkC pk0) 38 (0, 0)) := by
    obtain ⟨L1, hT1, hF1⟩ := hA
    exact hF1.some hblkR (fun hk => by have := hS _ hk; omega)
  have HA : Hid (∀ wz, Fr (fun k => k = w.heap.size ∨ k = w.heap.size + 1) w1 wz → After w S g hp hi R.1 wz) := fun wz hz =>
    finish2 hbW hszW (Fr.refl _ _) (fun _ hk => hk) (fun _ hk => .inl hk) hS (fun k hk => by have := hS k hk; omega) (Fr.refl _ _) hA hz
  clear hA hbW hszW hblkR hC
  obtain ⟨b0, b1, b2, b3, b4, b5, b6, b7, b8, b9, b10, b11, b12, b13, b14, bz⟩ := pk_cells hrs1
  dsimp only [pk0] at b0 b1 b2 b3 b4 b5 b6 b7 b8 b9 b10 b11 b12 b13 b14
  clear hrs1
  go_wp2
  refine bodyPost_ret (v := .tuple #[.agg #[.int .i64 R.2.1.tag, .int .i64 R.2.1.proto, .bool R.2.1.out, .int .i64 R.2.1.sa, .int .i64 R.2.1.sp, .int .i64 R.2.1.da, .int .i64 R.2.1.dp, .bool R.2.1.syn, .bool R.2.1.fin, .bool R.2.1.rst, .bool R.2.1.err, .int .i64 R.2.1.qsa, .int .i64 R.2.1.qsp, .int .i64 R.2.1.qda, .int .i64 R.2.1.qdp], .int .i64 R.2.2]) (by simp [results, Try.results29, go_sem, b0, b1, b2, b3, b4, b5, b6, b7, b8, b9, b10, b11, b12, b13, b14]) rfl ⟨rfl, unhide HA _ ?_⟩
  repeat (refine Fr.setR ?_)
  exact Fr.refl _ _
end

end Go.Proofs.Ytgpplekabohneaa
