/- What goes out, walked. -/
import Derived.Test.YtgpplekabohneaaQs
namespace Go.Proofs.Ytgpplekabohneaa
section
open Go.RowKit

set_option maxHeartbeats 4000000 in
theorem passOut_oth_go {w : World} {S : Nat → Prop} {g hp hi : Nat} {T1 : Tn} (m : Mp) (p : Pk) (hg : g < w.heap.size) (hS : ∀ k, S k → k < w.heap.size) (hp2 : (p.proto == 2) = false) (hd : (p.da == T1.outer) = false) (hC : ∀ W, Below w.heap.size w W → Hid (Calls Try.prog 68 #[.pointer (some ⟨g, 0, none⟩), .agg (pkC p)] W fun e w1 => ∃ x S1 L1, e = .returned (.tuple #[.pointer (some ⟨x.g, 0, none⟩), .int .i64 0]) ∧ x.m = m ∧ By W S g hp hi T1 x w1 S1 L1)) :
    Calls Try.prog 49 #[.pointer (some ⟨g, 0, none⟩), .agg (pkC p)] w fun e w' => e = .returned (.tuple #[.agg (pkC { p with sa := T1.outer, sp := m.port }), .int .i64 0]) ∧ After w S g hp hi { T1 with maps := setM T1.maps (useM m p) } w' := by
  have hu : useM m p = { m with peers := useF m.peers p.da, idle := 0 } := by
    unfold useM
    rw [if_neg (by simpa using hp2)]
  have HU := hide hu
  clear hu
  have HK := fun (g' : Nat) (sv : Value) (mm : Mp) (W : World) hW => hide (takeMarks_any g' sv mm p W hW)
  have HQ : Hid (∀ sv' x' w' w'', Mem w' x' sv' (useM m p) → Fr (fun k => False) w' w'' → Mem w'' x' sv' (useM m p)) := fun sv' x' w' w'' h1 h2 => h1.keep h2 (fun f => f) (fun _ _ f => f)
  obtain ⟨tag, proto, out, sa, sp, da, dp, syn, fin, rst, err, qsa, qsp, qda, qdp⟩ := p
  generalize hum : useM m ⟨tag, proto, out, sa, sp, da, dp, syn, fin, rst, err, qsa, qsp, qda, qdp⟩ = um at *
  have HUM := hide hum
  clear hum
  unfold pkC at *
  dsimp only at *
  skip
  skip
  go_enter Try.func49, Try.ntmps49
  go_wp2_with fail
  have hbW : Below w.heap.size w ((w.alloc (.cells #[.int .i64 tag, .int .i64 proto, .bool out, .int .i64 sa, .int .i64 sp, .int .i64 da, .int .i64 dp, .bool syn, .bool fin, .bool rst, .bool err, .int .i64 qsa, .int .i64 qsp, .int .i64 qda, .int .i64 qdp] 38)).alloc (.cells (pkC pk0) 38)) := ((Below.refl _ _).alloc (Nat.le_refl _) _).alloc (by simp) _
  refine (unhide (hC _ hbW)).mono ?_
  rintro e w1 ⟨x, S1, L1, rfl, rfl, hBy⟩
  have hszW : ((w.alloc (.cells #[.int .i64 tag, .int .i64 proto, .bool out, .int .i64 sa, .int .i64 sp, .int .i64 da, .int .i64 dp, .bool syn, .bool fin, .bool rst, .bool err, .int .i64 qsa, .int .i64 qsp, .int .i64 qda, .int .i64 qdp] 38)).alloc (.cells (pkC pk0) 38)).heap.size = w.heap.size + 2 := by simp
  have hblkP : ((w.alloc (.cells #[.int .i64 tag, .int .i64 proto, .bool out, .int .i64 sa, .int .i64 sp, .int .i64 da, .int .i64 dp, .bool syn, .bool fin, .bool rst, .bool err, .int .i64 qsa, .int .i64 qsp, .int .i64 qda, .int .i64 qdp] 38)).alloc (.cells (pkC pk0) 38)).heap[w.heap.size]? = some (.cells (pkC ⟨tag, proto, out, sa, sp, da, dp, syn, fin, rst, err, qsa, qsp, qda, qdp⟩) 38 (0, 0)) := blkA (blkN _ _ _ rfl)
  have hblkR : ((w.alloc (.cells #[.int .i64 tag, .int .i64 proto, .bool out, .int .i64 sa, .int .i64 sp, .int .i64 da, .int .i64 dp, .bool syn, .bool fin, .bool rst, .bool err, .int .i64 qsa, .int .i64 qsp, .int .i64 qda, .int .i64 qdp] 38)).alloc (.cells (pkC pk0) 38)).heap[w.heap.size + 1]? = some (.cells (pkC pk0) 38 (0, 0)) := blkN _ _ _ (by simp)
  generalize ((w.alloc (.cells #[.int .i64 tag, .int .i64 proto, .bool out, .int .i64 sa, .int .i64 sp, .int .i64 da, .int .i64 dp, .bool syn, .bool fin, .bool rst, .bool err, .int .i64 qsa, .int .i64 qsp, .int .i64 qda, .int .i64 qdp] 38)).alloc (.cells (pkC pk0) 38)) = W0 at *
  have hpk1 := hBy.fr.some hblkP (fun hs => by have := hS _ hs; omega)
  have hrs1 := hBy.fr.some hblkR (fun hs => by have := hS _ hs; omega)
  obtain ⟨hxM, hxS, hxB⟩ := hBy.ten.mem x hBy.mem
  have hok := hBy.ten.good.ok x.m (by rw [← hBy.ten.maps]; exact List.mem_map.2 ⟨x, hBy.mem, rfl⟩)
  have far : ∀ k, S1 k → k ≠ w.heap.size ∧ k ≠ w.heap.size + 1 := fun k hk => by
    rcases hBy.down k hk with h' | h'
    · have := hS k h'; omega
    · omega
  have hx1 := (far _ hxS).1
  have hx2 := (far _ hxS).2
  have hs1 : w.heap.size + 2 ≤ w1.heap.size := by have := hBy.fr.size; omega
  have a5 : w1.cell? ⟨w.heap.size, 5, none⟩ = some (.int .i64 da) := (pk_cells hpk1).2.2.2.2.2.1
  have HX := hide (And.intro hBy (And.intro hxM (And.intro hxB (And.intro hpk1 hrs1))))
  have HW := hide (And.intro hbW hszW)
  have HUP := hide (usePeer_any x.g x.sv x.m da w1 hxM hok.2.2.2.2.1)
  clear hBy hxM hxB hpk1 hrs1 hok hbW hszW hblkP hblkR hC
  go_wp2_with fail
  refine (unhide HUP).mono ?_
  rintro e w2 ⟨rfl, sv2, hM2, hF2, hb2⟩
  clear HUP
  have hpk2 := hF2.some (unhide HX).2.2.2.1 (by rintro (e | e); exact hx1 e.symm; exact (far _ ((unhide HX).2.2.1 _ e)).1 rfl)
  have hrs2 := hF2.some (unhide HX).2.2.2.2 (by rintro (e | e); exact hx2 e.symm; exact (far _ ((unhide HX).2.2.1 _ e)).2 rfl)
  have hs2 : w.heap.size + 2 ≤ w2.heap.size := by have := hF2.size; omega
  have p1 : w2.cell? ⟨w.heap.size, 1, none⟩ = some (.int .i64 proto) := (pk_cells hpk2).2.1
  skip
  have m6 := hM2.cells.2.2.2.2.2.2.2.1
  have mz := hM2.cells.2.2.2.2.2.2.2.2.2.2
  have hxl := hM2.cells.1
  have hb3 := setB hM2.1 6 (.int .i64 0)
  have hF3 : Fr (fun k => k = x.g ∨ x.sv.ownBlock = some k) w1 (w2.setCell ⟨x.g, 6, none⟩ (.int .i64 0)) := hF2.setCell _ (fun _ => .inl rfl)
  have hr3 : (w2.setCell ⟨x.g, 6, none⟩ (.int .i64 0)).ownsRow 0 3 1 sv2 (useF x.m.peers da).length (intsV (useF x.m.peers da)) := ownsRow_keep hM2.2 ((Fr.refl (fun k => k = x.g) w2).setCell _ (fun _ => rfl)) (fun k hk e => row_ne hM2.2 hM2.1 (by decide) (e ▸ hk))
  have hpk3 := (Below.heap_setCell w2 ⟨x.g, 6, none⟩ (.int .i64 0) w.heap.size (fun e => hx1 e.symm)).trans hpk2
  have hrs3 := (Below.heap_setCell w2 ⟨x.g, 6, none⟩ (.int .i64 0) (w.heap.size + 1) (fun e => hx2 e.symm)).trans hrs2
  have hs3 : (w2.setCell ⟨x.g, 6, none⟩ (.int .i64 0)).heap.size = w2.heap.size := by simp [World.setCell]
  have HY := hide (And.intro hF3 (And.intro hr3 (And.intro hpk3 (And.intro hrs3 (And.intro hs3 (And.intro hb3 hb2))))))
  clear hM2 hF2 hb2 hpk2 hrs2 hb3 hF3 hr3 hpk3 hrs3 hs3
  have u1 := hx1
  have u2 := hx2
  clear hx1 hx2
  go_wp2_with fail
  clear p1 m6 mz a5
  generalize w2.setCell ⟨x.g, 6, none⟩ (.int .i64 0) = w3 at *
  obtain ⟨hF3, hr3, hpk3, hrs3, hs3, hb3, hb2⟩ := unhide HY
  have hM3 : w3.heap[x.g]? = some (.cells (mpC { x.m with peers := useF x.m.peers da, idle := 0 } sv2) 109 (0, 0)) := by
    rw [hb3]
    simp [mpC]
  have hb4 := hM3
  rw [← unhide HU] at hb4
  have hpk4 := hpk3
  have hrs4 := hrs3
  have hr4 := hr3
  have hF14 := hF3
  have hs4 : w.heap.size + 2 ≤ w3.heap.size := by omega
  have hM4 : Mem w3 x.g sv2 um := ⟨hb4, by rw [show um.peers = useF x.m.peers da from by rw [← unhide HUM]; exact useM_peers _ _]; exact hr4⟩
  obtain ⟨L4, hT4, hF04, hup4, hdn4⟩ := By.used (p := ⟨tag, proto, out, sa, sp, da, dp, syn, fin, rst, err, qsa, qsp, qda, qdp⟩) (unhide HX).1 (by rw [unhide HUM]; exact hM4) hF14 (fun b hb => by obtain ⟨b', h1, h2⟩ := hb2; rw [h1] at hb; cases hb; exact h2)
  rw [unhide HUM] at hT4
  have hport : um.port = x.m.port := by rw [← unhide HUM]; exact (useM_same _ _).2.2.2
  have c0 := hT4.cells.2.1
  have e3 := hM4.cells.2.2.2.2.1
  rw [hport] at e3
  have hxl4 := hM4.cells.1
  have HZ := hide (And.intro hT4 (And.intro hF04 (And.intro hup4 (And.intro hdn4 (And.intro hpk4 hrs4)))))
  have HFC := hide (face_any g x.g T1.outer x.m.port w3 c0 e3)
  clear hM3 hb4 hpk4 hrs4 hr4 hF14 hM4 hT4 hF04 hup4 hdn4 hport c0 e3 hF3 hr3 hpk3 hrs3 hb3 hb2 HY HX HU HUM HK HQ
  go_wp2_with fail
  refine (unhide HFC).mono ?_
  rintro e w5 ⟨rfl, hb5⟩
  clear HFC
  have hT5 := (unhide HZ).1.new hb5
  have hF5 : Fr S W0 w5 := (unhide HZ).2.1.trans (Fr.of_below hb5)
  have hpk5 := (hb5.block _ (by omega)).trans (unhide HZ).2.2.2.2.1
  have hrs5 := (hb5.block _ (by omega)).trans (unhide HZ).2.2.2.2.2
  have hs5 : w.heap.size + 2 ≤ w5.heap.size := by have := hb5.size; omega
  obtain ⟨a0, a1, a2, a3, a4, a5, a6, a7, a8, a9, a10, a11, a12, a13, a14, az⟩ := pk_cells hpk5
  obtain ⟨b0, b1, b2, b3, b4, b5, b6, b7, b8, b9, b10, b11, b12, b13, b14, bz⟩ := pk_cells hrs5
  dsimp only [pk0] at a0 a1 a2 a3 a4 a5 a6 a7 a8 a9 a10 a11 a12 a13 a14 b0 b1 b2 b3 b4 b5 b6 b7 b8 b9 b10 b11 b12 b13 b14
  have c0 := hT5.cells.2.1
  dsimp only at c0
  have hg1 : g ≠ w.heap.size := by omega
  have hg2 : g ≠ w.heap.size + 1 := by omega
  have HRS5 := hide hrs5
  have HT5 := hide (And.intro hT5 (And.intro hF5 (And.intro (unhide HZ).2.2.1 (unhide HZ).2.2.2.1)))
  clear hT5 hF5 hpk5 hrs5 hb5 HZ
  go_wp2
  go_region
  all_goals
    go_wp2
    refine bodyPost_ret (v := .tuple #[.agg #[.int .i64 tag, .int .i64 proto, .bool out, .int .i64 T1.outer, .int .i64 x.m.port, .int .i64 da, .int .i64 dp, .bool syn, .bool fin, .bool rst, .bool err, .int .i64 qsa, .int .i64 qsp, .int .i64 qda, .int .i64 qdp], .int .i64 0]) (by simp [results, Try.results49, go_sem, b0, b1, b2, b3, b4, b5, b6, b7, b8, b9, b10, b11, b12, b13, b14]) rfl ⟨rfl, ?_⟩
    refine finish (unhide HW).1 (unhide HW).2 (unhide HT5).1 (unhide HT5).2.1 (unhide HT5).2.2.1 (unhide HT5).2.2.2 hS ?_
    refine Fr.drew ?_
    repeat (refine Fr.setR ?_)
    repeat (refine Fr.setL ?_)
    exact Fr.refl _ _
end

section
open Go.RowKit

set_option maxHeartbeats 4000000 in
theorem passOut_oth_turn {w : World} {S : Nat → Prop} {g hp hi : Nat} {T1 : Tn} (m : Mp) (p : Pk) (hg : g < w.heap.size) (hS : ∀ k, S k → k < w.heap.size) (hp2 : (p.proto == 2) = false) (hd : p.da = T1.outer) (hC : ∀ W, Below w.heap.size w W → Hid (Calls Try.prog 68 #[.pointer (some ⟨g, 0, none⟩), .agg (pkC p)] W fun e w1 => ∃ x S1 L1, e = .returned (.tuple #[.pointer (some ⟨x.g, 0, none⟩), .int .i64 0]) ∧ x.m = m ∧ By W S g hp hi T1 x w1 S1 L1)) :
    Calls Try.prog 49 #[.pointer (some ⟨g, 0, none⟩), .agg (pkC p)] w fun e w' => e = .returned (.tuple #[.agg (pkC (inF { T1 with maps := setM T1.maps (useM m p) } { p with sa := T1.outer, sp := m.port, out := false }).2.1), .int .i64 (inF { T1 with maps := setM T1.maps (useM m p) } { p with sa := T1.outer, sp := m.port, out := false }).2.2]) ∧ After w S g hp hi (inF { T1 with maps := setM T1.maps (useM m p) } { p with sa := T1.outer, sp := m.port, out := false }).1 w' := by
  have hu : useM m p = { m with peers := useF m.peers p.da, idle := 0 } := by
    unfold useM
    rw [if_neg (by simpa using hp2)]
  have HU := hide hu
  clear hu
  have HK := fun (g' : Nat) (sv : Value) (mm : Mp) (W : World) hW => hide (takeMarks_any g' sv mm p W hW)
  have HQ : Hid (∀ sv' x' w' w'', Mem w' x' sv' (useM m p) → Fr (fun k => False) w' w'' → Mem w'' x' sv' (useM m p)) := fun sv' x' w' w'' h1 h2 => h1.keep h2 (fun f => f) (fun _ _ f => f)
  obtain ⟨tag, proto, out, sa, sp, da, dp, syn, fin, rst, err, qsa, qsp, qda, qdp⟩ := p
  generalize hum : useM m ⟨tag, proto, out, sa, sp, da, dp, syn, fin, rst, err, qsa, qsp, qda, qdp⟩ = um at *
  have HUM := hide hum
  clear hum
  unfold pkC at *
  dsimp only at *
  skip
  subst hd
  generalize hR : inF _ _ = R
  have HR := hide hR
  clear hR
  go_enter Try.func49, Try.ntmps49
  go_wp2_with fail
  have hbW : Below w.heap.size w ((w.alloc (.cells #[.int .i64 tag, .int .i64 proto, .bool out, .int .i64 sa, .int .i64 sp, .int .i64 T1.outer, .int .i64 dp, .bool syn, .bool fin, .bool rst, .bool err, .int .i64 qsa, .int .i64 qsp, .int .i64 qda, .int .i64 qdp] 38)).alloc (.cells (pkC pk0) 38)) := ((Below.refl _ _).alloc (Nat.le_refl _) _).alloc (by simp) _
  refine (unhide (hC _ hbW)).mono ?_
  rintro e w1 ⟨x, S1, L1, rfl, rfl, hBy⟩
  have hszW : ((w.alloc (.cells #[.int .i64 tag, .int .i64 proto, .bool out, .int .i64 sa, .int .i64 sp, .int .i64 T1.outer, .int .i64 dp, .bool syn, .bool fin, .bool rst, .bool err, .int .i64 qsa, .int .i64 qsp, .int .i64 qda, .int .i64 qdp] 38)).alloc (.cells (pkC pk0) 38)).heap.size = w.heap.size + 2 := by simp
  have hblkP : ((w.alloc (.cells #[.int .i64 tag, .int .i64 proto, .bool out, .int .i64 sa, .int .i64 sp, .int .i64 T1.outer, .int .i64 dp, .bool syn, .bool fin, .bool rst, .bool err, .int .i64 qsa, .int .i64 qsp, .int .i64 qda, .int .i64 qdp] 38)).alloc (.cells (pkC pk0) 38)).heap[w.heap.size]? = some (.cells (pkC ⟨tag, proto, out, sa, sp, T1.outer, dp, syn, fin, rst, err, qsa, qsp, qda, qdp⟩) 38 (0, 0)) := blkA (blkN _ _ _ rfl)
  have hblkR : ((w.alloc (.cells #[.int .i64 tag, .int .i64 proto, .bool out, .int .i64 sa, .int .i64 sp, .int .i64 T1.outer, .int .i64 dp, .bool syn, .bool fin, .bool rst, .bool err, .int .i64 qsa, .int .i64 qsp, .int .i64 qda, .int .i64 qdp] 38)).alloc (.cells (pkC pk0) 38)).heap[w.heap.size + 1]? = some (.cells (pkC pk0) 38 (0, 0)) := blkN _ _ _ (by simp)
  generalize ((w.alloc (.cells #[.int .i64 tag, .int .i64 proto, .bool out, .int .i64 sa, .int .i64 sp, .int .i64 T1.outer, .int .i64 dp, .bool syn, .bool fin, .bool rst, .bool err, .int .i64 qsa, .int .i64 qsp, .int .i64 qda, .int .i64 qdp] 38)).alloc (.cells (pkC pk0) 38)) = W0 at *
  have hpk1 := hBy.fr.some hblkP (fun hs => by have := hS _ hs; omega)
  have hrs1 := hBy.fr.some hblkR (fun hs => by have := hS _ hs; omega)
  obtain ⟨hxM, hxS, hxB⟩ := hBy.ten.mem x hBy.mem
  have hok := hBy.ten.good.ok x.m (by rw [← hBy.ten.maps]; exact List.mem_map.2 ⟨x, hBy.mem, rfl⟩)
  have far : ∀ k, S1 k → k ≠ w.heap.size ∧ k ≠ w.heap.size + 1 := fun k hk => by
    rcases hBy.down k hk with h' | h'
    · have := hS k h'; omega
    · omega
  have hx1 := (far _ hxS).1
  have hx2 := (far _ hxS).2
  have hs1 : w.heap.size + 2 ≤ w1.heap.size := by have := hBy.fr.size; omega
  have a5 : w1.cell? ⟨w.heap.size, 5, none⟩ = some (.int .i64 T1.outer) := (pk_cells hpk1).2.2.2.2.2.1
  have HX := hide (And.intro hBy (And.intro hxM (And.intro hxB (And.intro hpk1 hrs1))))
  have HW := hide (And.intro hbW hszW)
  have HUP := hide (usePeer_any x.g x.sv x.m T1.outer w1 hxM hok.2.2.2.2.1)
  clear hBy hxM hxB hpk1 hrs1 hok hbW hszW hblkP hblkR hC
  go_wp2_with fail
  refine (unhide HUP).mono ?_
  rintro e w2 ⟨rfl, sv2, hM2, hF2, hb2⟩
  clear HUP
  have hpk2 := hF2.some (unhide HX).2.2.2.1 (by rintro (e | e); exact hx1 e.symm; exact (far _ ((unhide HX).2.2.1 _ e)).1 rfl)
  have hrs2 := hF2.some (unhide HX).2.2.2.2 (by rintro (e | e); exact hx2 e.symm; exact (far _ ((unhide HX).2.2.1 _ e)).2 rfl)
  have hs2 : w.heap.size + 2 ≤ w2.heap.size := by have := hF2.size; omega
  have p1 : w2.cell? ⟨w.heap.size, 1, none⟩ = some (.int .i64 proto) := (pk_cells hpk2).2.1
  skip
  have m6 := hM2.cells.2.2.2.2.2.2.2.1
  have mz := hM2.cells.2.2.2.2.2.2.2.2.2.2
  have hxl := hM2.cells.1
  have hb3 := setB hM2.1 6 (.int .i64 0)
  have hF3 : Fr (fun k => k = x.g ∨ x.sv.ownBlock = some k) w1 (w2.setCell ⟨x.g, 6, none⟩ (.int .i64 0)) := hF2.setCell _ (fun _ => .inl rfl)
  have hr3 : (w2.setCell ⟨x.g, 6, none⟩ (.int .i64 0)).ownsRow 0 3 1 sv2 (useF x.m.peers T1.outer).length (intsV (useF x.m.peers T1.outer)) := ownsRow_keep hM2.2 ((Fr.refl (fun k => k = x.g) w2).setCell _ (fun _ => rfl)) (fun k hk e => row_ne hM2.2 hM2.1 (by decide) (e ▸ hk))
  have hpk3 := (Below.heap_setCell w2 ⟨x.g, 6, none⟩ (.int .i64 0) w.heap.size (fun e => hx1 e.symm)).trans hpk2
  have hrs3 := (Below.heap_setCell w2 ⟨x.g, 6, none⟩ (.int .i64 0) (w.heap.size + 1) (fun e => hx2 e.symm)).trans hrs2
  have hs3 : (w2.setCell ⟨x.g, 6, none⟩ (.int .i64 0)).heap.size = w2.heap.size := by simp [World.setCell]
  have HY := hide (And.intro hF3 (And.intro hr3 (And.intro hpk3 (And.intro hrs3 (And.intro hs3 (And.intro hb3 hb2))))))
  clear hM2 hF2 hb2 hpk2 hrs2 hb3 hF3 hr3 hpk3 hrs3 hs3
  have u1 := hx1
  have u2 := hx2
  clear hx1 hx2
  go_wp2_with fail
  clear p1 m6 mz a5
  generalize w2.setCell ⟨x.g, 6, none⟩ (.int .i64 0) = w3 at *
  obtain ⟨hF3, hr3, hpk3, hrs3, hs3, hb3, hb2⟩ := unhide HY
  have hM3 : w3.heap[x.g]? = some (.cells (mpC { x.m with peers := useF x.m.peers T1.outer, idle := 0 } sv2) 109 (0, 0)) := by
    rw [hb3]
    simp [mpC]
  have hb4 := hM3
  rw [← unhide HU] at hb4
  have hpk4 := hpk3
  have hrs4 := hrs3
  have hr4 := hr3
  have hF14 := hF3
  have hs4 : w.heap.size + 2 ≤ w3.heap.size := by omega
  have hM4 : Mem w3 x.g sv2 um := ⟨hb4, by rw [show um.peers = useF x.m.peers T1.outer from by rw [← unhide HUM]; exact useM_peers _ _]; exact hr4⟩
  obtain ⟨L4, hT4, hF04, hup4, hdn4⟩ := By.used (p := ⟨tag, proto, out, sa, sp, T1.outer, dp, syn, fin, rst, err, qsa, qsp, qda, qdp⟩) (unhide HX).1 (by rw [unhide HUM]; exact hM4) hF14 (fun b hb => by obtain ⟨b', h1, h2⟩ := hb2; rw [h1] at hb; cases hb; exact h2)
  rw [unhide HUM] at hT4
  have hport : um.port = x.m.port := by rw [← unhide HUM]; exact (useM_same _ _).2.2.2
  have c0 := hT4.cells.2.1
  have e3 := hM4.cells.2.2.2.2.1
  rw [hport] at e3
  have hxl4 := hM4.cells.1
  have HZ := hide (And.intro hT4 (And.intro hF04 (And.intro hup4 (And.intro hdn4 (And.intro hpk4 hrs4)))))
  have HFC := hide (face_any g x.g T1.outer x.m.port w3 c0 e3)
  clear hM3 hb4 hpk4 hrs4 hr4 hF14 hM4 hT4 hF04 hup4 hdn4 hport c0 e3 hF3 hr3 hpk3 hrs3 hb3 hb2 HY HX HU HUM HK HQ
  go_wp2_with fail
  refine (unhide HFC).mono ?_
  rintro e w5 ⟨rfl, hb5⟩
  clear HFC
  have hT5 := (unhide HZ).1.new hb5
  have hF5 : Fr S W0 w5 := (unhide HZ).2.1.trans (Fr.of_below hb5)
  have hpk5 := (hb5.block _ (by omega)).trans (unhide HZ).2.2.2.2.1
  have hrs5 := (hb5.block _ (by omega)).trans (unhide HZ).2.2.2.2.2
  have hs5 : w.heap.size + 2 ≤ w5.heap.size := by have := hb5.size; omega
  obtain ⟨a0, a1, a2, a3, a4, a5, a6, a7, a8, a9, a10, a11, a12, a13, a14, az⟩ := pk_cells hpk5
  obtain ⟨b0, b1, b2, b3, b4, b5, b6, b7, b8, b9, b10, b11, b12, b13, b14, bz⟩ := pk_cells hrs5
  dsimp only [pk0] at a0 a1 a2 a3 a4 a5 a6 a7 a8 a9 a10 a11 a12 a13 a14 b0 b1 b2 b3 b4 b5 b6 b7 b8 b9 b10 b11 b12 b13 b14
  have c0 := hT5.cells.2.1
  dsimp only at c0
  have hg1 : g ≠ w.heap.size := by omega
  have hg2 : g ≠ w.heap.size + 1 := by omega
  have HRS5 := hide hrs5
  have HIN : ∀ W, Fr (fun k => k = w.heap.size) w5 W → Hid (Calls Try.prog 50 #[.pointer (some ⟨g, 0, none⟩), .agg #[.int .i64 tag, .int .i64 proto, .bool false, .int .i64 T1.outer, .int .i64 x.m.port, .int .i64 T1.outer, .int .i64 dp, .bool syn, .bool fin, .bool rst, .bool err, .int .i64 qsa, .int .i64 qsp, .int .i64 qda, .int .i64 qdp]] W fun e w' => e = .returned (.tuple #[.agg #[.int .i64 R.2.1.tag, .int .i64 R.2.1.proto, .bool R.2.1.out, .int .i64 R.2.1.sa, .int .i64 R.2.1.sp, .int .i64 R.2.1.da, .int .i64 R.2.1.dp, .bool R.2.1.syn, .bool R.2.1.fin, .bool R.2.1.rst, .bool R.2.1.err, .int .i64 R.2.1.qsa, .int .i64 R.2.1.qsp, .int .i64 R.2.1.qda, .int .i64 R.2.1.qdp], .int .i64 R.2.2]) ∧ After W (grow S1 w1 w3) g hp hi R.1 w') := by
    intro W hW
    have key := passIn_any (hT5.keep hW (fun k hk e => (far_of (unhide HW).2 (unhide HZ).2.2.2.1 hS k hk).1 e)) ⟨tag, proto, false, T1.outer, x.m.port, T1.outer, dp, syn, fin, rst, err, qsa, qsp, qda, qdp⟩
    rw [unhide HR] at key
    exact key
  have HT5 := hide (And.intro hT5 (And.intro hF5 (And.intro (unhide HZ).2.2.1 (unhide HZ).2.2.2.1)))
  clear hT5 hF5 hpk5 hrs5 hb5 HZ
  go_wp2
  go_region
  all_goals
    go_wp2_with fail
    refine (unhide (HIN _ ?fr)).mono ?_
    case fr =>
      repeat (first | refine Fr.setO ?_ | refine Fr.drew ?_ | exact Fr.refl _ _)
    rintro e w7 ⟨rfl, hA7⟩
    have hrs7 : w7.heap[w.heap.size + 1]? = some (.cells (pkC pk0) 38 (0, 0)) := by
      obtain ⟨L7, hT7, hF7⟩ := hA7
      refine turn_fin (w5 := w5) (n := w.heap.size) ?_ (unhide HRS5) hF7 (fun hk => (far_of (unhide HW).2 (unhide HT5).2.2.2 hS _ hk).2 rfl)
      repeat (first | refine Fr.setO ?_ | refine Fr.drew ?_ | exact Fr.refl _ _)
    have HA : Hid (∀ wz, Fr (fun k => k = w.heap.size ∨ k = w.heap.size + 1) w7 wz → After w S g hp hi R.1 wz) := by
      intro wz hz
      refine finish2 (w5 := w5) (unhide HW).1 (unhide HW).2 (unhide HT5).2.1 (unhide HT5).2.2.1 (unhide HT5).2.2.2 hS (unhide HT5).1.bound ?_ hA7 hz
      repeat (first | refine Fr.setO ?_ | refine Fr.drew ?_ | exact Fr.refl _ _)
    clear hA7 a0 a1 a2 a3 a4 a5 a6 a7 a8 a9 a10 a11 a12 a13 a14 az b0 b1 b2 b3 b4 b5 b6 b7 b8 b9 b10 b11 b12 b13 b14 bz c0 HIN
    obtain ⟨b0, b1, b2, b3, b4, b5, b6, b7, b8, b9, b10, b11, b12, b13, b14, bz⟩ := pk_cells hrs7
    dsimp only [pk0] at b0 b1 b2 b3 b4 b5 b6 b7 b8 b9 b10 b11 b12 b13 b14
    clear hrs7
    go_wp2
    refine bodyPost_ret (v := .tuple #[.agg #[.int .i64 R.2.1.tag, .int .i64 R.2.1.proto, .bool R.2.1.out, .int .i64 R.2.1.sa, .int .i64 R.2.1.sp, .int .i64 R.2.1.da, .int .i64 R.2.1.dp, .bool R.2.1.syn, .bool R.2.1.fin, .bool R.2.1.rst, .bool R.2.1.err, .int .i64 R.2.1.qsa, .int .i64 R.2.1.qsp, .int .i64 R.2.1.qda, .int .i64 R.2.1.qdp], .int .i64 R.2.2]) (by simp [results, Try.results49, go_sem, b0, b1, b2, b3, b4, b5, b6, b7, b8, b9, b10, b11, b12, b13, b14]) rfl ⟨rfl, unhide HA _ ?_⟩
    repeat (refine Fr.setR ?_)
    exact Fr.refl _ _
end

end Go.Proofs.Ytgpplekabohneaa
