/- 'back' of the statement: some packet comes out, nothing turns. -/
import Derived.Test.YtgpplekabohneaaXg
namespace Go.Proofs.Ytgpplekabohneaa
open Go.RowKit

/-- inside 'back': the packet, the answer's block, the packet that is made -/
def BK (w : World) (p q : Pk) (wx : World) : Prop :=
  (wx.heap[w.heap.size]? = some (.cells (pkC p) 38 (0, 0)) ∧ wx.heap[w.heap.size + 1]? = some (.cells (pkC pk0) 38 (0, 0)) ∧ wx.heap[w.heap.size + 1 + 1]? = some (.cells (pkC q) 38 (0, 0))) ∧ Below w.heap.size w wx

theorem BK.put {w wx wy : World} {p q q' : Pk} (h : BK w p q wx) (hF : Fr (fun k => k = w.heap.size + 1 + 1) wx wy) (hb : wy.heap[w.heap.size + 1 + 1]? = some (.cells (pkC q') 38 (0, 0))) : BK w p q' wy := by
  obtain ⟨⟨h1, h2, h3⟩, h4⟩ := h
  refine ⟨⟨hF.some h1 (by omega), hF.some h2 (by omega), hb⟩, ?_⟩
  obtain ⟨a1, a2, a3, a4, a5⟩ := hF
  exact ⟨a1.trans h4.os, a2.trans h4.tape, a3.trans h4.output, Nat.le_trans h4.size a4, fun k hk => (a5 k (Nat.lt_of_lt_of_le hk h4.size) (by omega)).trans (h4.block k hk)⟩

theorem wpList_b38 {ops : Array Oper} {rest : List Oper} {o : Oper} {a : Act} {w : World} {Q : Exit → Act → World → Prop} (hg : o.guard = none) (x0 x1 x2 x3 x4 : Operand) (ho : o.op = .build 38 #[(0, x0), (1, x1), (2, x2), (3, x3), (4, x4)]) (c0 c1 c3 c4 c5 c6 : Int) (c2 : Bool)
    (h0 : a.eval x0 = .int .i64 c0) (h1 : a.eval x1 = .int .i64 c1) (h2 : a.eval x2 = .bool c2) (h3 : a.eval x3 = .agg #[.int .i64 c3, .int .i64 c4]) (h4 : a.eval x4 = .agg #[.int .i64 c5, .int .i64 c6])
    (h : wpList Try.prog ops Q rest (a.put o.dst (.agg #[.int .i64 c0, .int .i64 c1, .bool c2, .int .i64 c3, .int .i64 c4, .int .i64 c5, .int .i64 c6, .bool false, .bool false, .bool false, .bool false, .int .i64 0, .int .i64 0, .int .i64 0, .int .i64 0])) w) : wpList Try.prog ops Q (o :: rest) a w := by
  have hb : Try.prog.built 38 ((#[(0, x0), (1, x1), (2, x2), (3, x3), (4, x4)] : Array (Nat × Operand)).map fun (i, x) => (i, a.eval x)).toList = some #[.int .i64 c0, .int .i64 c1, .bool c2, .int .i64 c3, .int .i64 c4, .int .i64 c5, .int .i64 c6, .bool false, .bool false, .bool false, .bool false, .int .i64 0, .int .i64 0, .int .i64 0, .int .i64 0] := by
    rw [Array.toList_map]
    show Try.prog.built 38 [(0, a.eval x0), (1, a.eval x1), (2, a.eval x2), (3, a.eval x3), (4, a.eval x4)] = _
    rw [h0, h1, h2, h3, h4]
    kernel_rfl
  refine wpList_build hg 38 _ ho ?_ ?_
  · rw [hb]
    rfl
  · rw [hb]
    exact h

theorem wpList_b36 {ops : Array Oper} {rest : List Oper} {o : Oper} {a : Act} {w : World} {Q : Exit → Act → World → Prop} (hg : o.guard = none) (x0 x1 : Operand) (ho : o.op = .build 36 #[(0, x0), (1, x1)]) (c3 c4 c5 c6 : Int)
    (h3 : a.eval x0 = .agg #[.int .i64 c3, .int .i64 c4]) (h4 : a.eval x1 = .agg #[.int .i64 c5, .int .i64 c6])
    (h : wpList Try.prog ops Q rest (a.put o.dst (.agg #[.int .i64 c3, .int .i64 c4, .int .i64 c5, .int .i64 c6])) w) : wpList Try.prog ops Q (o :: rest) a w := by
  have hb : Try.prog.built 36 ((#[(0, x0), (1, x1)] : Array (Nat × Operand)).map fun (i, x) => (i, a.eval x)).toList = some #[.int .i64 c3, .int .i64 c4, .int .i64 c5, .int .i64 c6] := by
    rw [Array.toList_map]
    show Try.prog.built 36 [(0, a.eval x0), (1, a.eval x1)] = _
    rw [h3, h4]
    kernel_rfl
  refine wpList_build hg 36 _ ho ?_ ?_
  · rw [hb]
    rfl
  · rw [hb]
    exact h

set_option maxHeartbeats 4000000 in
set_option maxRecDepth 100000 in
theorem wback_any (p : Pk) (n : Int) (w : World) :
    Calls Try.prog 38 #[.agg (pkC p), .int .i64 n] w fun e w' => ∃ q, e = .returned (.agg (pkC q)) ∧ Below w.heap.size w w' := by
  obtain ⟨tag, proto, out, sa, sp, da, dp, syn, fin, rst, err, qsa, qsp, qda, qdp⟩ := p
  unfold pkC
  dsimp only
  go_enter Try.func38, Try.ntmps38
  go_upto_region 2 with (first
    | refine wpList_b38 rfl _ _ _ _ _ rfl _ _ _ _ _ _ _ rfl rfl rfl rfl rfl ?_)
  have hM0 : BK w ⟨tag, proto, out, sa, sp, da, dp, syn, fin, rst, err, qsa, qsp, qda, qdp⟩ ⟨tag, proto, !out, da, dp, sa, sp, false, false, false, false, 0, 0, 0, 0⟩ (((w.alloc (.cells #[.int .i64 tag, .int .i64 proto, .bool out, .int .i64 sa, .int .i64 sp, .int .i64 da, .int .i64 dp, .bool syn, .bool fin, .bool rst, .bool err, .int .i64 qsa, .int .i64 qsp, .int .i64 qda, .int .i64 qdp] 38)).alloc (.cells #[.int .i64 0, .int .i64 0, .bool false, .int .i64 0, .int .i64 0, .int .i64 0, .int .i64 0, .bool false, .bool false, .bool false, .bool false, .int .i64 0, .int .i64 0, .int .i64 0, .int .i64 0] 38)).alloc (.cells #[.int .i64 tag, .int .i64 proto, .bool (!out), .int .i64 da, .int .i64 dp, .int .i64 sa, .int .i64 sp, .bool false, .bool false, .bool false, .bool false, .int .i64 0, .int .i64 0, .int .i64 0, .int .i64 0] 38)) :=
    ⟨⟨blkA (blkA (blkN _ _ _ rfl)), blkA (blkN _ _ _ (by simp)), blkN _ _ _ (by simp)⟩, (((Below.refl _ _).alloc (Nat.le_refl _) _).alloc (by simp) _).alloc (by simp; omega) _⟩
  generalize (((w.alloc (.cells #[.int .i64 tag, .int .i64 proto, .bool out, .int .i64 sa, .int .i64 sp, .int .i64 da, .int .i64 dp, .bool syn, .bool fin, .bool rst, .bool err, .int .i64 qsa, .int .i64 qsp, .int .i64 qda, .int .i64 qdp] 38)).alloc (.cells #[.int .i64 0, .int .i64 0, .bool false, .int .i64 0, .int .i64 0, .int .i64 0, .int .i64 0, .bool false, .bool false, .bool false, .bool false, .int .i64 0, .int .i64 0, .int .i64 0, .int .i64 0] 38)).alloc (.cells #[.int .i64 tag, .int .i64 proto, .bool (!out), .int .i64 da, .int .i64 dp, .int .i64 sa, .int .i64 sp, .bool false, .bool false, .bool false, .bool false, .int .i64 0, .int .i64 0, .int .i64 0, .int .i64 0] 38)) = wk at *
  have hE0 : ∃ q, BK w ⟨tag, proto, out, sa, sp, da, dp, syn, fin, rst, err, qsa, qsp, qda, qdp⟩ q wk := ⟨_, hM0⟩
  clear hM0
  obtain ⟨⟨ztag, zproto, zout, zsa, zsp, zda, zdp, zsyn, zfin, zrst, zerr, zqsa, zqsp, zqda, zqdp⟩, hM⟩ := hE0
  obtain ⟨p0, p1, p2, p3, p4, p5, p6, p7, p8, p9, p10, p11, p12, p13, p14, pz⟩ := pk_cells hM.1.1
  dsimp only at p0 p1 p2 p3 p4 p5 p6 p7 p8 p9 p10 p11 p12 p13 p14
  obtain ⟨z0, z1, z2, z3, z4, z5, z6, z7, z8, z9, z10, z11, z12, z13, z14, zz⟩ := pk_cells hM.1.2.2
  dsimp only at z0 z1 z2 z3 z4 z5 z6 z7 z8 z9 z10 z11 z12 z13 z14
  have hl0 := (Array.getElem?_eq_some_iff.1 hM.1.1).1
  have hl2 := (Array.getElem?_eq_some_iff.1 hM.1.2.2).1
  have HM := hide hM
  clear hM
  go_upto_region 2 with fail
  go_cut [20] from 18 to 19 (fun z wx => (∃ b, z = .bool b) ∧ wx = wk)
  case first =>
    go_wp2_with fail
    go_meet
    exact ⟨⟨_, rfl⟩, rfl⟩
  case rest =>
  obtain ⟨⟨bo, rfl⟩, hwc⟩ := hcut
  have hwc2 := hwc.symm
  subst hwc2
  clear hwc
  go_upto_if 20 with fail
  go_cut [] from 21 to 33 (fun wx => ∃ q, BK w ⟨tag, proto, out, sa, sp, da, dp, syn, fin, rst, err, qsa, qsp, qda, qdp⟩ q wx)
  case first =>
    cases bo
    · go_wp2_with fail
      go_meet
      exact ⟨_, unhide HM⟩
    · go_wp2_with (first | refine wpList_b36 rfl _ _ rfl _ _ _ _ rfl rfl ?_)
      go_meet
      exact ⟨⟨ztag, zproto, zout, _, zsp, zda, zdp, zsyn, zfin, zrst, true, sa, sp, da, dp⟩, (unhide HM).put (Fr.setG (Fr.setG (Fr.setG (Fr.setG (Fr.setG (Fr.setG (Fr.refl _ _))))))) (setB (setB (setB (setB (setB (setB (unhide HM).1.2.2 10 _) 11 _) 12 _) 13 _) 14 _) 3 _)⟩
  case rest =>
  have hE0 := hcut
  clear p0 p1 p2 p3 p4 p5 p6 p7 p8 p9 p10 p11 p12 p13 p14 pz z0 z1 z2 z3 z4 z5 z6 z7 z8 z9 z10 z11 z12 z13 z14 zz hl0 hl2 HM
  clear hcut
  rename World => wk
  obtain ⟨⟨ztag, zproto, zout, zsa, zsp, zda, zdp, zsyn, zfin, zrst, zerr, zqsa, zqsp, zqda, zqdp⟩, hM⟩ := hE0
  obtain ⟨p0, p1, p2, p3, p4, p5, p6, p7, p8, p9, p10, p11, p12, p13, p14, pz⟩ := pk_cells hM.1.1
  dsimp only at p0 p1 p2 p3 p4 p5 p6 p7 p8 p9 p10 p11 p12 p13 p14
  obtain ⟨z0, z1, z2, z3, z4, z5, z6, z7, z8, z9, z10, z11, z12, z13, z14, zz⟩ := pk_cells hM.1.2.2
  dsimp only at z0 z1 z2 z3 z4 z5 z6 z7 z8 z9 z10 z11 z12 z13 z14
  have hl0 := (Array.getElem?_eq_some_iff.1 hM.1.1).1
  have hl2 := (Array.getElem?_eq_some_iff.1 hM.1.2.2).1
  have HM := hide hM
  clear hM
  go_upto_region 6 with fail
  go_cut [41] from 34 to 40 (fun z wx => (∃ b, z = .bool b) ∧ wx = wk)
  case first =>
    cases e1 : (proto == 2)
    · go_wp2_with fail
      go_meet
      exact ⟨⟨_, rfl⟩, rfl⟩
    · go_wp2_with fail
      go_meet
      exact ⟨⟨_, rfl⟩, rfl⟩
  case rest =>
  obtain ⟨⟨bo, rfl⟩, hwc⟩ := hcut
  have hwc2 := hwc.symm
  subst hwc2
  clear hwc
  go_upto_if 41 with fail
  go_cut [] from 42 to 53 (fun wx => ∃ q, BK w ⟨tag, proto, out, sa, sp, da, dp, syn, fin, rst, err, qsa, qsp, qda, qdp⟩ q wx)
  case first =>
    cases bo
    · go_wp2_with fail
      go_meet
      exact ⟨_, unhide HM⟩
    · go_wp2_with fail
      go_meet
      exact ⟨⟨ztag, zproto, zout, zsa, zsp, zda, zdp, decide (0 < bits BinOp.and IntKind.i64 n 1), decide (0 < bits BinOp.and IntKind.i64 n 2), decide (0 < bits BinOp.and IntKind.i64 n 4), zerr, zqsa, zqsp, zqda, zqdp⟩, (unhide HM).put (Fr.setG (Fr.setG (Fr.setG (Fr.refl _ _)))) (setB (setB (setB (unhide HM).1.2.2 7 _) 8 _) 9 _)⟩
  case rest =>
  have hE0 := hcut
  clear p0 p1 p2 p3 p4 p5 p6 p7 p8 p9 p10 p11 p12 p13 p14 pz z0 z1 z2 z3 z4 z5 z6 z7 z8 z9 z10 z11 z12 z13 z14 zz hl0 hl2 HM
  clear hcut
  rename World => wk
  obtain ⟨⟨ztag, zproto, zout, zsa, zsp, zda, zdp, zsyn, zfin, zrst, zerr, zqsa, zqsp, zqda, zqdp⟩, hM⟩ := hE0
  obtain ⟨p0, p1, p2, p3, p4, p5, p6, p7, p8, p9, p10, p11, p12, p13, p14, pz⟩ := pk_cells hM.1.1
  dsimp only at p0 p1 p2 p3 p4 p5 p6 p7 p8 p9 p10 p11 p12 p13 p14
  obtain ⟨z0, z1, z2, z3, z4, z5, z6, z7, z8, z9, z10, z11, z12, z13, z14, zz⟩ := pk_cells hM.1.2.2
  dsimp only at z0 z1 z2 z3 z4 z5 z6 z7 z8 z9 z10 z11 z12 z13 z14
  have hl0 := (Array.getElem?_eq_some_iff.1 hM.1.1).1
  have hl2 := (Array.getElem?_eq_some_iff.1 hM.1.2.2).1
  have HM := hide hM
  clear hM
  go_upto_region 10 with fail
  go_cut [56] from 54 to 55 (fun z wx => (∃ b, z = .bool b) ∧ wx = wk)
  case first =>
    go_wp2_with fail
    go_meet
    exact ⟨⟨_, rfl⟩, rfl⟩
  case rest =>
  obtain ⟨⟨bo, rfl⟩, hwc⟩ := hcut
  have hwc2 := hwc.symm
  subst hwc2
  clear hwc
  go_upto_if 56 with fail
  go_cut [] from 57 to 62 (fun wx => ∃ q, BK w ⟨tag, proto, out, sa, sp, da, dp, syn, fin, rst, err, qsa, qsp, qda, qdp⟩ q wx)
  case first =>
    cases bo
    · go_wp2_with fail
      go_meet
      exact ⟨_, unhide HM⟩
    · go_wp2_with fail
      go_meet
      exact ⟨⟨ztag, zproto, zout, zsa, zsp, zda, bits BinOp.xor IntKind.i64 zdp 1, zsyn, zfin, zrst, zerr, zqsa, zqsp, zqda, zqdp⟩, (unhide HM).put (Fr.setG (Fr.refl _ _)) (setB (unhide HM).1.2.2 6 _)⟩
  case rest =>
  have hE0 := hcut
  clear p0 p1 p2 p3 p4 p5 p6 p7 p8 p9 p10 p11 p12 p13 p14 pz z0 z1 z2 z3 z4 z5 z6 z7 z8 z9 z10 z11 z12 z13 z14 zz hl0 hl2 HM
  clear hcut
  rename World => wk
  obtain ⟨⟨ztag, zproto, zout, zsa, zsp, zda, zdp, zsyn, zfin, zrst, zerr, zqsa, zqsp, zqda, zqdp⟩, hM⟩ := hE0
  obtain ⟨p0, p1, p2, p3, p4, p5, p6, p7, p8, p9, p10, p11, p12, p13, p14, pz⟩ := pk_cells hM.1.1
  dsimp only at p0 p1 p2 p3 p4 p5 p6 p7 p8 p9 p10 p11 p12 p13 p14
  obtain ⟨z0, z1, z2, z3, z4, z5, z6, z7, z8, z9, z10, z11, z12, z13, z14, zz⟩ := pk_cells hM.1.2.2
  dsimp only at z0 z1 z2 z3 z4 z5 z6 z7 z8 z9 z10 z11 z12 z13 z14
  have hl0 := (Array.getElem?_eq_some_iff.1 hM.1.1).1
  have hl2 := (Array.getElem?_eq_some_iff.1 hM.1.2.2).1
  have HM := hide hM
  clear hM
  go_upto_region 12 with fail
  go_cut [65] from 63 to 64 (fun z wx => (∃ b, z = .bool b) ∧ wx = wk)
  case first =>
    go_wp2_with fail
    go_meet
    exact ⟨⟨_, rfl⟩, rfl⟩
  case rest =>
  obtain ⟨⟨bo, rfl⟩, hwc⟩ := hcut
  have hwc2 := hwc.symm
  subst hwc2
  clear hwc
  go_upto_if 65 with fail
  go_cut [] from 66 to 71 (fun wx => ∃ q, BK w ⟨tag, proto, out, sa, sp, da, dp, syn, fin, rst, err, qsa, qsp, qda, qdp⟩ q wx)
  case first =>
    cases bo
    · go_wp2_with fail
      go_meet
      exact ⟨_, unhide HM⟩
    · go_wp2_with fail
      go_meet
      exact ⟨⟨ztag, zproto, zout, bits BinOp.xor IntKind.i64 zsa 3, zsp, zda, zdp, zsyn, zfin, zrst, zerr, zqsa, zqsp, zqda, zqdp⟩, (unhide HM).put (Fr.setG (Fr.refl _ _)) (setB (unhide HM).1.2.2 3 _)⟩
  case rest =>
  have hE0 := hcut
  clear p0 p1 p2 p3 p4 p5 p6 p7 p8 p9 p10 p11 p12 p13 p14 pz z0 z1 z2 z3 z4 z5 z6 z7 z8 z9 z10 z11 z12 z13 z14 zz hl0 hl2 HM
  clear hcut
  rename World => wk
  obtain ⟨⟨ztag, zproto, zout, zsa, zsp, zda, zdp, zsyn, zfin, zrst, zerr, zqsa, zqsp, zqda, zqdp⟩, hM⟩ := hE0
  obtain ⟨p0, p1, p2, p3, p4, p5, p6, p7, p8, p9, p10, p11, p12, p13, p14, pz⟩ := pk_cells hM.1.1
  dsimp only at p0 p1 p2 p3 p4 p5 p6 p7 p8 p9 p10 p11 p12 p13 p14
  obtain ⟨z0, z1, z2, z3, z4, z5, z6, z7, z8, z9, z10, z11, z12, z13, z14, zz⟩ := pk_cells hM.1.2.2
  dsimp only at z0 z1 z2 z3 z4 z5 z6 z7 z8 z9 z10 z11 z12 z13 z14
  have hl0 := (Array.getElem?_eq_some_iff.1 hM.1.1).1
  have hl2 := (Array.getElem?_eq_some_iff.1 hM.1.2.2).1
  have HM := hide hM
  clear hM
  obtain ⟨b0, b1, b2, b3, b4, b5, b6, b7, b8, b9, b10, b11, b12, b13, b14, bz⟩ := pk_cells (unhide HM).1.2.1
  dsimp only [pk0] at b0 b1 b2 b3 b4 b5 b6 b7 b8 b9 b10 b11 b12 b13 b14
  have hl1 := (Array.getElem?_eq_some_iff.1 (unhide HM).1.2.1).1
  go_wp2
  refine bodyPost_ret (v := .agg #[.int .i64 ztag, .int .i64 zproto, .bool zout, .int .i64 zsa, .int .i64 zsp, .int .i64 zda, .int .i64 zdp, .bool zsyn, .bool zfin, .bool zrst, .bool zerr, .int .i64 zqsa, .int .i64 zqsp, .int .i64 zqda, .int .i64 zqdp]) (by simp [results, Try.results38, go_sem, b0, b1, b2, b3, b4, b5, b6, b7, b8, b9, b10, b11, b12, b13, b14]) rfl ?_
  refine ⟨⟨ztag, zproto, zout, zsa, zsp, zda, zdp, zsyn, zfin, zrst, zerr, zqsa, zqsp, zqda, zqdp⟩, rfl, ?_⟩
  repeat (refine Below.setCell ?_ (by simp) _)
  exact (unhide HM).2

end Go.Proofs.Ytgpplekabohneaa
