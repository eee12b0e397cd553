/- 'Pass' of the document, a way. -/
import Derived.Test.YtgpplekabohneaaXg
namespace Go.Proofs.Ytgpplekabohneaa
open Go.RowKit

section
variable {w : World} {S : Nat → Prop} {r : Nat} {tv lv : Value} {ts : List Ten} {L : List RCl}

set_option maxHeartbeats 4000000 in
set_option maxRecDepth 100000 in
theorem rpass_98 (h : RefR w S r tv lv ts L) (tag proto sa sp da dp : Int) (syn fin rst : Bool) (qsa qsp qda qdp : Int) (hgood : goodB ⟨tag, proto, false, sa, sp, da, dp, syn, fin, rst, false, qsa, qsp, qda, qdp⟩ = true) {t : Nat} (hpl : placeF ts tag = some t) (ms : List Mp) (q0 : Pk) (v : Int)
    (hcall : ∀ W, RefR W S r tv lv ts L → Calls Try.prog 98 #[.pointer (some ⟨r, 0, none⟩), .int .i64 t, .agg (pkC ⟨tag, proto, false, sa, sp, da, dp, syn, fin, rst, false, qsa, qsp, qda, qdp⟩)] W fun e w' => RFin W S r tv ts L t ms q0 v e w')
    (hzero : v ≠ 0 → q0 = pk0) :
    Calls Try.prog 59 #[.pointer (some ⟨r, 0, none⟩), .agg (pkC ⟨tag, proto, false, sa, sp, da, dp, syn, fin, rst, false, qsa, qsp, qda, qdp⟩)] w fun e w' => PFin w S r tv ts L t ms q0 v e w' := by
  have HG := fun W => hide (rgood_any ⟨tag, proto, false, sa, sp, da, dp, syn, fin, rst, false, qsa, qsp, qda, qdp⟩ W)
  rw [hgood] at HG
  have HT := fun W (hW : Below w.heap.size w W) => hide (tenant_any (h.new hW) tag)
  rw [hpl] at HT
  have hneg : decide ((t : Int) < 0) = false := decide_eq_false (by omega)
  have HC := fun W (hW : Below w.heap.size w W) => hide (hcall W (h.new hW))
  have HZ := hide hzero
  obtain ⟨c0, c1, cz, hr⟩ := h.cells
  have HSB := hide h.bound
  unfold pkC at HG HC
  unfold placeV at HT
  unfold pkC
  dsimp only at HG HC HT
  dsimp only
  clear h hgood hpl hcall hzero c0 c1 cz
  go_enter Try.func59, Try.ntmps59
  go_wp2_with fail
  refine (unhide (HG _)).mono ?_
  rintro e w1 ⟨rfl, hb1⟩
  have q1 : w1.heap[w.heap.size]? = some (.cells (pkC ⟨tag, proto, false, sa, sp, da, dp, syn, fin, rst, false, qsa, qsp, qda, qdp⟩) 38 (0, 0)) := (hb1.block _ (by simp; omega)).trans (by first | exact blkA (blkA (blkN _ _ _ rfl)) | simp [World.alloc, World.setCell, pkC])
  have q2 : w1.heap[w.heap.size + 1]? = some (.cells (pkC pk0) 38 (0, 0)) := (hb1.block _ (by simp)).trans (by first | exact blkA (blkN _ _ _ (by simp)) | simp [World.alloc, World.setCell, pkC, pk0])
  have q3 : w1.heap[w.heap.size + 1 + 1]? = some (.cells (pkC pk0) 38 (0, 0)) := (hb1.block _ (by simp)).trans (by first | exact blkN _ _ _ (by simp) | simp [World.alloc, World.setCell, pkC, pk0])
  have HB1 : Hid (Below w.heap.size w w1) := Below.trans ((((Below.refl _ _).alloc (Nat.le_refl _) _).alloc (by simp) _).alloc (by simp; omega) _) (hb1.mono (by simp; omega))
  have hl3 : w.heap.size + 1 + 1 < w1.heap.size := (Array.getElem?_eq_some_iff.1 q3).1
  have hl1 : w.heap.size < w1.heap.size := by omega
  have hl2 : w.heap.size + 1 < w1.heap.size := by omega
  obtain ⟨p0, p1, p2, p3, p4, p5, p6, p7, p8, p9, p10, p11, p12, p13, p14, pz⟩ := pk_cells q1
  dsimp only at p0 p1 p2 p3 p4 p5 p6 p7 p8 p9 p10 p11 p12 p13 p14
  have HQ := hide (And.intro q1 (And.intro q2 q3))
  clear q1 q2 q3 hb1 HG
  go_wp2_with fail
  refine (unhide (HT _ (unhide HB1))).mono ?_
  rintro e w2 ⟨rfl, hw⟩
  symm at hw
  subst hw
  clear HT
  go_upto_block 0 with fail
  go_cut [10] from 24 to 50 (fun z wx => z = .int .i64 v ∧ ∃ q, (v = 0 → q = q0) ∧ PMid w S r tv ts L t ms q wx)
  case first =>
    go_wp2_with fail
    refine (unhide (HC _ (unhide HB1))).mono ?_
    intro e w5 hfin
    obtain ⟨q, rfl, hq, hM⟩ := PMid.of (unhide HSB) (unhide HB1) (unhide HQ) hfin
    have q1 := hM.1.1
    have HM := hide (And.intro hM hq)
    have hl5 : w.heap.size < w5.heap.size := (Array.getElem?_eq_some_iff.1 q1).1
    clear p0 p1 p2 p3 p4 p5 p6 p7 p8 p9 p10 p11 p12 p13 p14 pz
    obtain ⟨p0, p1, p2, p3, p4, p5, p6, p7, p8, p9, p10, p11, p12, p13, p14, pz⟩ := pk_cells q1
    dsimp only at p0 p1 p2 p3 p4 p5 p6 p7 p8 p9 p10 p11 p12 p13 p14
    clear hM hq hfin q1 HC
    obtain ⟨qtag, qproto, qout, qa, qp, qd, qe, qsyn, qfin, qrst, qerr, q1, q2, q3, q4⟩ := q
    dsimp only [pkC]
    go_wp2_with fail
    go_meet
    refine ⟨rfl, ⟨qtag, qproto, qout, qa, qp, qd, qe, qsyn, qfin, qrst, qerr, q1, q2, q3, q4⟩, (unhide HM).2, (unhide HM).1.put (unhide HSB) (Fr.setG (Fr.setG (Fr.setG (Fr.setG (Fr.setG (Fr.setG (Fr.setG (Fr.setG (Fr.setG (Fr.setG (Fr.setG (Fr.setG (Fr.setG (Fr.setG (Fr.setG (Fr.refl _ _)))))))))))))))) ?_⟩
    exact pk_put ⟨qtag, qproto, qout, qa, qp, qd, qe, qsyn, qfin, qrst, qerr, q1, q2, q3, q4⟩ (unhide HM).1.1.1
  case rest =>
  obtain ⟨rfl, q, hq, hM⟩ := hcut
  have HM := hide (And.intro hM hq)
  obtain ⟨p0, p1, p2, p3, p4, p5, p6, p7, p8, p9, p10, p11, p12, p13, p14, pz⟩ := pk_cells hM.1.1
  obtain ⟨n0, n1, n2, n3, n4, n5, n6, n7, n8, n9, n10, n11, n12, n13, n14, nz⟩ := pk_cells hM.1.2.2
  dsimp only [pk0] at n0 n1 n2 n3 n4 n5 n6 n7 n8 n9 n10 n11 n12 n13 n14
  have hl3 : w.heap.size + 1 + 1 < wc.heap.size := (Array.getElem?_eq_some_iff.1 hM.1.2.2).1
  have hl1 : w.heap.size < wc.heap.size := by omega
  clear hM hq HQ HB1 HC
  go_upto_if 52 with fail
  go_cut [] from 53 to 53 (fun wx => PMid w S r tv ts L t ms q0 wx)
  case first =>
    by_cases hv : v = 0
    · subst hv
      go_wp2_with fail
      go_meet
      rw [← (unhide HM).2 (by trivial)]
      exact (unhide HM).1
    · have hv2 : (v == 0) = false := by simpa using hv
      have hv3 : (v != 0) = true := by simpa using hv
      go_wp2_with fail
      go_meet
      rw [unhide HZ hv]
      exact (unhide HM).1.put (unhide HSB) (Fr.setG (Fr.setG (Fr.setG (Fr.setG (Fr.setG (Fr.setG (Fr.setG (Fr.setG (Fr.setG (Fr.setG (Fr.setG (Fr.setG (Fr.setG (Fr.setG (Fr.setG (Fr.refl _ _)))))))))))))))) (pk_put pk0 (unhide HM).1.1.1)
  case rest =>
    have HM2 := hide hcut
    obtain ⟨x0, x1, x2, x3, x4, x5, x6, x7, x8, x9, x10, x11, x12, x13, x14, xz⟩ := pk_cells hcut.1.1
    obtain ⟨b0, b1, b2, b3, b4, b5, b6, b7, b8, b9, b10, b11, b12, b13, b14, bz⟩ := pk_cells hcut.1.2.1
    dsimp only [pk0] at b0 b1 b2 b3 b4 b5 b6 b7 b8 b9 b10 b11 b12 b13 b14
    have hl2 := (Array.getElem?_eq_some_iff.1 hcut.1.2.1).1
    have hl1 := (Array.getElem?_eq_some_iff.1 hcut.1.1).1
    clear hcut HM HZ p0 p1 p2 p3 p4 p5 p6 p7 p8 p9 p10 p11 p12 p13 p14 pz n0 n1 n2 n3 n4 n5 n6 n7 n8 n9 n10 n11 n12 n13 n14 nz
    obtain ⟨qtag, qproto, qout, qa, qp, qd, qe, qsyn, qfin, qrst, qerr, q1, q2, q3, q4⟩ := q0
    dsimp only at x0 x1 x2 x3 x4 x5 x6 x7 x8 x9 x10 x11 x12 x13 x14
    go_wp2
    refine bodyPost_ret (v := .tuple #[.agg #[.int .i64 qtag, .int .i64 qproto, .bool qout, .int .i64 qa, .int .i64 qp, .int .i64 qd, .int .i64 qe, .bool qsyn, .bool qfin, .bool qrst, .bool qerr, .int .i64 q1, .int .i64 q2, .int .i64 q3, .int .i64 q4], .int .i64 v, .int .i64 0]) (by simp [results, Try.results59, go_sem, b0, b1, b2, b3, b4, b5, b6, b7, b8, b9, b10, b11, b12, b13, b14]) rfl ?_
    exact (unhide HM2).fin (unhide HSB) (Fr.setG (Fr.setG (Fr.setG (Fr.setG (Fr.setG (Fr.setG (Fr.setG (Fr.setG (Fr.setG (Fr.setG (Fr.setG (Fr.setG (Fr.setG (Fr.setG (Fr.setG (Fr.refl _ _))))))))))))))))

end

end Go.Proofs.Ytgpplekabohneaa
