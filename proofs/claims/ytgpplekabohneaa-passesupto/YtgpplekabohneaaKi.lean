/- 'in' of the document: a stream's packet; the whole. -/
import Derived.Test.YtgpplekabohneaaKh
namespace Go.Proofs.Ytgpplekabohneaa
open Go.RowKit

section
variable {w : World} {S : Nat → Prop} {r : Nat} {tv lv : Value} {ts : List Ten} {L : List RCl}

set_option maxHeartbeats 2000000 in
set_option maxRecDepth 100000 in
theorem rin_str (h : RefR w S r tv lv ts L) {t : Nat} (ht : t < ts.length) (p : Pk) {x : RCl} (hf : L.find? (atP t p.proto p.dp) = some x) (he : p.da = ts[t].outer) (hc : x.m.peers.contains p.sa = true) (h2 : p.proto = 2) (hX : okX x.m) :
    Calls Try.prog 98 #[.pointer (some ⟨r, 0, none⟩), .int .i64 t, .agg (pkC p)] w fun e w' => e = .returned (.tuple #[.agg (pkC { p with da := x.m.ia, dp := x.m.ip }), .int .i64 0]) ∧ w'.heap[x.g]? = some (.cells (refC x.t { marksF x.m p.out p.syn p.fin p.rst with idle := 0 } x.sv) 140 (0, 0)) ∧ Fr (fun k => k = x.g) w w' := by
  have hx := List.mem_of_find?_eq_some hf
  have hk := List.find?_some hf
  obtain ⟨⟨hblk, hps⟩, -, -⟩ := h.mem x hx
  obtain ⟨-, m1, m2, m3, m4, m5, -, m7, -, -, mz, mg⟩ := ref_cells hblk
  have f7 := mz 7
  obtain ⟨tag, proto, out, sa, sp, da, dp, syn, fin, rst, err, qsa, qsp, qda, qdp⟩ := p
  dsimp only at hf he hc h2 hk ⊢
  have hpr : x.m.proto = proto := by
    unfold atP at hk
    rw [Bool.and_eq_true] at hk
    exact (isP_iff.1 hk.2).1
  have hmk := rmarks_eq (m := { x.m with idle := 0 }) hX.2 out syn fin rst
  rw [marksF_idle0] at hmk
  obtain ⟨c0, -, -, hr⟩ := h.cells
  obtain ⟨b, cap, rfl, k1, k2, hb, -, a1, -, -⟩ := h.ten ht
  have HC := fun W (hW : Below w.heap.size w W) => hide (byPort_any (h.new hW) t proto dp)
  rw [hf] at HC
  have HP := fun W (hW : Below w.heap.size w W) => hide (rpeer_any x.g x.sv x.m.peers sa W ((hW.cell (p := ⟨x.g, 5, none⟩) mg).trans m5) (hps.keep hW.size (fun b' _ hl => hW.block b' hl)))
  rw [hc] at HP
  have HM := fun W (hW : W.heap[x.g]? = some (.cells (refC x.t { x.m with idle := 0 } x.sv) 140 (0, 0))) => hide (rmarks_any x.g x.t { x.m with idle := 0 } x.sv ⟨tag, proto, out, sa, sp, da, dp, syn, fin, rst, err, qsa, qsp, qda, qdp⟩ W hW (hpr.trans h2))
  simp only [hmk] at HM
  have HBK := hide hblk
  rw [← he] at a1
  unfold maxLen at k2
  unfold pkC at HM ⊢
  dsimp only at HM ⊢
  subst h2
  have hn1 : x.g ≠ w.heap.size := by omega
  have hn2 : x.g ≠ w.heap.size + 1 := by omega
  clear h hf he hc hblk hps hk hpr hmk mz hX
  go_enter Try.func98, Try.ntmps98
  go_wp2_with fail
  refine (unhide (HC _ (((Below.refl _ _).alloc (Nat.le_refl _) _).alloc (by simp) _))).mono ?_
  rintro e w1 ⟨rfl, rfl⟩
  clear HC
  unfold ptrO ptrV
  go_upto_region 2 with fail
  go_big_quiet (fail)
  go_wp2_with fail
  refine (unhide (HP _ (below_drewN (((Below.refl _ _).alloc (Nat.le_refl _) _).alloc (by simp) _) _))).mono ?_
  rintro e w2 ⟨rfl, rfl⟩
  clear HP
  go_wp2_with fail
  refine (unhide (HM _ ?_)).mono ?_
  · first
      | exact blkA (blkA (setB (unhide HBK) _ _))
      | exact setB (blkA (blkA (unhide HBK))) _ _
  rintro e w3 ⟨rfl, hB3, hF3⟩
  have hpk : w3.heap[w.heap.size]? = some (.cells (pkC ⟨tag, 2, out, sa, sp, da, dp, syn, fin, rst, err, qsa, qsp, qda, qdp⟩) 38 (0, 0)) := hF3.some ((Below.heap_setCell _ _ _ _ (fun e => hn1 e.symm)).trans (blkA (blkN _ _ _ rfl))) (fun e => hn1 e.symm)
  have hrs : w3.heap[w.heap.size + 1]? = some (.cells (pkC pk0) 38 (0, 0)) := hF3.some ((Below.heap_setCell _ _ _ _ (fun e => hn2 e.symm)).trans (blkN _ _ _ (by simp))) (fun e => hn2 e.symm)
  obtain ⟨a0, a1', a2, a3, a4, a5, a6, a7, a8, a9, a10, a11, a12, a13, a14, az⟩ := pk_cells hpk
  obtain ⟨b0, b1, b2, b3, b4, b5, b6, b7, b8, b9, b10, b11, b12, b13, b14, bz⟩ := pk_cells hrs
  obtain ⟨-, -, i2, i3, -⟩ := ref_cells hB3
  have hsm := marksF_same x.m out syn fin rst
  dsimp only [pk0] at *
  rw [hsm.2.1] at i2
  rw [hsm.2.2.1] at i3
  have hz : w.heap.size + 2 ≤ w3.heap.size := by have := hF3.size; simpa using this
  have HF : Hid (Fr (fun k => k = x.g) w w3) := Fr.trans (((((Fr.refl (fun k => k = x.g) w).alloc _).alloc _).drewN _).setG) hF3
  have HB := hide hB3
  have mg3 : x.g < w3.heap.size := by omega
  clear hpk hrs hF3 hB3 HM hsm
  go_wp2
  refine bodyPost_ret (v := .tuple #[.agg #[.int .i64 tag, .int .i64 2, .bool out, .int .i64 sa, .int .i64 sp, .int .i64 x.m.ia, .int .i64 x.m.ip, .bool syn, .bool fin, .bool rst, .bool err, .int .i64 qsa, .int .i64 qsp, .int .i64 qda, .int .i64 qdp], .int .i64 0]) (by simp [results, Try.results98, go_sem, b0, b1, b2, b3, b4, b5, b6, b7, b8, b9, b10, b11, b12, b13, b14]) rfl ⟨rfl, ?_, ?_⟩
  · repeat (refine (Below.heap_setCell _ _ _ _ (by first | exact hn1 | exact hn2)).trans ?_)
    exact unhide HB
  · repeat (refine Fr.setNew ?_ (by first | exact Nat.le_refl _ | exact Nat.le_succ _))
    exact unhide HF
end

end Go.Proofs.Ytgpplekabohneaa
