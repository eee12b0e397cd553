/- 'in' of the document: what is filtered, what comes in. -/
import Derived.Test.YtgpplekabohneaaKg
namespace Go.Proofs.Ytgpplekabohneaa
open Go.RowKit

theorem rmarks_no (g : Nat) (proto : Int) (p : Pk) (w : World) (c1 : w.cell? ⟨g, 1, none⟩ = some (.int .i64 proto)) (h2 : (proto == 2) = false) :
    Calls Try.prog 115 #[.pointer (some ⟨g, 0, none⟩), .agg (pkC p)] w fun e w' => e = .returned (.tuple #[]) ∧ Below w.heap.size w w' := by
  obtain ⟨tag, pr, out, sa, sp, da, dp, syn, fin, rst, err, qsa, qsp, qda, qdp⟩ := p
  have hg : g < w.heap.size := World.block_lt_of_cell? w _ c1
  unfold pkC
  dsimp only
  go_enter Try.func115, Try.ntmps115
  go_wp2
  refine bodyPost_ret (results_none rfl _ _ _) rfl ?_
  exact ⟨rfl, (Below.refl _ _).alloc (Nat.le_refl _) _⟩

theorem marksF_idle0 (m : Mp) (a b c d : Bool) : marksF { m with idle := 0 } a b c d = { marksF m a b c d with idle := 0 } := by
  unfold marksF
  dsimp only
  repeat' split
  all_goals first | rfl | simp_all

section
variable {w : World} {S : Nat → Prop} {r : Nat} {tv lv : Value} {ts : List Ten} {L : List RCl}

set_option maxHeartbeats 2000000 in
set_option maxRecDepth 100000 in
theorem rin_filt (h : RefR w S r tv lv ts L) {t : Nat} (ht : t < ts.length) (p : Pk) {x : RCl} (hf : L.find? (atP t p.proto p.dp) = some x) (he : p.da = ts[t].outer) (hc : x.m.peers.contains p.sa = false) :
    Calls Try.prog 98 #[.pointer (some ⟨r, 0, none⟩), .int .i64 t, .agg (pkC p)] w fun e w' => e = .returned (.tuple #[.agg (pkC p), .int .i64 5]) ∧ Below w.heap.size w w' := by
  have hx := List.mem_of_find?_eq_some hf
  obtain ⟨⟨hblk, hps⟩, -, -⟩ := h.mem x hx
  obtain ⟨-, m1, m2, m3, m4, m5, -, -, -, -, -, mg⟩ := ref_cells hblk
  obtain ⟨tag, proto, out, sa, sp, da, dp, syn, fin, rst, err, qsa, qsp, qda, qdp⟩ := p
  dsimp only at hf he hc
  obtain ⟨c0, -, -, hr⟩ := h.cells
  obtain ⟨b, cap, rfl, k1, k2, hb, -, a1, -, -⟩ := h.ten ht
  have HC := fun W (hW : Below w.heap.size w W) => hide (byPort_any (h.new hW) t proto dp)
  rw [hf] at HC
  have HP := fun W (hW : Below w.heap.size w W) => hide (rpeer_any x.g x.sv x.m.peers sa W ((hW.cell (p := ⟨x.g, 5, none⟩) mg).trans m5) (hps.keep hW.size (fun b' _ hl => hW.block b' hl)))
  rw [hc] at HP
  rw [← he] at a1
  unfold maxLen at k2
  unfold pkC
  dsimp only
  clear h hf he hc hblk hps
  go_enter Try.func98, Try.ntmps98
  go_wp2_with fail
  refine (unhide (HC _ (((Below.refl _ _).alloc (Nat.le_refl _) _).alloc (by simp) _))).mono ?_
  rintro e w1 ⟨rfl, rfl⟩
  clear HC
  unfold ptrO ptrV
  go_upto_region 2 with fail
  go_big_quiet (fail)
  go_wp2_with fail
  refine (unhide (HP _ (below_drewN (((Below.refl _ _).alloc (Nat.le_refl _) _).alloc (by simp) _) _))).mono ?_
  rintro e w2 ⟨rfl, rfl⟩
  clear HP
  go_wp2
  refine bodyPost_ret (v := .tuple #[.agg #[.int .i64 tag, .int .i64 proto, .bool out, .int .i64 sa, .int .i64 sp, .int .i64 da, .int .i64 dp, .bool syn, .bool fin, .bool rst, .bool err, .int .i64 qsa, .int .i64 qsp, .int .i64 qda, .int .i64 qdp], .int .i64 5]) (by simp [results, Try.results98, go_sem]) rfl ⟨rfl, ?_⟩
  repeat (refine Below.setCell ?_ (by simp) _)
  exact (((Below.refl _ _).alloc (Nat.le_refl _) _).alloc (by simp) _).trans ⟨rfl, rfl, rfl, by simp, fun _ _ => rfl⟩

set_option maxHeartbeats 2000000 in
set_option maxRecDepth 100000 in
theorem rin_ok (h : RefR w S r tv lv ts L) {t : Nat} (ht : t < ts.length) (p : Pk) {x : RCl} (hf : L.find? (atP t p.proto p.dp) = some x) (he : p.da = ts[t].outer) (hc : x.m.peers.contains p.sa = true) (h2 : (p.proto == 2) = false) :
    Calls Try.prog 98 #[.pointer (some ⟨r, 0, none⟩), .int .i64 t, .agg (pkC p)] w fun e w' => e = .returned (.tuple #[.agg (pkC { p with da := x.m.ia, dp := x.m.ip }), .int .i64 0]) ∧ Below w.heap.size w w' := by
  have hx := List.mem_of_find?_eq_some hf
  have hk := List.find?_some hf
  obtain ⟨⟨hblk, hps⟩, -, -⟩ := h.mem x hx
  obtain ⟨-, m1, m2, m3, m4, m5, -, -, -, -, -, mg⟩ := ref_cells hblk
  obtain ⟨tag, proto, out, sa, sp, da, dp, syn, fin, rst, err, qsa, qsp, qda, qdp⟩ := p
  dsimp only at hf he hc h2 hk ⊢
  have hpr : x.m.proto = proto := by
    unfold atP at hk
    rw [Bool.and_eq_true] at hk
    exact (isP_iff.1 hk.2).1
  rw [hpr] at m1
  obtain ⟨c0, -, -, hr⟩ := h.cells
  obtain ⟨b, cap, rfl, k1, k2, hb, -, a1, -, -⟩ := h.ten ht
  have HC := fun W (hW : Below w.heap.size w W) => hide (byPort_any (h.new hW) t proto dp)
  rw [hf] at HC
  have HP := fun W (hW : Below w.heap.size w W) => hide (rpeer_any x.g x.sv x.m.peers sa W ((hW.cell (p := ⟨x.g, 5, none⟩) mg).trans m5) (hps.keep hW.size (fun b' _ hl => hW.block b' hl)))
  rw [hc] at HP
  have HM := fun W (hW : Below w.heap.size w W) => hide (rmarks_no x.g proto ⟨tag, proto, out, sa, sp, da, dp, syn, fin, rst, err, qsa, qsp, qda, qdp⟩ W ((hW.cell (p := ⟨x.g, 1, none⟩) mg).trans m1) h2)
  rw [← he] at a1
  unfold maxLen at k2
  unfold pkC at HM ⊢
  dsimp only at HM ⊢
  generalize x.m.ia = ia at *
  generalize x.m.ip = ip at *
  clear h hf he hc hblk hps hk hpr
  go_enter Try.func98, Try.ntmps98
  go_wp2_with fail
  refine (unhide (HC _ (((Below.refl _ _).alloc (Nat.le_refl _) _).alloc (by simp) _))).mono ?_
  rintro e w1 ⟨rfl, rfl⟩
  clear HC
  unfold ptrO ptrV
  go_upto_region 2 with fail
  go_big_quiet (fail)
  go_wp2_with fail
  refine (unhide (HP _ (below_drewN (((Below.refl _ _).alloc (Nat.le_refl _) _).alloc (by simp) _) _))).mono ?_
  rintro e w2 ⟨rfl, rfl⟩
  clear HP
  go_wp2_with fail
  refine (unhide (HM _ (below_drewN (((Below.refl _ _).alloc (Nat.le_refl _) _).alloc (by simp) _) _))).mono ?_
  rintro e w3 ⟨rfl, hb3⟩
  have hpk : w3.heap[w.heap.size]? = some (.cells (pkC ⟨tag, proto, out, sa, sp, da, dp, syn, fin, rst, err, qsa, qsp, qda, qdp⟩) 38 (0, 0)) := (hb3.block _ (by simp; omega)).trans (blkA (blkN _ _ _ rfl))
  have hrs : w3.heap[w.heap.size + 1]? = some (.cells (pkC pk0) 38 (0, 0)) := (hb3.block _ (by simp)).trans (blkN _ _ _ (by simp))
  obtain ⟨a0, a1', a2, a3, a4, a5, a6, a7, a8, a9, a10, a11, a12, a13, a14, az⟩ := pk_cells hpk
  obtain ⟨b0, b1, b2, b3, b4, b5, b6, b7, b8, b9, b10, b11, b12, b13, b14, bz⟩ := pk_cells hrs
  dsimp only [pk0] at *
  have hz : w.heap.size + 2 ≤ w3.heap.size := by have := hb3.size; simpa using this
  have HB : Hid (Below w.heap.size w w3) := (below_drewN (((Below.refl _ _).alloc (Nat.le_refl _) _).alloc (by simp) _) _).trans (hb3.mono (by simp; omega))
  have i2 := ((unhide HB).cell (p := ⟨x.g, 2, none⟩) mg).trans m2
  have i3 := ((unhide HB).cell (p := ⟨x.g, 3, none⟩) mg).trans m3
  clear hpk hrs hb3 HM
  go_wp2
  refine bodyPost_ret (v := .tuple #[.agg #[.int .i64 tag, .int .i64 proto, .bool out, .int .i64 sa, .int .i64 sp, .int .i64 ia, .int .i64 ip, .bool syn, .bool fin, .bool rst, .bool err, .int .i64 qsa, .int .i64 qsp, .int .i64 qda, .int .i64 qdp], .int .i64 0]) (by simp [results, Try.results98, go_sem, b0, b1, b2, b3, b4, b5, b6, b7, b8, b9, b10, b11, b12, b13, b14]) rfl ⟨rfl, ?_⟩
  repeat (refine Below.setCell ?_ (by simp) _)
  exact unhide HB
end

end Go.Proofs.Ytgpplekabohneaa
