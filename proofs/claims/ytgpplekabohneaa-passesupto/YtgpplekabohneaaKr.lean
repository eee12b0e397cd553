/- 'out' of the document, case B. -/
import Derived.Test.YtgpplekabohneaaXf
namespace Go.Proofs.Ytgpplekabohneaa
open Go.RowKit

section
variable {w : World} {S : Nat → Prop} {r : Nat} {tv lv : Value} {ts : List Ten} {L : List RCl}

set_option maxHeartbeats 4000000 in
set_option maxRecDepth 100000 in
theorem rout_B (h : RefR w S r tv lv ts L) {t : Nat} (ht : t < ts.length) (p : Pk) (hu : okT ts[t] = true) (hA : GoodT (absT ts[t] t L)) (hX : ∀ x ∈ L, okX x.m) (_hlen : L.length < 2000) (hpr3 : 1 ≤ p.proto ∧ p.proto ≤ 3) (hv1 : (L.find? (atI t p.proto p.sa p.sp)).isSome = false) (hv2 : p.proto = 2 ∧ p.syn = false) :
    Calls Try.prog 97 #[.pointer (some ⟨r, 0, none⟩), .int .i64 t, .agg (pkC p)] w fun e w' => RFin w S r tv ts L t (outF (absT ts[t] t L) p).1.maps (outF (absT ts[t] t L) p).2.1 (outF (absT ts[t] t L) p).2.2 e w' := by
  obtain ⟨tag, proto, out, sa, sp, da, dp, syn, fin, rst, err, qsa, qsp, qda, qdp⟩ := p
  dsimp only at hpr3 hv1 hv2
  have HV2 := hide hv2
  clear hv2
  obtain ⟨c0, c1, cz, hr⟩ := h.cells
  obtain ⟨b, cap, htv, k1, k2, hb, a0, a1, a2, a3⟩ := h.ten ht
  obtain ⟨T, hT⟩ : ∃ T, absT ts[t] t L = T := ⟨_, rfl⟩
  have hTm : T.maps = absM L t := by rw [← hT]; rfl
  have hT1 : T.outer = ts[t].outer := by rw [← hT]; rfl
  have hT2 : T.low = ts[t].low := by rw [← hT]; rfl
  have hT3 : T.high = ts[t].high := by rw [← hT]; rfl
  rw [hT] at hA
  rw [hT]
  have HC := fun W (hW : Below w.heap.size w W) => hide (byInside_any (h.new hW) t proto sa sp)
  obtain ⟨fo, hfo⟩ : ∃ fo, L.find? (atI t proto sa sp) = fo := ⟨_, rfl⟩
  rw [hfo] at HC
  rw [hfo] at hv1
  have HV1 := hide hv1
  have HFO := hide hfo
  clear hv1
  clear hfo
  have hus : 0 ≤ ts[t].low ∧ ts[t].low ≤ ts[t].high ∧ ts[t].high ≤ 65535 ∧ ts[t].high - ts[t].low < 64 := by
    unfold okT at hu
    have := of_decide_eq_true hu
    omega
  obtain ⟨u0, hu0⟩ : ∃ u0, ts[t].tag = u0 := ⟨_, rfl⟩
  obtain ⟨u1, hu1⟩ : ∃ u1, ts[t].outer = u1 := ⟨_, rfl⟩
  obtain ⟨u2, hu2⟩ : ∃ u2, ts[t].low = u2 := ⟨_, rfl⟩
  obtain ⟨u3, hu3⟩ : ∃ u3, ts[t].high = u3 := ⟨_, rfl⟩
  rw [hu0] at a0
  rw [hu1] at a1 hT1
  rw [hu2] at a2 hT2 hus
  rw [hu3] at a3 hT3 hus
  have HUS := hide (And.intro hu1 (And.intro hu2 hu3))
  clear hu hu0 hu1 hu2 hu3
  have HH := hide (And.intro h (And.intro hA (And.intro hX (And.intro hTm (And.intro hT1 (And.intro hT2 hT3))))))
  rw [htv] at c0
  have HTV := hide htv
  unfold maxLen at k2
  unfold pkC
  dsimp only
  clear h hA hX hT hTm hT1 hT2 hT3 htv
  go_enter Try.func97, Try.ntmps97
  go_wp2_with fail
  refine (unhide (HC _ ((((Below.refl _ _).alloc (Nat.le_refl _) _).alloc (by simp) _).alloc (by simp; omega) _))).mono ?_
  rintro e w1 ⟨rfl, hb1⟩
  have hpk : w1.heap[w.heap.size]? = some (.cells (pkC ⟨tag, proto, out, sa, sp, da, dp, syn, fin, rst, err, qsa, qsp, qda, qdp⟩) 38 (0, 0)) := (hb1.block _ (by simp; omega)).trans (blkA (blkA (blkN _ _ _ rfl)))
  have hrs : w1.heap[w.heap.size + 1]? = some (.cells (pkC pk0) 38 (0, 0)) := (hb1.block _ (by simp)).trans (blkA (blkN _ _ _ (by simp)))
  have hte : w1.heap[w.heap.size + 2]? = some (.cells #[.int .i64 u0, .int .i64 u1, .int .i64 u2, .int .i64 u3] 73 (0, 0)) := (hb1.block _ (by simp)).trans (blkN _ _ _ (by simp))
  have hz1 : w.heap.size + 3 ≤ w1.heap.size := by have := hb1.size; simpa using this
  have HB1 : Hid (Below w.heap.size w w1) := Below.trans ((((Below.refl _ _).alloc (Nat.le_refl _) _).alloc (by simp) _).alloc (by simp; omega) _) (hb1.mono (by simp; omega))
  have HK := hide (And.intro hpk (And.intro hrs hte))
  clear hb1 hpk hrs hte HC
  go_upto_region 3 with fail
  go_cut [26] from 25 to 25 (fun z wx => z = .bool fo.isNone ∧ wx = w1)
  case first =>
    cases fo
    · unfold ptrO
      go_wp2_with fail
      go_meet
      exact ⟨rfl, rfl⟩
    · unfold ptrO ptrV
      go_wp2_with fail
      go_meet
      exact ⟨rfl, rfl⟩
  case rest =>
  obtain ⟨rfl, hwc⟩ := hcut
  have hwc2 := hwc.symm
  subst hwc2
  clear hwc
  go_upto_if 26 with fail
  have hSb := (unhide HH).1.bound
  cases fo with
  | some x => exact absurd (unhide HV1) (by simp)
  | none =>
    dsimp only [ptrO, Option.isNone]
    have hfn : T.maps.find? (isI proto sa sp) = none := by
      rw [(unhide HH).2.2.2.1, ← find_abs (isI proto sa sp) t L]
      show (L.find? (atI t proto sa sp)).map (·.m) = _
      rw [unhide HFO]
      rfl
    have HFN := hide hfn
    have hl0 : w.heap.size < w1.heap.size := by omega
    have hl1 : w.heap.size + 1 < w1.heap.size := by omega
    have hl2 : w.heap.size + 1 + 1 < w1.heap.size := by omega
    clear hfn HFO
    obtain ⟨p0, p1, p2, p3, p4, p5, p6, p7, p8, p9, p10, p11, p12, p13, p14, pz⟩ := pk_cells (unhide HK).1
    dsimp only at p0 p1 p2 p3 p4 p5 p6 p7 p8 p9 p10 p11 p12 p13 p14
    have hst := unhide HV2
    clear HV2
    obtain ⟨rfl, rfl⟩ := hst
    obtain ⟨b0, b1, b2, b3, b4, b5, b6, b7, b8, b9, b10, b11, b12, b13, b14, bz⟩ := pk_cells (unhide HK).2.1
    dsimp only [pk0] at b0 b1 b2 b3 b4 b5 b6 b7 b8 b9 b10 b11 b12 b13 b14
    have hl2 : w.heap.size + 1 < w1.heap.size := by omega
    go_wp2
    refine bodyPost_ret (v := .tuple #[.agg #[.int .i64 tag, .int .i64 2, .bool out, .int .i64 sa, .int .i64 sp, .int .i64 da, .int .i64 dp, .bool false, .bool fin, .bool rst, .bool err, .int .i64 qsa, .int .i64 qsp, .int .i64 qda, .int .i64 qdp], .int .i64 2]) (by simp [results, Try.results97, go_sem, b0, b1, b2, b3, b4, b5, b6, b7, b8, b9, b10, b11, b12, b13, b14]) rfl ?_
    have hO : outF T ⟨tag, 2, out, sa, sp, da, dp, false, fin, rst, err, qsa, qsp, qda, qdp⟩ = (T, pk0, 2) := by
      unfold outF
      dsimp only
      rw [unhide HFN]
      rfl
    rw [hO]
    dsimp only
    rw [(unhide HH).2.2.2.1]
    refine (unhide HH).1.same ?_ t ⟨tag, 2, out, sa, sp, da, dp, false, fin, rst, err, qsa, qsp, qda, qdp⟩ _ 2 (fun h0 => by cases h0)
    repeat (refine Below.setCell ?_ (by simp) _)
    exact unhide HB1

end

end Go.Proofs.Ytgpplekabohneaa
