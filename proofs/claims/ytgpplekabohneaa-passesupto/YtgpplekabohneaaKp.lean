/- 'out' of the document, case A1. -/
import Derived.Test.YtgpplekabohneaaXf
namespace Go.Proofs.Ytgpplekabohneaa
open Go.RowKit

section
variable {w : World} {S : Nat → Prop} {r : Nat} {tv lv : Value} {ts : List Ten} {L : List RCl}

set_option maxHeartbeats 4000000 in
set_option maxRecDepth 100000 in
theorem rout_A1 (h : RefR w S r tv lv ts L) {t : Nat} (ht : t < ts.length) (p : Pk) (hu : okT ts[t] = true) (hA : GoodT (absT ts[t] t L)) (hX : ∀ x ∈ L, okX x.m) (_hlen : L.length < 2000) (hpr3 : 1 ≤ p.proto ∧ p.proto ≤ 3) (hv1 : (L.find? (atI t p.proto p.sa p.sp)).isSome = true) (hv3 : p.da ≠ ts[t].outer) :
    Calls Try.prog 97 #[.pointer (some ⟨r, 0, none⟩), .int .i64 t, .agg (pkC p)] w fun e w' => RFin w S r tv ts L t (outF (absT ts[t] t L) p).1.maps (outF (absT ts[t] t L) p).2.1 (outF (absT ts[t] t L) p).2.2 e w' := by
  obtain ⟨tag, proto, out, sa, sp, da, dp, syn, fin, rst, err, qsa, qsp, qda, qdp⟩ := p
  dsimp only at hpr3 hv1 hv3
  obtain ⟨c0, c1, cz, hr⟩ := h.cells
  obtain ⟨b, cap, htv, k1, k2, hb, a0, a1, a2, a3⟩ := h.ten ht
  obtain ⟨T, hT⟩ : ∃ T, absT ts[t] t L = T := ⟨_, rfl⟩
  have hTm : T.maps = absM L t := by rw [← hT]; rfl
  have hT1 : T.outer = ts[t].outer := by rw [← hT]; rfl
  have hT2 : T.low = ts[t].low := by rw [← hT]; rfl
  have hT3 : T.high = ts[t].high := by rw [← hT]; rfl
  rw [hT] at hA
  rw [hT]
  have HC := fun W (hW : Below w.heap.size w W) => hide (byInside_any (h.new hW) t proto sa sp)
  obtain ⟨fo, hfo⟩ : ∃ fo, L.find? (atI t proto sa sp) = fo := ⟨_, rfl⟩
  rw [hfo] at HC
  rw [hfo] at hv1
  have HV1 := hide hv1
  have HFO := hide hfo
  clear hv1
  clear hfo
  have hus : 0 ≤ ts[t].low ∧ ts[t].low ≤ ts[t].high ∧ ts[t].high ≤ 65535 ∧ ts[t].high - ts[t].low < 64 := by
    unfold okT at hu
    have := of_decide_eq_true hu
    omega
  obtain ⟨u0, hu0⟩ : ∃ u0, ts[t].tag = u0 := ⟨_, rfl⟩
  obtain ⟨u1, hu1⟩ : ∃ u1, ts[t].outer = u1 := ⟨_, rfl⟩
  obtain ⟨u2, hu2⟩ : ∃ u2, ts[t].low = u2 := ⟨_, rfl⟩
  obtain ⟨u3, hu3⟩ : ∃ u3, ts[t].high = u3 := ⟨_, rfl⟩
  rw [hu0] at a0
  rw [hu1] at a1 hT1 hv3
  have HV3 := hide hv3
  clear hv3
  rw [hu2] at a2 hT2 hus
  rw [hu3] at a3 hT3 hus
  have HUS := hide (And.intro hu1 (And.intro hu2 hu3))
  clear hu hu0 hu1 hu2 hu3
  have HH := hide (And.intro h (And.intro hA (And.intro hX (And.intro hTm (And.intro hT1 (And.intro hT2 hT3))))))
  rw [htv] at c0
  have HTV := hide htv
  unfold maxLen at k2
  unfold pkC
  dsimp only
  clear h hA hX hT hTm hT1 hT2 hT3 htv
  go_enter Try.func97, Try.ntmps97
  go_wp2_with fail
  refine (unhide (HC _ ((((Below.refl _ _).alloc (Nat.le_refl _) _).alloc (by simp) _).alloc (by simp; omega) _))).mono ?_
  rintro e w1 ⟨rfl, hb1⟩
  have hpk : w1.heap[w.heap.size]? = some (.cells (pkC ⟨tag, proto, out, sa, sp, da, dp, syn, fin, rst, err, qsa, qsp, qda, qdp⟩) 38 (0, 0)) := (hb1.block _ (by simp; omega)).trans (blkA (blkA (blkN _ _ _ rfl)))
  have hrs : w1.heap[w.heap.size + 1]? = some (.cells (pkC pk0) 38 (0, 0)) := (hb1.block _ (by simp)).trans (blkA (blkN _ _ _ (by simp)))
  have hte : w1.heap[w.heap.size + 2]? = some (.cells #[.int .i64 u0, .int .i64 u1, .int .i64 u2, .int .i64 u3] 73 (0, 0)) := (hb1.block _ (by simp)).trans (blkN _ _ _ (by simp))
  have hz1 : w.heap.size + 3 ≤ w1.heap.size := by have := hb1.size; simpa using this
  have HB1 : Hid (Below w.heap.size w w1) := Below.trans ((((Below.refl _ _).alloc (Nat.le_refl _) _).alloc (by simp) _).alloc (by simp; omega) _) (hb1.mono (by simp; omega))
  have HK := hide (And.intro hpk (And.intro hrs hte))
  clear hb1 hpk hrs hte HC
  go_upto_region 3 with fail
  go_cut [26] from 25 to 25 (fun z wx => z = .bool fo.isNone ∧ wx = w1)
  case first =>
    cases fo
    · unfold ptrO
      go_wp2_with fail
      go_meet
      exact ⟨rfl, rfl⟩
    · unfold ptrO ptrV
      go_wp2_with fail
      go_meet
      exact ⟨rfl, rfl⟩
  case rest =>
  obtain ⟨rfl, hwc⟩ := hcut
  have hwc2 := hwc.symm
  subst hwc2
  clear hwc
  go_upto_if 26 with fail
  go_cut [9, 10] from 27 to 83 (fun sv _ wx => OutMid w S r tv ts L t T ⟨tag, proto, out, sa, sp, da, dp, syn, fin, rst, err, qsa, qsp, qda, qdp⟩ u0 u1 u2 u3 sv wx)
  case first =>
    have hSb := (unhide HH).1.bound
    cases fo with
    | some x =>
      dsimp only [ptrO, ptrV, Option.isNone]
      go_wp2_with fail
      go_meet
      obtain ⟨h, hA, hX, hTm, hT1, hT2, hT3⟩ := unhide HH
      have hf := unhide HFO
      have hk := List.find?_some hf
      simp only [atI, Bool.and_eq_true, beq_iff_eq] at hk
      have hxL := List.mem_of_find?_eq_some hf
      have hmem : x.m ∈ T.maps := by
        rw [hTm]
        exact List.mem_map.2 ⟨x, List.mem_filter.2 ⟨hxL, by simpa using hk.1⟩, rfl⟩
      refine ⟨x, L, lv, rfl, (h.new (unhide HB1)).mono (fun k hk => .inl hk) ?_, Fr.of_below (unhide HB1), hxL, hk.1, unhide HK, ?_, fun _ _ => rfl, by rw [← hTm]; exact hA.apart, hX, (hA.ok _ hmem).2.2.2.2.1, (isI_iff.1 hk.2).1⟩
      · rintro k (hk | hk)
        · have := hSb k hk
          omega
        · exact hk.2
      · have e1 : T.maps.find? (isI proto sa sp) = some x.m := by
          rw [hTm, ← find_abs (isI proto sa sp) t L]
          show (L.find? (atI t proto sa sp)).map (·.m) = _
          rw [hf]
          rfl
        show outF T ⟨tag, proto, out, sa, sp, da, dp, syn, fin, rst, err, qsa, qsp, qda, qdp⟩ = outW { T with maps := absM L t } x.m ⟨tag, proto, out, sa, sp, da, dp, syn, fin, rst, err, qsa, qsp, qda, qdp⟩
        rw [← hTm]
        unfold outF
        dsimp only
        rw [e1]
    | none => exact absurd (unhide HV1) (by simp)
  case rest =>
    obtain ⟨x, L1, lv1, rfl, hR, hFr, hxL, hxt, ⟨q1, q2, q3⟩, hout, hoth, hap, hox, hp4, hpr⟩ := hcut
    dsimp only at hpr
    have hxm := (hR.mem x hxL).1
    obtain ⟨-, -, -, -, -, -, -, -, -, -, xz, xg⟩ := ref_cells hxm.1
    have hxS : S x.g ∨ w.heap.size + 3 ≤ x.g := by
      rcases (hR.mem x hxL).2.1 with h1 | h1
      · exact .inl h1
      · exact .inr h1.1
    have hSb := (unhide HH).1.bound
    have hn0 : x.g ≠ w.heap.size := by
      rcases hxS with h1 | h1
      · have := hSb _ h1
        omega
      · omega
    have hn1 : x.g ≠ w.heap.size + 1 := by
      rcases hxS with h1 | h1
      · have := hSb _ h1
        omega
      · omega
    have hn2 : x.g ≠ w.heap.size + 2 := by
      rcases hxS with h1 | h1
      · have := hSb _ h1
        omega
      · omega
    have HU := hide (rused_any x.g x.t x.m x.sv da wc hxm hp4)
    rw [ruse_eq (hox x hxL).1] at HU
    have HQ := hide (And.intro q1 (And.intro q2 q3))
    have hzc : w.heap.size + 3 ≤ wc.heap.size := by have := (Array.getElem?_eq_some_iff.1 q3).1; omega
    obtain ⟨p0, p1, p2, p3, p4, p5, p6, p7, p8, p9, p10, p11, p12, p13, p14, pz⟩ := pk_cells q1
    dsimp only at p0 p1 p2 p3 p4 p5 p6 p7 p8 p9 p10 p11 p12 p13 p14
    have HR := hide (And.intro hR (And.intro hFr (And.intro hxL (And.intro hxt (And.intro hout (And.intro hoth (And.intro hap (And.intro hox hpr))))))))
    clear q1 q2 q3 hR hFr hxL hout hoth hap hox hp4 hpr hxm xz HB1 HK hxt hxS
    · skip
      go_wp2_with fail
      refine (unhide HU).mono ?_
      rintro e w4 ⟨rfl, sv', hB4, hP4, hS4, hF4⟩
      have q14 := hF4.some (unhide HQ).1 (fun e => hn0 e.symm)
      have q24 := hF4.some (unhide HQ).2.1 (fun e => hn1 e.symm)
      have q34 := hF4.some (unhide HQ).2.2 (fun e => hn2 e.symm)
      have HM := fun W (hW : W.heap[x.g]? = some (.cells (refC x.t { x.m with peers := useF x.m.peers da, idle := 0 } sv') 140 (0, 0))) => hide (rmarks_use x.g x.t x.m sv' ⟨tag, proto, out, sa, sp, da, dp, syn, fin, rst, err, qsa, qsp, qda, qdp⟩ W hW (unhide HR).2.2.2.2.2.2.2.2 ((unhide HR).2.2.2.2.2.2.2.1 x (unhide HR).2.2.1))
      obtain ⟨-, -, -, -, -, -, -, x7, -, -, xz, xg4⟩ := ref_cells hB4
      have f7 := xz 7
      clear p0 p1 p2 p3 p4 p5 p6 p7 p8 p9 p10 p11 p12 p13 p14 pz
      obtain ⟨p0, p1, p2, p3, p4, p5, p6, p7, p8, p9, p10, p11, p12, p13, p14, pz⟩ := pk_cells q14
      dsimp only at p0 p1 p2 p3 p4 p5 p6 p7 p8 p9 p10 p11 p12 p13 p14
      have hz4 : w.heap.size + 3 ≤ w4.heap.size := by have := hF4.size; omega
      have H4 := hide (And.intro hB4 (And.intro hP4 (And.intro hS4 (And.intro hF4 (And.intro q14 (And.intro q24 q34))))))
      unfold pkC at HM
      dsimp only at HM
      clear HU hB4 hP4 hS4 hF4 q14 q24 q34 HQ xz
      go_wp2_with fail
      refine (unhide (HM _ (setB (unhide H4).1 _ _))).mono ?_
      rintro e w6 ⟨rfl, hB6, hF6⟩
      clear HM
      have e0 : ∀ k o, k ≠ x.g → w4.heap[k]? = some o → w6.heap[k]? = some o := fun k o hk ho => hF6.some ((Below.heap_setCell _ _ _ _ hk).trans ho) hk
      have q16 := e0 _ _ (fun e => hn0 e.symm) (unhide H4).2.2.2.2.1
      have q26 := e0 _ _ (fun e => hn1 e.symm) (unhide H4).2.2.2.2.2.1
      have q36 := e0 _ _ (fun e => hn2 e.symm) (unhide H4).2.2.2.2.2.2
      have hz6 : w.heap.size + 3 ≤ w6.heap.size := by have := (Array.getElem?_eq_some_iff.1 q36).1; omega
      obtain ⟨-, -, -, -, x4, -, -, -, -, -, -, xg6⟩ := ref_cells hB6
      have hport : (useM x.m ⟨tag, proto, out, sa, sp, da, dp, syn, fin, rst, err, qsa, qsp, qda, qdp⟩).port = x.m.port := (useM_same x.m ⟨tag, proto, out, sa, sp, da, dp, syn, fin, rst, err, qsa, qsp, qda, qdp⟩).2.2.2
      rw [hport] at x4
      have hFc : Fr (fun k => k = x.g) wc w6 := (unhide H4).2.2.2.1.trans (Fr.trans (Fr.refl _ _).setG hF6)
      have hsvb : ∀ b', sliceBlk sv' = some b' → wc.heap.size ≤ b' ∧ b' < w6.heap.size ∧ b' ≠ x.g := fun b' hb' => by
        have h1 := (unhide H4).2.2.1 b' hb'
        obtain ⟨ao, cap', hsv, -, -, hc'⟩ := (unhide H4).2.1
        have hlen' : 0 < (useF x.m.peers da).length := List.length_pos_of_mem (useF_has _ _)
        obtain ⟨b2, off2, rfl, hb2, -⟩ := hc' hlen'
        rw [hsv] at hb'
        have : b2 = b' := by simpa [sliceBlk] using hb'
        subst this
        have := hF6.size
        simp at this
        exact ⟨h1, by omega, by omega⟩
      have hPS : PeerS w6 sv' (useM x.m ⟨tag, proto, out, sa, sp, da, dp, syn, fin, rst, err, qsa, qsp, qda, qdp⟩).peers := by
        rw [useM_peers]
        exact (unhide H4).2.1.keep (by have := hF6.size; simpa using this) (fun b' hb' hl => (hF6.block b' (by simpa using hl) (hsvb b' hb').2.2).trans (Below.heap_setCell _ _ _ _ (hsvb b' hb').2.2))
      have hR6 := (unhide HR).1.upd (unhide HR).2.2.1 hB6 hPS (fun b' hb' => ⟨.inr (hsvb b' hb').1, (hsvb b' hb').2.1, fun e => by
        have h1 := (hsvb b' hb').1
        have h2 := (unhide HR).1.bound _ (unhide HR).1.sr
        omega, fun e => by
        have h1 := (hsvb b' hb').1
        have h2 := (unhide HR).1.bound _ ((unhide HR).1.lS _ e)
        omega, fun y hy e => by
        have h1 := (hsvb b' hb').1
        have h2 := (unhide HR).1.bound _ ((unhide HR).1.mem y hy).2.1
        omega⟩) hFc
      have hFw : Fr S w w6 := (unhide HR).2.1.trans' hFc (fun k hk hl => by
        subst hk
        rcases ((unhide HR).1.mem x (unhide HR).2.2.1).2.1 with h1 | h1
        · exact h1
        · omega)
      clear p0 p1 p2 p3 p4 p5 p6 p7 p8 p9 p10 p11 p12 p13 p14 pz x7 f7
      obtain ⟨p0, p1, p2, p3, p4, p5, p6, p7, p8, p9, p10, p11, p12, p13, p14, pz⟩ := pk_cells q16
      dsimp only at p0 p1 p2 p3 p4 p5 p6 p7 p8 p9 p10 p11 p12 p13 p14
      obtain ⟨b0, b1, b2, b3, b4, b5, b6, b7, b8, b9, b10, b11, b12, b13, b14, bz⟩ := pk_cells q26
      dsimp only [pk0] at b0 b1 b2 b3 b4 b5 b6 b7 b8 b9 b10 b11 b12 b13 b14
      have t1 := cellOf q36 1
      have t1' : w6.cell? ⟨w.heap.size + 2, 1, none⟩ = some (.int .i64 u1) := t1
      have H6 := hide (And.intro hR6 (And.intro hFw (And.intro q16 (And.intro q26 hPS))))
      clear hR6 hFw q16 q26 q36 hPS hsvb hFc hB6 hF6 H4 e0 t1 hport
      obtain ⟨pt, hpt⟩ : ∃ pt, x.m.port = pt := ⟨_, rfl⟩
      rw [hpt] at x4
      have hne2 : ∀ k, (fun k => S k ∨ (w.heap.size + 3 ≤ k ∧ k < w6.heap.size)) k → ¬ (k = w.heap.size ∨ k = w.heap.size + 1) := fun k hk => by
        rcases hk with hk | hk
        · have := hSb k hk
          omega
        · omega
      have HR6 : Hid (RefR w6 (fun k => S k ∨ (w.heap.size + 3 ≤ k ∧ k < w6.heap.size)) r tv lv1 ts (updL L1 x.g sv' (useM x.m ⟨tag, proto, out, sa, sp, da, dp, syn, fin, rst, err, qsa, qsp, qda, qdp⟩))) := by
        refine (unhide H6).1.mono (fun k hk => ?_) (fun k hk => ?_)
        · rcases hk with (hk | hk) | hk
          · exact .inl hk
          · exact .inr ⟨hk.1, by have := (unhide H6).1.bound k (.inl (.inr hk)); omega⟩
          · exact .inr ⟨by omega, hk.2⟩
        · rcases hk with hk | hk
          · have := hSb k hk
            omega
          · exact hk.2
      have HFw := hide (unhide H6).2.1
      have HN2 := hide hne2
      have habs : absM (updL L1 x.g sv' (useM x.m ⟨tag, proto, out, sa, sp, da, dp, syn, fin, rst, err, qsa, qsp, qda, qdp⟩)) t = setM (absM L1 t) (useM x.m ⟨tag, proto, out, sa, sp, da, dp, syn, fin, rst, err, qsa, qsp, qda, qdp⟩) := by
        have h1 := (unhide HR)
        have h2 := absM_upd h1.2.2.1 h1.1.apart (by rw [h1.2.2.2.1]; exact h1.2.2.2.2.2.2.1) (m := useM x.m ⟨tag, proto, out, sa, sp, da, dp, syn, fin, rst, err, qsa, qsp, qda, qdp⟩) (useM_same _ _) sv'
        rw [h1.2.2.2.1] at h2
        exact h2
      have habs2 : ∀ j, j ≠ t → absM (updL L1 x.g sv' (useM x.m ⟨tag, proto, out, sa, sp, da, dp, syn, fin, rst, err, qsa, qsp, qda, qdp⟩)) j = absM L j := fun j hj => by
        have h1 := (unhide HR)
        exact (absM_upd_ne h1.2.2.1 h1.1.apart _ _ (by rw [h1.2.2.2.1]; exact hj)).trans (h1.2.2.2.2.2.1 j hj)
      have HAB := hide (And.intro habs habs2)
      have HQ6 := hide (And.intro (unhide H6).2.2.1 (unhide H6).2.2.2.1)
      clear hne2 habs habs2 H6
      have hd := unhide HV3
      have hd2 : (da == u1) = false := by simpa using hd
      have hd3 : (da != u1) = true := by simpa using hd
      have HO : Hid (outF T ⟨tag, proto, out, sa, sp, da, dp, syn, fin, rst, err, qsa, qsp, qda, qdp⟩ = ({ T with maps := setM (absM L1 t) (useM x.m ⟨tag, proto, out, sa, sp, da, dp, syn, fin, rst, err, qsa, qsp, qda, qdp⟩) }, ⟨tag, proto, out, u1, pt, da, dp, syn, fin, rst, err, qsa, qsp, qda, qdp⟩, 0)) := by
        rw [(unhide HR).2.2.2.2.1]
        unfold outW
        rw [if_neg (by show ¬ da = T.outer; rw [(unhide HH).2.2.2.2.1]; exact hd)]
        show (_, (⟨tag, proto, out, T.outer, x.m.port, da, dp, syn, fin, rst, err, qsa, qsp, qda, qdp⟩ : Pk), (0 : Int)) = _
        rw [(unhide HH).2.2.2.2.1, hpt]
      · skip
        go_wp2_with fail
        go_region
        go_wp2
        refine bodyPost_ret (v := .tuple #[.agg #[.int .i64 tag, .int .i64 proto, .bool out, .int .i64 u1, .int .i64 pt, .int .i64 da, .int .i64 dp, .bool syn, .bool fin, .bool rst, .bool err, .int .i64 qsa, .int .i64 qsp, .int .i64 qda, .int .i64 qdp], .int .i64 0]) (by simp [results, Try.results97, go_sem, b0, b1, b2, b3, b4, b5, b6, b7, b8, b9, b10, b11, b12, b13, b14]) rfl ?_
        rw [unhide HO]
        refine ⟨⟨tag, proto, out, u1, pt, da, dp, syn, fin, rst, err, qsa, qsp, qda, qdp⟩, _, lv1, rfl, ?_, ?_, (unhide HAB).1, (unhide HAB).2, fun _ => rfl⟩
        · refine ((unhide HR6).keep (X := fun k => k = w.heap.size ∨ k = w.heap.size + 1) ?_ (unhide HN2)).mono ?_ ?_
          · exact Fr.drew (Fr.setR (Fr.setR (Fr.setR (Fr.setR (Fr.setR (Fr.setR (Fr.setR (Fr.setR (Fr.setR (Fr.setR (Fr.setR (Fr.setR (Fr.setR (Fr.setR (Fr.setR (Fr.setL (Fr.setL (Fr.refl _ _))))))))))))))))))
          · rintro k (hk | hk)
            · exact .inl hk
            · exact .inr ⟨by omega, by simpa using hk.2⟩
          · rintro k (hk | hk)
            · have := hSb k hk
              simp
              omega
            · exact hk.2
        · refine (unhide HFw).trans' (Y := fun k => k = w.heap.size ∨ k = w.heap.size + 1) ?_ (fun k hk hl => by omega)
          exact Fr.drew (Fr.setR (Fr.setR (Fr.setR (Fr.setR (Fr.setR (Fr.setR (Fr.setR (Fr.setR (Fr.setR (Fr.setR (Fr.setR (Fr.setR (Fr.setR (Fr.setR (Fr.setR (Fr.setL (Fr.setL (Fr.refl _ _))))))))))))))))))

end

end Go.Proofs.Ytgpplekabohneaa
