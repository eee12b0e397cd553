/- 'out' of the document, case D2. -/
import Derived.Test.YtgpplekabohneaaXf
namespace Go.Proofs.Ytgpplekabohneaa
open Go.RowKit

section
variable {w : World} {S : Nat → Prop} {r : Nat} {tv lv : Value} {ts : List Ten} {L : List RCl}

set_option maxHeartbeats 4000000 in
set_option maxRecDepth 100000 in
theorem rout_D2 (h : RefR w S r tv lv ts L) {t : Nat} (ht : t < ts.length) (p : Pk) (hu : okT ts[t] = true) (hA : GoodT (absT ts[t] t L)) (hX : ∀ x ∈ L, okX x.m) (hlen : L.length < 2000) (hpr3 : 1 ≤ p.proto ∧ p.proto ≤ 3) (hv1 : (L.find? (atI t p.proto p.sa p.sp)).isSome = false) (hv2 : ¬ (p.proto = 2 ∧ p.syn = false)) (hv3 : p.da = ts[t].outer) (hv4 : freeF (absT ts[t] t L).maps p.proto (ts[t].high + 1 - ts[t].low).toNat ts[t].low ≠ none) :
    Calls Try.prog 97 #[.pointer (some ⟨r, 0, none⟩), .int .i64 t, .agg (pkC p)] w fun e w' => RFin w S r tv ts L t (outF (absT ts[t] t L) p).1.maps (outF (absT ts[t] t L) p).2.1 (outF (absT ts[t] t L) p).2.2 e w' := by
  obtain ⟨tag, proto, out, sa, sp, da, dp, syn, fin, rst, err, qsa, qsp, qda, qdp⟩ := p
  dsimp only at hpr3 hv1 hv2 hv3 hv4
  obtain ⟨c0, c1, cz, hr⟩ := h.cells
  obtain ⟨b, cap, htv, k1, k2, hb, a0, a1, a2, a3⟩ := h.ten ht
  obtain ⟨T, hT⟩ : ∃ T, absT ts[t] t L = T := ⟨_, rfl⟩
  have hTm : T.maps = absM L t := by rw [← hT]; rfl
  have hT1 : T.outer = ts[t].outer := by rw [← hT]; rfl
  have hT2 : T.low = ts[t].low := by rw [← hT]; rfl
  have hT3 : T.high = ts[t].high := by rw [← hT]; rfl
  rw [hT] at hA hv4
  rw [hT]
  have HC := fun W (hW : Below w.heap.size w W) => hide (byInside_any (h.new hW) t proto sa sp)
  obtain ⟨fo, hfo⟩ : ∃ fo, L.find? (atI t proto sa sp) = fo := ⟨_, rfl⟩
  rw [hfo] at HC
  rw [hfo] at hv1
  have HV1 := hide hv1
  have HFO := hide hfo
  clear hv1
  clear hfo
  have hus : 0 ≤ ts[t].low ∧ ts[t].low ≤ ts[t].high ∧ ts[t].high ≤ 65535 ∧ ts[t].high - ts[t].low < 64 := by
    unfold okT at hu
    have := of_decide_eq_true hu
    omega
  obtain ⟨u0, hu0⟩ : ∃ u0, ts[t].tag = u0 := ⟨_, rfl⟩
  obtain ⟨u1, hu1⟩ : ∃ u1, ts[t].outer = u1 := ⟨_, rfl⟩
  obtain ⟨u2, hu2⟩ : ∃ u2, ts[t].low = u2 := ⟨_, rfl⟩
  obtain ⟨u3, hu3⟩ : ∃ u3, ts[t].high = u3 := ⟨_, rfl⟩
  rw [hu0] at a0
  rw [hu1] at a1 hT1 hv3
  have HV3 := hide hv3
  clear hv3
  rw [hu2] at a2 hT2 hus
  rw [hu3] at a3 hT3 hus
  rw [hu2, hu3] at hv4
  have HV4 := hide hv4
  clear hv4
  have HUS := hide (And.intro hu1 (And.intro hu2 hu3))
  clear hu hu0 hu1 hu2 hu3
  have HH := hide (And.intro h (And.intro hA (And.intro hX (And.intro hTm (And.intro hT1 (And.intro hT2 hT3))))))
  rw [htv] at c0
  have HTV := hide htv
  unfold maxLen at k2
  unfold pkC
  dsimp only
  clear h hA hX hT hTm hT1 hT2 hT3 htv
  go_enter Try.func97, Try.ntmps97
  go_wp2_with fail
  refine (unhide (HC _ ((((Below.refl _ _).alloc (Nat.le_refl _) _).alloc (by simp) _).alloc (by simp; omega) _))).mono ?_
  rintro e w1 ⟨rfl, hb1⟩
  have hpk : w1.heap[w.heap.size]? = some (.cells (pkC ⟨tag, proto, out, sa, sp, da, dp, syn, fin, rst, err, qsa, qsp, qda, qdp⟩) 38 (0, 0)) := (hb1.block _ (by simp; omega)).trans (blkA (blkA (blkN _ _ _ rfl)))
  have hrs : w1.heap[w.heap.size + 1]? = some (.cells (pkC pk0) 38 (0, 0)) := (hb1.block _ (by simp)).trans (blkA (blkN _ _ _ (by simp)))
  have hte : w1.heap[w.heap.size + 2]? = some (.cells #[.int .i64 u0, .int .i64 u1, .int .i64 u2, .int .i64 u3] 73 (0, 0)) := (hb1.block _ (by simp)).trans (blkN _ _ _ (by simp))
  have hz1 : w.heap.size + 3 ≤ w1.heap.size := by have := hb1.size; simpa using this
  have HB1 : Hid (Below w.heap.size w w1) := Below.trans ((((Below.refl _ _).alloc (Nat.le_refl _) _).alloc (by simp) _).alloc (by simp; omega) _) (hb1.mono (by simp; omega))
  have HK := hide (And.intro hpk (And.intro hrs hte))
  clear hb1 hpk hrs hte HC
  go_upto_region 3 with fail
  go_cut [26] from 25 to 25 (fun z wx => z = .bool fo.isNone ∧ wx = w1)
  case first =>
    cases fo
    · unfold ptrO
      go_wp2_with fail
      go_meet
      exact ⟨rfl, rfl⟩
    · unfold ptrO ptrV
      go_wp2_with fail
      go_meet
      exact ⟨rfl, rfl⟩
  case rest =>
  obtain ⟨rfl, hwc⟩ := hcut
  have hwc2 := hwc.symm
  subst hwc2
  clear hwc
  go_upto_if 26 with fail
  go_cut [9, 10] from 27 to 83 (fun sv _ wx => OutMid w S r tv ts L t T ⟨tag, proto, out, sa, sp, da, dp, syn, fin, rst, err, qsa, qsp, qda, qdp⟩ u0 u1 u2 u3 sv wx)
  case first =>
    have hSb := (unhide HH).1.bound
    cases fo with
    | some x => exact absurd (unhide HV1) (by simp)
    | none =>
      dsimp only [ptrO, Option.isNone]
      have hfn : T.maps.find? (isI proto sa sp) = none := by
        rw [(unhide HH).2.2.2.1, ← find_abs (isI proto sa sp) t L]
        show (L.find? (atI t proto sa sp)).map (·.m) = _
        rw [unhide HFO]
        rfl
      have HFN := hide hfn
      have hl0 : w.heap.size < w1.heap.size := by omega
      have hl1 : w.heap.size + 1 < w1.heap.size := by omega
      have hl2 : w.heap.size + 1 + 1 < w1.heap.size := by omega
      clear hfn HFO
      obtain ⟨p0, p1, p2, p3, p4, p5, p6, p7, p8, p9, p10, p11, p12, p13, p14, pz⟩ := pk_cells (unhide HK).1
      dsimp only at p0 p1 p2 p3 p4 p5 p6 p7 p8 p9 p10 p11 p12 p13 p14
      have hst := hv2
      have HNS := hide hst
      go_upto_region 4 with fail
      go_cut [34] from 27 to 33 (fun z wx => z = .bool false ∧ wx = w1)
      case first =>
        by_cases h2 : proto = 2
        · subst h2
          have hs : syn = true := by
            cases syn
            · exact absurd ⟨rfl, rfl⟩ hst
            · rfl
          subst hs
          go_wp2_with fail
          go_meet
          exact ⟨rfl, rfl⟩
        · have h2b : (proto == 2) = false := by simpa using h2
          go_wp2_with fail
          go_meet
          exact ⟨rfl, rfl⟩
      case rest =>
        obtain ⟨rfl, hwc⟩ := hcut
        have hwc2 := hwc.symm
        subst hwc2
        clear hwc hst
        have tt2 : w1.cell? ⟨w.heap.size + 2, 2, none⟩ = some (.int .i64 u2) := cellOf (unhide HK).2.2 2
        have tt3 : w1.cell? ⟨w.heap.size + 2, 3, none⟩ = some (.int .i64 u3) := cellOf (unhide HK).2.2 3
        obtain ⟨n, hn⟩ : ∃ n : Nat, (u3 + 1 - u2).toNat = n := ⟨_, rfl⟩
        have hnn : (n : Int) = u3 + 1 - u2 := by omega
        have HC := fun (z : Int) => hide (byPort_any ((unhide HH).1.new (unhide HB1)) t proto z)
        have HFA : Hid (∀ z, T.maps.find? (isP proto z) = (L.find? (atP t proto z)).map (·.m)) := fun z => by
          rw [(unhide HH).2.2.2.1, ← find_abs (isP proto z) t L]
          rfl
        go_wp2_with fail
        go_loopg [10] n (fun k i wr => ∃ j : Nat, j ≤ n ∧ k = n - j ∧ i = .int .i64 (u2 + j) ∧ wr = w1 ∧ freeF T.maps proto (n - j) (u2 + j) = freeF T.maps proto n u2)
        case atStart => exact ⟨0, Nat.zero_le _, by omega, by simp, rfl, by simp⟩
        case round =>
          obtain ⟨j, hj, hk, rfl, hwr, hfr⟩ := hrel
          have hwr2 := hwr.symm
          subst hwr2
          have HKK := hide hk
          have HFR := hide hfr
          clear hwr hk hfr
          obtain ⟨po, hpo⟩ : ∃ po, u2 + (j : Int) = po := ⟨_, rfl⟩
          rw [hpo]
          by_cases hlt : j < n
          · have hle : decide (po ≤ u3) = true := decide_eq_true (by omega)
            have HC2 := HC po
            rcases hb : L.find? (atP t proto po) with _ | y
            rotate_left
            · rw [hb] at HC2
              have HF2 : Hid (freeF T.maps proto (n - (j + 1)) (u2 + ((j + 1 : Nat) : Int)) = freeF T.maps proto n u2) := by
                have h1 := unhide HFR
                rw [show n - j = (n - (j + 1)) + 1 by omega, freeF, hpo, unhide HFA po, hb] at h1
                rw [show u2 + ((j + 1 : Nat) : Int) = po + 1 by omega]
                exact h1
              clear HC hb HFR
              as_aux_lemma =>
                go_wp2_with (go_at_call 93; refine (unhide HC2).mono ?_; rintro e w' ⟨rfl, hw⟩; symm at hw; subst hw; unfold ptrO ptrV)
                go_roundg (n - (j + 1))
                case measure => have := unhide HKK; omega
                case rel => exact ⟨j + 1, by omega, rfl, by rw [show u2 + ((j + 1 : Nat) : Int) = po + 1 by omega], rfl, unhide HF2⟩
            · rw [hb] at HC2
              have HF2 : Hid (freeF T.maps proto n u2 = some po) := by
                have h1 := unhide HFR
                rw [show n - j = (n - (j + 1)) + 1 by omega, freeF, hpo, unhide HFA po, hb] at h1
                exact h1.symm
              have hgt : decide (u3 < po) = false := decide_eq_false (by omega)
              clear HC hb HFR
              obtain ⟨i0, hi, hz0, hz1, hz2⟩ := info_parts info138
              have HI := hide (And.intro hi (And.intro hz0 (And.intro hz1 hz2)))
              obtain ⟨st, hst2⟩ : ∃ st : Int, (if proto = 2 then (1 : Int) else 0) = st := ⟨_, rfl⟩
              have HST := hide hst2
              clear hi hz0 hz1 hz2 hst2
              go_upto_if 69 with (first
                | refine wpList_b52 rfl _ _ _ rfl _ _ _ _ rfl rfl rfl ?_
                | refine wpList_b140 rfl _ _ rfl _ _ _ _ _ rfl rfl ?_
                | (go_at_call 93; refine (unhide HC2).mono ?_; rintro e w' ⟨rfl, hw⟩; symm at hw; subst hw; unfold ptrO))
              go_cut [] from 70 to 73 (fun wx => wx = w1.alloc (.cells #[.int .i64 t, .int .i64 proto, .int .i64 sa, .int .i64 sp, .int .i64 po, .slice none 0 0, .int .i64 st, .int .i64 0, .bool false, .bool false] 140))
              case first =>
                by_cases h2 : proto = 2
                · subst h2
                  have e1 : st = 1 := (unhide HST).symm.trans (by simp)
                  subst e1
                  go_wp2_with fail
                  go_meet
                  rfl
                · have h2b : (proto == 2) = false := by simpa using h2
                  have e1 : st = 0 := (unhide HST).symm.trans (by simp [h2])
                  subst e1
                  go_wp2_with fail
                  go_meet
                  rfl
              case rest =>
                subst hcut
                have hst2 := unhide HST
                have hFW : Fr (fun k => k = w1.heap.size) w1 (w1.alloc (.cells #[.int .i64 t, .int .i64 proto, .int .i64 sa, .int .i64 sp, .int .i64 po, .slice none 0 0, .int .i64 st, .int .i64 0, .bool false, .bool false] 140)) := (Fr.refl _ _).alloc _
                have hRW := (((unhide HH).1.new (unhide HB1)).keep hFW (fun k hk e => by have := hSb k hk; omega))
                have hXW : (w1.alloc (.cells #[.int .i64 t, .int .i64 proto, .int .i64 sa, .int .i64 sp, .int .i64 po, .slice none 0 0, .int .i64 st, .int .i64 0, .bool false, .bool false] 140)).heap[w1.heap.size]? = some (.cells (refC t (newM proto sa sp po) (.slice none 0 0)) 140 (0, 0)) := by
                  have h0 : (w1.alloc (.cells #[.int .i64 t, .int .i64 proto, .int .i64 sa, .int .i64 sp, .int .i64 po, .slice none 0 0, .int .i64 st, .int .i64 0, .bool false, .bool false] 140)).heap[w1.heap.size]? = _ := blkN _ _ _ rfl
                  rw [h0]
                  simp [refC, newM, hst2]
                have HRW := hide hRW
                have HXW := hide (And.intro hFW hXW)
                have c11 := ((unhide HB1).cell (p := ⟨r, 1, none⟩) hr).trans c1
                have hr1 : r < w1.heap.size := by omega
                clear hFW hRW hXW
                go_wp2_with (first
                  | (at_builtin; go_loud (refine wpList_append_x _ rfl _ _ 135 rfl 0 138 i0 _ 1 8 Try.underlying135 (unhide HI).1 (unhide HI).2.1 (unhide HI).2.2.1 (unhide HI).2.2.2 rfl (by decide) lv L.length (L.map fun x : RCl => ptrV x.g) rfl ((unhide HRW).rows.alloc _) ⟨w1.heap.size + 1, 0, none⟩ 1 1 [.pointer (some ⟨w1.heap.size, 0, none⟩)] rfl rfl (World.news_of_block (by exact blkN _ _ _ (by simp))) (by simp [Value.oneCell']) (by omega) (by unfold maxLen; omega) (by omega) (by simp) ?_; intro g5 cap5 w5 hO5 hG5; have hr5 := (unhide HRW).appR hG5; have c15 : w5.cell? ⟨r, 1, none⟩ = some lv := cellOf hr5 1; have f15 : w5.frozen? ⟨r, 1, none⟩ = false := (by simp [World.frozen?, hr5]); have HO5 := hide (And.intro hO5 hG5); clear hO5 hG5 hr5)))
                go_meet
                obtain ⟨hO5, hG5⟩ := unhide HO5
                have hs := (unhide HRW).snoc (x := ⟨w1.heap.size, .slice none 0 0, t, newM proto sa sp po⟩) (unhide HXW).2 rfl rfl (fun hk => by have h1 : w1.heap.size < w.heap.size := hSb _ hk; omega) hO5 hG5 hlen
                obtain ⟨h, hA, hX, hTm, hT1, hT2, hT3⟩ := unhide HH
                have hfs := freeF_some (unhide HF2)
                have hWs : w1.heap.size ≤ (w1.alloc (.cells #[.int .i64 t, .int .i64 proto, .int .i64 sa, .int .i64 sp, .int .i64 po, .slice none 0 0, .int .i64 st, .int .i64 0, .bool false, .bool false] 140)).heap.size := (unhide HXW).1.size
                have hblk : ∀ k o, w.heap.size ≤ k → w1.heap[k]? = some o → (w5.setCell ⟨r, 1, none⟩ (.slice (some ⟨g5, 0, none⟩) (L.length + 1) cap5)).heap[k]? = some o := fun k o hk ho => by
                  have hkl := (Array.getElem?_eq_some_iff.1 ho).1
                  exact (hs.2.1 k (by omega) (fun hk' => by have := hSb _ hk'; omega)).trans (((unhide HXW).1.block k hkl (by omega)).trans ho)
                refine ⟨⟨w1.heap.size, .slice none 0 0, t, newM proto sa sp po⟩, L ++ [⟨w1.heap.size, .slice none 0 0, t, newM proto sa sp po⟩], _, rfl, hs.1.mono ?_ ?_, ((Fr.of_below (unhide HB1)).trans' (unhide HXW).1 (fun k hk hl => by omega)).trans hs.2.2, by simp, rfl, ⟨hblk _ _ (Nat.le_refl _) (unhide HK).1, hblk _ _ (by omega) (unhide HK).2.1, hblk _ _ (by omega) (unhide HK).2.2⟩, ?_, fun j hj => absM_snoc_ne L _ hj, ?_, ?_, Nat.zero_le _, rfl⟩
                · rintro k (hk | hk)
                  · exact .inl hk
                  · exact .inr ⟨by have : w1.heap.size ≤ k := hk.1; omega, by simpa using hk.2.1⟩
                · rintro k (hk | hk)
                  · have h1 := hSb k hk
                    have h2 := hs.2.2.size
                    omega
                  · exact hk.2
                · have e1 := absM_snoc L ⟨w1.heap.size, .slice none 0 0, t, newM proto sa sp po⟩
                  dsimp only at e1
                  unfold outF
                  dsimp only
                  rw [unhide HFN]
                  dsimp only
                  rw [if_neg (by have h0 := unhide HNS; simpa using h0), hT2, hT3, hn, unhide HF2, e1, hTm]
                · have e1 := absM_snoc L ⟨w1.heap.size, .slice none 0 0, t, newM proto sa sp po⟩
                  dsimp only at e1
                  rw [e1, ← hTm]
                  exact (hA.snoc (m := newM proto sa sp po) ⟨hpr3.1, hpr3.2, by rw [hT2]; exact hfs.1, by rw [hT3]; show po ≤ u3; omega, Nat.zero_le _, Int.le_refl _, by show (0 : Int) < 1000; decide⟩ hfs.2.2 (unhide HFN)).apart
                · intro y hy
                  rcases List.mem_append.1 hy with hy | hy
                  · exact hX y hy
                  · have e1 : y = ⟨w1.heap.size, .slice none 0 0, t, newM proto sa sp po⟩ := by simpa using hy
                    subst e1
                    exact ⟨List.nodup_nil, fun h => by cases h⟩
          · exfalso
            have h1 := unhide HFR
            rw [show n - j = 0 by omega] at h1
            have h2 := unhide HV4
            rw [hn] at h2
            exact h2 h1.symm
  case rest =>
    obtain ⟨x, L1, lv1, rfl, hR, hFr, hxL, hxt, ⟨q1, q2, q3⟩, hout, hoth, hap, hox, hp4, hpr⟩ := hcut
    dsimp only at hpr
    have hxm := (hR.mem x hxL).1
    obtain ⟨-, -, -, -, -, -, -, -, -, -, xz, xg⟩ := ref_cells hxm.1
    have hxS : S x.g ∨ w.heap.size + 3 ≤ x.g := by
      rcases (hR.mem x hxL).2.1 with h1 | h1
      · exact .inl h1
      · exact .inr h1.1
    have hSb := (unhide HH).1.bound
    have hn0 : x.g ≠ w.heap.size := by
      rcases hxS with h1 | h1
      · have := hSb _ h1
        omega
      · omega
    have hn1 : x.g ≠ w.heap.size + 1 := by
      rcases hxS with h1 | h1
      · have := hSb _ h1
        omega
      · omega
    have hn2 : x.g ≠ w.heap.size + 2 := by
      rcases hxS with h1 | h1
      · have := hSb _ h1
        omega
      · omega
    have HU := hide (rused_any x.g x.t x.m x.sv da wc hxm hp4)
    rw [ruse_eq (hox x hxL).1] at HU
    have HQ := hide (And.intro q1 (And.intro q2 q3))
    have hzc : w.heap.size + 3 ≤ wc.heap.size := by have := (Array.getElem?_eq_some_iff.1 q3).1; omega
    obtain ⟨p0, p1, p2, p3, p4, p5, p6, p7, p8, p9, p10, p11, p12, p13, p14, pz⟩ := pk_cells q1
    dsimp only at p0 p1 p2 p3 p4 p5 p6 p7 p8 p9 p10 p11 p12 p13 p14
    have HR := hide (And.intro hR (And.intro hFr (And.intro hxL (And.intro hxt (And.intro hout (And.intro hoth (And.intro hap (And.intro hox hpr))))))))
    clear q1 q2 q3 hR hFr hxL hout hoth hap hox hp4 hpr hxm xz HB1 HK hxt hxS
    · skip
      go_wp2_with fail
      refine (unhide HU).mono ?_
      rintro e w4 ⟨rfl, sv', hB4, hP4, hS4, hF4⟩
      have q14 := hF4.some (unhide HQ).1 (fun e => hn0 e.symm)
      have q24 := hF4.some (unhide HQ).2.1 (fun e => hn1 e.symm)
      have q34 := hF4.some (unhide HQ).2.2 (fun e => hn2 e.symm)
      have HM := fun W (hW : W.heap[x.g]? = some (.cells (refC x.t { x.m with peers := useF x.m.peers da, idle := 0 } sv') 140 (0, 0))) => hide (rmarks_use x.g x.t x.m sv' ⟨tag, proto, out, sa, sp, da, dp, syn, fin, rst, err, qsa, qsp, qda, qdp⟩ W hW (unhide HR).2.2.2.2.2.2.2.2 ((unhide HR).2.2.2.2.2.2.2.1 x (unhide HR).2.2.1))
      obtain ⟨-, -, -, -, -, -, -, x7, -, -, xz, xg4⟩ := ref_cells hB4
      have f7 := xz 7
      clear p0 p1 p2 p3 p4 p5 p6 p7 p8 p9 p10 p11 p12 p13 p14 pz
      obtain ⟨p0, p1, p2, p3, p4, p5, p6, p7, p8, p9, p10, p11, p12, p13, p14, pz⟩ := pk_cells q14
      dsimp only at p0 p1 p2 p3 p4 p5 p6 p7 p8 p9 p10 p11 p12 p13 p14
      have hz4 : w.heap.size + 3 ≤ w4.heap.size := by have := hF4.size; omega
      have H4 := hide (And.intro hB4 (And.intro hP4 (And.intro hS4 (And.intro hF4 (And.intro q14 (And.intro q24 q34))))))
      unfold pkC at HM
      dsimp only at HM
      clear HU hB4 hP4 hS4 hF4 q14 q24 q34 HQ xz
      go_wp2_with fail
      refine (unhide (HM _ (setB (unhide H4).1 _ _))).mono ?_
      rintro e w6 ⟨rfl, hB6, hF6⟩
      clear HM
      have e0 : ∀ k o, k ≠ x.g → w4.heap[k]? = some o → w6.heap[k]? = some o := fun k o hk ho => hF6.some ((Below.heap_setCell _ _ _ _ hk).trans ho) hk
      have q16 := e0 _ _ (fun e => hn0 e.symm) (unhide H4).2.2.2.2.1
      have q26 := e0 _ _ (fun e => hn1 e.symm) (unhide H4).2.2.2.2.2.1
      have q36 := e0 _ _ (fun e => hn2 e.symm) (unhide H4).2.2.2.2.2.2
      have hz6 : w.heap.size + 3 ≤ w6.heap.size := by have := (Array.getElem?_eq_some_iff.1 q36).1; omega
      obtain ⟨-, -, -, -, x4, -, -, -, -, -, -, xg6⟩ := ref_cells hB6
      have hport : (useM x.m ⟨tag, proto, out, sa, sp, da, dp, syn, fin, rst, err, qsa, qsp, qda, qdp⟩).port = x.m.port := (useM_same x.m ⟨tag, proto, out, sa, sp, da, dp, syn, fin, rst, err, qsa, qsp, qda, qdp⟩).2.2.2
      rw [hport] at x4
      have hFc : Fr (fun k => k = x.g) wc w6 := (unhide H4).2.2.2.1.trans (Fr.trans (Fr.refl _ _).setG hF6)
      have hsvb : ∀ b', sliceBlk sv' = some b' → wc.heap.size ≤ b' ∧ b' < w6.heap.size ∧ b' ≠ x.g := fun b' hb' => by
        have h1 := (unhide H4).2.2.1 b' hb'
        obtain ⟨ao, cap', hsv, -, -, hc'⟩ := (unhide H4).2.1
        have hlen' : 0 < (useF x.m.peers da).length := List.length_pos_of_mem (useF_has _ _)
        obtain ⟨b2, off2, rfl, hb2, -⟩ := hc' hlen'
        rw [hsv] at hb'
        have : b2 = b' := by simpa [sliceBlk] using hb'
        subst this
        have := hF6.size
        simp at this
        exact ⟨h1, by omega, by omega⟩
      have hPS : PeerS w6 sv' (useM x.m ⟨tag, proto, out, sa, sp, da, dp, syn, fin, rst, err, qsa, qsp, qda, qdp⟩).peers := by
        rw [useM_peers]
        exact (unhide H4).2.1.keep (by have := hF6.size; simpa using this) (fun b' hb' hl => (hF6.block b' (by simpa using hl) (hsvb b' hb').2.2).trans (Below.heap_setCell _ _ _ _ (hsvb b' hb').2.2))
      have hR6 := (unhide HR).1.upd (unhide HR).2.2.1 hB6 hPS (fun b' hb' => ⟨.inr (hsvb b' hb').1, (hsvb b' hb').2.1, fun e => by
        have h1 := (hsvb b' hb').1
        have h2 := (unhide HR).1.bound _ (unhide HR).1.sr
        omega, fun e => by
        have h1 := (hsvb b' hb').1
        have h2 := (unhide HR).1.bound _ ((unhide HR).1.lS _ e)
        omega, fun y hy e => by
        have h1 := (hsvb b' hb').1
        have h2 := (unhide HR).1.bound _ ((unhide HR).1.mem y hy).2.1
        omega⟩) hFc
      have hFw : Fr S w w6 := (unhide HR).2.1.trans' hFc (fun k hk hl => by
        subst hk
        rcases ((unhide HR).1.mem x (unhide HR).2.2.1).2.1 with h1 | h1
        · exact h1
        · omega)
      clear p0 p1 p2 p3 p4 p5 p6 p7 p8 p9 p10 p11 p12 p13 p14 pz x7 f7
      obtain ⟨p0, p1, p2, p3, p4, p5, p6, p7, p8, p9, p10, p11, p12, p13, p14, pz⟩ := pk_cells q16
      dsimp only at p0 p1 p2 p3 p4 p5 p6 p7 p8 p9 p10 p11 p12 p13 p14
      obtain ⟨b0, b1, b2, b3, b4, b5, b6, b7, b8, b9, b10, b11, b12, b13, b14, bz⟩ := pk_cells q26
      dsimp only [pk0] at b0 b1 b2 b3 b4 b5 b6 b7 b8 b9 b10 b11 b12 b13 b14
      have t1 := cellOf q36 1
      have t1' : w6.cell? ⟨w.heap.size + 2, 1, none⟩ = some (.int .i64 u1) := t1
      have H6 := hide (And.intro hR6 (And.intro hFw (And.intro q16 (And.intro q26 hPS))))
      clear hR6 hFw q16 q26 q36 hPS hsvb hFc hB6 hF6 H4 e0 t1 hport
      obtain ⟨pt, hpt⟩ : ∃ pt, x.m.port = pt := ⟨_, rfl⟩
      rw [hpt] at x4
      have hne2 : ∀ k, (fun k => S k ∨ (w.heap.size + 3 ≤ k ∧ k < w6.heap.size)) k → ¬ (k = w.heap.size ∨ k = w.heap.size + 1) := fun k hk => by
        rcases hk with hk | hk
        · have := hSb k hk
          omega
        · omega
      have HR6 : Hid (RefR w6 (fun k => S k ∨ (w.heap.size + 3 ≤ k ∧ k < w6.heap.size)) r tv lv1 ts (updL L1 x.g sv' (useM x.m ⟨tag, proto, out, sa, sp, da, dp, syn, fin, rst, err, qsa, qsp, qda, qdp⟩))) := by
        refine (unhide H6).1.mono (fun k hk => ?_) (fun k hk => ?_)
        · rcases hk with (hk | hk) | hk
          · exact .inl hk
          · exact .inr ⟨hk.1, by have := (unhide H6).1.bound k (.inl (.inr hk)); omega⟩
          · exact .inr ⟨by omega, hk.2⟩
        · rcases hk with hk | hk
          · have := hSb k hk
            omega
          · exact hk.2
      have HFw := hide (unhide H6).2.1
      have HN2 := hide hne2
      have habs : absM (updL L1 x.g sv' (useM x.m ⟨tag, proto, out, sa, sp, da, dp, syn, fin, rst, err, qsa, qsp, qda, qdp⟩)) t = setM (absM L1 t) (useM x.m ⟨tag, proto, out, sa, sp, da, dp, syn, fin, rst, err, qsa, qsp, qda, qdp⟩) := by
        have h1 := (unhide HR)
        have h2 := absM_upd h1.2.2.1 h1.1.apart (by rw [h1.2.2.2.1]; exact h1.2.2.2.2.2.2.1) (m := useM x.m ⟨tag, proto, out, sa, sp, da, dp, syn, fin, rst, err, qsa, qsp, qda, qdp⟩) (useM_same _ _) sv'
        rw [h1.2.2.2.1] at h2
        exact h2
      have habs2 : ∀ j, j ≠ t → absM (updL L1 x.g sv' (useM x.m ⟨tag, proto, out, sa, sp, da, dp, syn, fin, rst, err, qsa, qsp, qda, qdp⟩)) j = absM L j := fun j hj => by
        have h1 := (unhide HR)
        exact (absM_upd_ne h1.2.2.1 h1.1.apart _ _ (by rw [h1.2.2.2.1]; exact hj)).trans (h1.2.2.2.2.2.1 j hj)
      have HAB := hide (And.intro habs habs2)
      have HQ6 := hide (And.intro (unhide H6).2.2.1 (unhide H6).2.2.2.1)
      clear hne2 habs habs2 H6
      have hd := unhide HV3
      have HO : Hid (outF T ⟨tag, proto, out, sa, sp, da, dp, syn, fin, rst, err, qsa, qsp, qda, qdp⟩ = inF { T with maps := setM (absM L1 t) (useM x.m ⟨tag, proto, out, sa, sp, da, dp, syn, fin, rst, err, qsa, qsp, qda, qdp⟩) } ⟨tag, proto, false, u1, pt, u1, dp, syn, fin, rst, err, qsa, qsp, qda, qdp⟩) := by
        rw [(unhide HR).2.2.2.2.1]
        unfold outW
        rw [if_pos (by show da = T.outer; rw [(unhide HH).2.2.2.2.1]; exact hd)]
        show inF _ (⟨tag, proto, false, T.outer, x.m.port, da, dp, syn, fin, rst, err, qsa, qsp, qda, qdp⟩ : Pk) = _
        rw [(unhide HH).2.2.2.2.1, hpt, hd]
      have hTe : absT ts[t] t (updL L1 x.g sv' (useM x.m ⟨tag, proto, out, sa, sp, da, dp, syn, fin, rst, err, qsa, qsp, qda, qdp⟩)) = { T with maps := setM (absM L1 t) (useM x.m ⟨tag, proto, out, sa, sp, da, dp, syn, fin, rst, err, qsa, qsp, qda, qdp⟩) } := by
        unfold absT
        rw [(unhide HAB).1, (unhide HUS).1, (unhide HUS).2.1, (unhide HUS).2.2, ← (unhide HH).2.2.2.2.1, ← (unhide HH).2.2.2.2.2.1, ← (unhide HH).2.2.2.2.2.2]
      have hap2 : (absM (updL L1 x.g sv' (useM x.m ⟨tag, proto, out, sa, sp, da, dp, syn, fin, rst, err, qsa, qsp, qda, qdp⟩)) t).Pairwise apartM := by
        rw [(unhide HAB).1]
        refine setM_apart (unhide HR).2.2.2.2.2.2.1 ⟨x.m, ?_, useM_same _ _⟩
        exact List.mem_map.2 ⟨x, List.mem_filter.2 ⟨(unhide HR).2.2.1, by rw [(unhide HR).2.2.2.1]; simp⟩, rfl⟩
      have hox2 : ∀ y ∈ updL L1 x.g sv' (useM x.m ⟨tag, proto, out, sa, sp, da, dp, syn, fin, rst, err, qsa, qsp, qda, qdp⟩), okX y.m := fun y hy => by
        obtain ⟨z, hz, rfl⟩ := List.mem_map.1 hy
        split
        · exact useM_okX ((unhide HR).2.2.2.2.2.2.2.1 x (unhide HR).2.2.1) _
        · exact (unhide HR).2.2.2.2.2.2.2.1 z hz
      have HI := fun (W : World) (hW : Fr (fun k => k = w.heap.size ∨ k = w.heap.size + 1) w6 W) => hide (rin_any ((unhide HR6).keep hW (unhide HN2)) ht ⟨tag, proto, false, u1, pt, u1, dp, syn, fin, rst, err, qsa, qsp, qda, qdp⟩ hap2 hox2)
      rw [hTe, ← unhide HO] at HI
      unfold pkC at HI
      dsimp only at HI
      subst hd
      clear hTe hap2 hox2
      · skip
        go_wp2_with fail
        go_region
        go_wp2_with fail
        refine (unhide (HI _ ?_)).mono ?_
        · exact Fr.drew (Fr.setL (Fr.setL (Fr.setL (Fr.refl _ _))))
        rintro e w9 ⟨q, L3, lv3, rfl, hR9, hF9, ha9, ho9, hq9⟩
        have hb9 : w9.heap[w.heap.size + 1]? = some (.cells (pkC pk0) 38 (0, 0)) := hF9.some ((Below.heap_setCell _ _ _ _ (Nat.succ_ne_self _)).trans ((Below.heap_setCell _ _ _ _ (Nat.succ_ne_self _)).trans ((Below.heap_setCell _ _ _ _ (Nat.succ_ne_self _)).trans (unhide HQ6).2))) (fun hk => unhide HN2 _ hk (.inr rfl))
        have hz9 : w6.heap.size ≤ w9.heap.size := by have := hF9.size; simpa using this
        have hFwX : Fr (fun k => k = w.heap.size ∨ k = w.heap.size + 1) w6 ((((w6.setCell ⟨w.heap.size, 3, none⟩ (.int .i64 da)).setCell ⟨w.heap.size, 4, none⟩ (.int .i64 pt)).setCell ⟨w.heap.size, 2, none⟩ (.bool false)).drew) := Fr.drew (Fr.setL (Fr.setL (Fr.setL (Fr.refl _ _))))
        have HF9 : Hid (Fr S w w9) := ((unhide HFw).trans' hFwX (fun k hk hl => by omega)).trans' hF9 (fun k hk hl => by
          rcases hk with hk | hk
          · exact hk
          · omega)
        have HR9 : Hid (RefR w9 (fun k => S k ∨ (w.heap.size + 3 ≤ k ∧ k < w9.heap.size)) r tv lv3 ts L3) := by
          refine hR9.mono (fun k hk => ?_) (fun k hk => ?_)
          · rcases hk with (hk | hk) | hk
            · exact .inl hk
            · exact .inr ⟨hk.1, by omega⟩
            · exact .inr ⟨by have := hk.1; simp at this; omega, hk.2⟩
          · rcases hk with hk | hk
            · have := hSb k hk
              omega
            · exact hk.2
        have H9 := hide (And.intro ha9 (And.intro ho9 hq9))
        obtain ⟨vv, hvv⟩ : ∃ vv, (outF T ⟨tag, proto, out, sa, sp, da, dp, syn, fin, rst, err, qsa, qsp, qda, qdp⟩).2.2 = vv := ⟨_, rfl⟩
        rw [hvv]
        obtain ⟨qtag, qproto, qout, qa, qp, qd, qe, qsyn, qfin, qrst, qerr, q1, q2, q3, q4⟩ := q
        clear p0 p1 p2 p3 p4 p5 p6 p7 p8 p9 p10 p11 p12 p13 p14 pz b0 b1 b2 b3 b4 b5 b6 b7 b8 b9 b10 b11 b12 b13 b14 bz
        obtain ⟨b0, b1, b2, b3, b4, b5, b6, b7, b8, b9, b10, b11, b12, b13, b14, bz⟩ := pk_cells hb9
        dsimp only [pk0] at b0 b1 b2 b3 b4 b5 b6 b7 b8 b9 b10 b11 b12 b13 b14
        have hl9 : w.heap.size + 1 < w9.heap.size := by omega
        clear hR9 hF9 ha9 ho9 hq9 hb9 hFwX HI
        dsimp only [pkC]
        go_wp2
        refine bodyPost_ret (v := .tuple #[.agg #[.int .i64 qtag, .int .i64 qproto, .bool qout, .int .i64 qa, .int .i64 qp, .int .i64 qd, .int .i64 qe, .bool qsyn, .bool qfin, .bool qrst, .bool qerr, .int .i64 q1, .int .i64 q2, .int .i64 q3, .int .i64 q4], .int .i64 vv]) (by simp [results, Try.results97, go_sem, b0, b1, b2, b3, b4, b5, b6, b7, b8, b9, b10, b11, b12, b13, b14]) rfl ?_
        rw [hvv]
        have hK := (unhide H9).2.2
        rw [hvv] at hK
        refine ⟨⟨qtag, qproto, qout, qa, qp, qd, qe, qsyn, qfin, qrst, qerr, q1, q2, q3, q4⟩, L3, lv3, rfl, ?_, ?_, (unhide H9).1, fun j hj => ((unhide H9).2.1 j hj).trans ((unhide HAB).2 j hj), hK⟩
        · refine ((unhide HR9).keep (X := fun k => k = w.heap.size ∨ k = w.heap.size + 1) (Fr.setR (Fr.setR (Fr.setR (Fr.setR (Fr.setR (Fr.setR (Fr.setR (Fr.setR (Fr.setR (Fr.setR (Fr.setR (Fr.setR (Fr.setR (Fr.setR (Fr.setR (Fr.refl _ _)))))))))))))))) (fun k hk => ?_)).mono ?_ ?_
          · rcases hk with hk | hk
            · have := hSb k hk
              omega
            · omega
          · rintro k (hk | hk)
            · exact .inl hk
            · exact .inr ⟨by omega, by simpa using hk.2⟩
          · rintro k (hk | hk)
            · have := hSb k hk
              simp
              omega
            · exact hk.2
        · exact (unhide HF9).trans' (Y := fun k => k = w.heap.size ∨ k = w.heap.size + 1) (Fr.setR (Fr.setR (Fr.setR (Fr.setR (Fr.setR (Fr.setR (Fr.setR (Fr.setR (Fr.setR (Fr.setR (Fr.setR (Fr.setR (Fr.setR (Fr.setR (Fr.setR (Fr.refl _ _)))))))))))))))) (fun k hk hl => by omega)

end

end Go.Proofs.Ytgpplekabohneaa
