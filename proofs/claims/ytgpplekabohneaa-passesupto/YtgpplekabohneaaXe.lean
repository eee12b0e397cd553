/- 'end' and 'Good' of the document. -/
import Derived.Test.YtgpplekabohneaaHa
import Derived.Test.YtgpplekabohneaaXa
import Derived.Deep.CutRange
import Derived.Deep.CutBlock
namespace Go.Proofs.Ytgpplekabohneaa
open Go.RowKit

theorem endB_in (a p : Int) : endB a p = (B0.inB a 0 4294967295 && B0.inB p 0 65535) := by
  unfold endB B0.inB
  rw [← Bool.decide_and]
  congr 1
  simp only [eq_iff_iff]
  omega

theorem rend_any (a p : Int) (w : World) :
    Calls Try.prog 111 #[.agg #[.int .i64 a, .int .i64 p]] w fun e w' => e = .returned (.bool (endB a p)) ∧ Below w.heap.size w w' := by
  rw [endB_in]
  have HA := fun W => hide (B0.within_any a 0 4294967295 W)
  have HP := fun W => hide (B0.within_any p 0 65535 W)
  generalize B0.inB a 0 4294967295 = ba at *
  generalize B0.inB p 0 65535 = bp at *
  cases ba
  · go_enter Try.func111, Try.ntmps111
    go_wp2_with fail
    refine (unhide (HA _)).mono ?_
    rintro e w1 ⟨rfl, rfl⟩
    go_wp2_with fail
    refine (unhide (HP _)).mono ?_
    rintro e w2 ⟨rfl, rfl⟩
    clear HA HP
    go_wp2
    go_ret
    exact ⟨rfl, (Below.refl _ _).alloc (Nat.le_refl _) _⟩
  · go_enter Try.func111, Try.ntmps111
    go_wp2_with fail
    refine (unhide (HA _)).mono ?_
    rintro e w1 ⟨rfl, rfl⟩
    go_wp2_with fail
    refine (unhide (HP _)).mono ?_
    rintro e w2 ⟨rfl, rfl⟩
    clear HA HP
    go_wp2
    go_ret
    exact ⟨by cases bp <;> rfl, (Below.refl _ _).alloc (Nat.le_refl _) _⟩

end Go.Proofs.Ytgpplekabohneaa

namespace Go.Proofs.Ytgpplekabohneaa
open Go.RowKit

theorem rgood_eq (p : Pk) : goodB p = (endB p.sa p.sp && endB p.da p.dp && endB p.qsa p.qsp && endB p.qda p.qdp && decide (1 ≤ p.proto) && decide (p.proto ≤ 3) && !((p.syn || p.fin || p.rst) && (p.proto != 2 || p.err)) && (p.err || !(p.qsa != 0 || p.qsp != 0 || p.qda != 0 || p.qdp != 0))) := by
  obtain ⟨tag, proto, out, sa, sp, da, dp, syn, fin, rst, err, qsa, qsp, qda, qdp⟩ := p
  unfold goodB quoteB markB
  dsimp only
  rw [Bool.decide_and]
  have hb : (proto != 2) = !(proto == 2) := rfl
  rw [hb]
  generalize decide (1 ≤ proto) = x1
  generalize decide (proto ≤ 3) = x2
  generalize (proto == 2) = x3
  generalize endB sa sp = x4
  generalize endB da dp = x5
  cases err
  · by_cases hz : qsa = 0 ∧ qsp = 0 ∧ qda = 0 ∧ qdp = 0
    · obtain ⟨rfl, rfl, rfl, rfl⟩ := hz
      have h0 : endB 0 0 = true := by decide
      rw [h0]
      cases syn <;> cases fin <;> cases rst <;> cases x1 <;> cases x2 <;> cases x3 <;> cases x4 <;> cases x5 <;> rfl
    · have h1 : ((qsa == 0 && qsp == 0) && (qda == 0 && qdp == 0)) = false := by
        simp only [Bool.and_eq_false_iff, beq_eq_false_iff_ne]
        omega
      have h2 : (qsa != 0 || qsp != 0 || qda != 0 || qdp != 0) = true := by
        simp only [Bool.or_eq_true, bne_iff_ne]
        omega
      rw [h1, h2]
      simp
  · generalize endB qsa qsp = x6
    generalize endB qda qdp = x7
    simp only [Bool.true_or, Bool.and_true, if_true, Bool.not_true, Bool.and_false, Bool.false_or, Bool.or_true]
    cases syn <;> cases fin <;> cases rst <;> cases x1 <;> cases x2 <;> cases x4 <;> cases x5 <;> cases x6 <;> cases x7 <;> simp

/-- the last test of 'Good', its parts known -/
def goodT5 (e1 e2 e3 e4 : Bool) (proto : Int) (mk err qt : Bool) : Bool := e1 && e2 && e3 && e4 && decide (1 ≤ proto) && decide (proto ≤ 3) && !(mk && (proto != 2 || err)) && (err || !qt)

set_option maxHeartbeats 4000000 in
set_option maxRecDepth 100000 in
theorem rgood_any (p : Pk) (w : World) :
    Calls Try.prog 95 #[.agg (pkC p)] w fun e w' => e = .returned (.bool (goodB p)) ∧ Below w.heap.size w w' := by
  have hGG := rgood_eq p
  obtain ⟨G, hG⟩ : ∃ G, goodB p = G := ⟨_, rfl⟩
  rw [hG] at hGG ⊢
  clear hG
  obtain ⟨tag, proto, out, sa, sp, da, dp, syn, fin, rst, err, qsa, qsp, qda, qdp⟩ := p
  dsimp only at hGG
  have HA := fun W => hide (rend_any sa sp W)
  have HB := fun W => hide (rend_any da dp W)
  have HC := fun W => hide (rend_any qsa qsp W)
  have HD := fun W => hide (rend_any qda qdp W)
  generalize endB sa sp = e1 at *
  generalize endB da dp = e2 at *
  generalize endB qsa qsp = e3 at *
  generalize endB qda qdp = e4 at *
  have HX : Hid (G = goodT5 e1 e2 e3 e4 proto (syn || fin || rst) err (qsa != 0 || qsp != 0 || qda != 0 || qdp != 0)) := hGG
  clear hGG
  unfold pkC
  dsimp only
  go_enter Try.func95, Try.ntmps95
  go_wp2_with fail
  refine (unhide (HA _)).mono ?_
  rintro e w1 ⟨rfl, hb1⟩
  have q1 : w1.heap[w.heap.size]? = some (.cells (pkC ⟨tag, proto, out, sa, sp, da, dp, syn, fin, rst, err, qsa, qsp, qda, qdp⟩) 38 (0, 0)) := (hb1.block _ (by simp)).trans (blkN _ _ _ rfl)
  have hB1 : Below w.heap.size w w1 := Below.trans ((Below.refl _ _).alloc (Nat.le_refl _) _) (hb1.mono (by simp))
  have hl1 : w.heap.size < w1.heap.size := (Array.getElem?_eq_some_iff.1 q1).1
  obtain ⟨p0, p1, p2, p3, p4, p5, p6, p7, p8, p9, p10, p11, p12, p13, p14, pz⟩ := pk_cells q1
  dsimp only at p0 p1 p2 p3 p4 p5 p6 p7 p8 p9 p10 p11 p12 p13 p14
  have HQ1 := hide (And.intro q1 hB1)
  clear HA hb1 q1 hB1
  go_wp2_with fail
  refine (unhide (HB _)).mono ?_
  rintro e w2 ⟨rfl, hb2⟩
  have q1 := (hb2.block _ hl1).trans (unhide HQ1).1
  have hB2 : Below w.heap.size w w2 := Below.trans (unhide HQ1).2 (hb2.mono (Nat.le_of_lt hl1))
  have hl2 : w.heap.size < w2.heap.size := (Array.getElem?_eq_some_iff.1 q1).1
  clear p0 p1 p2 p3 p4 p5 p6 p7 p8 p9 p10 p11 p12 p13 p14 pz
  obtain ⟨p0, p1, p2, p3, p4, p5, p6, p7, p8, p9, p10, p11, p12, p13, p14, pz⟩ := pk_cells q1
  dsimp only at p0 p1 p2 p3 p4 p5 p6 p7 p8 p9 p10 p11 p12 p13 p14
  have HQ2 := hide (And.intro q1 hB2)
  clear HB hb2 q1 hB2 HQ1 hl1
  go_wp2_with fail
  refine (unhide (HC _)).mono ?_
  rintro e w3 ⟨rfl, hb3⟩
  have q1 := (hb3.block _ hl2).trans (unhide HQ2).1
  have hB3 : Below w.heap.size w w3 := Below.trans (unhide HQ2).2 (hb3.mono (Nat.le_of_lt hl2))
  have hl3 : w.heap.size < w3.heap.size := (Array.getElem?_eq_some_iff.1 q1).1
  clear p0 p1 p2 p3 p4 p5 p6 p7 p8 p9 p10 p11 p12 p13 p14 pz
  obtain ⟨p0, p1, p2, p3, p4, p5, p6, p7, p8, p9, p10, p11, p12, p13, p14, pz⟩ := pk_cells q1
  dsimp only at p0 p1 p2 p3 p4 p5 p6 p7 p8 p9 p10 p11 p12 p13 p14
  have HQ3 := hide (And.intro q1 hB3)
  clear HC hb3 q1 hB3 HQ2 hl2
  go_wp2_with fail
  refine (unhide (HD _)).mono ?_
  rintro e w4 ⟨rfl, hb4⟩
  have q1 := (hb4.block _ hl3).trans (unhide HQ3).1
  have hB4 : Below w.heap.size w w4 := Below.trans (unhide HQ3).2 (hb4.mono (Nat.le_of_lt hl3))
  have hl4 : w.heap.size < w4.heap.size := (Array.getElem?_eq_some_iff.1 q1).1
  clear p0 p1 p2 p3 p4 p5 p6 p7 p8 p9 p10 p11 p12 p13 p14 pz
  obtain ⟨p0, p1, p2, p3, p4, p5, p6, p7, p8, p9, p10, p11, p12, p13, p14, pz⟩ := pk_cells q1
  dsimp only at p0 p1 p2 p3 p4 p5 p6 p7 p8 p9 p10 p11 p12 p13 p14
  have HB4 := hide hB4
  clear HD hb4 q1 hB4 HQ3 hl3
  go_upto_region 5 with fail
  go_cut [7] from 23 to 32 (fun z wx => z = .bool (syn || fin || rst) ∧ wx = w4)
  case first =>
    cases syn
    · cases fin
      · go_wp2_with fail
        go_meet
        exact ⟨rfl, rfl⟩
      · go_wp2_with fail
        go_meet
        exact ⟨rfl, rfl⟩
    · go_wp2_with fail
      go_meet
      exact ⟨rfl, rfl⟩
  case rest =>
  obtain ⟨rfl, hwc⟩ := hcut
  have hwc2 := hwc.symm
  subst hwc2
  clear hwc
  generalize (syn || fin || rst) = mk at *
  go_upto_region 6 with fail
  go_cut [8] from 33 to 58 (fun z wx => z = .bool (qsa != 0 || qsp != 0 || qda != 0 || qdp != 0) ∧ wx = w4)
  case first =>
    cases k1 : (qsa != 0)
    · cases k2 : (qsp != 0)
      · cases k3 : (qda != 0)
        · go_wp2_with fail
          go_meet
          exact ⟨by rw [k1, k2, k3]; rfl, rfl⟩
        · go_wp2_with fail
          go_meet
          exact ⟨by rw [k1, k2, k3]; rfl, rfl⟩
      · go_wp2_with fail
        go_meet
        exact ⟨by rw [k1, k2]; rfl, rfl⟩
    · go_wp2_with fail
      go_meet
      exact ⟨by rw [k1]; rfl, rfl⟩
  case rest =>
  obtain ⟨rfl, hwc⟩ := hcut
  have hwc2 := hwc.symm
  subst hwc2
  clear hwc
  generalize (qsa != 0 || qsp != 0 || qda != 0 || qdp != 0) = qt at *
  clear p0 p2 p3 p4 p5 p6 p7 p8 p9 p11 p12 p13 p14
  cases e1
  · as_aux_lemma =>
      go_wp2
      go_ret
      exact ⟨by rw [unhide HX]; rfl, unhide HB4⟩
  cases e2
  · as_aux_lemma =>
      go_wp2
      go_ret
      exact ⟨by rw [unhide HX]; rfl, unhide HB4⟩
  cases e3
  · as_aux_lemma =>
      go_wp2
      go_ret
      exact ⟨by rw [unhide HX]; rfl, unhide HB4⟩
  cases e4
  · as_aux_lemma =>
      go_wp2
      go_ret
      exact ⟨by rw [unhide HX]; rfl, unhide HB4⟩
  by_cases h1 : 1 ≤ proto
  case neg =>
    as_aux_lemma =>
      go_wp2
      go_ret
      have d1 : decide (1 ≤ proto) = false := decide_eq_false (by omega)
      refine ⟨?_, unhide HB4⟩
      rw [unhide HX]
      show Ending.returned (.bool false) = _
      simp [goodT5, d1]
  by_cases h3 : proto ≤ 3
  case neg =>
    as_aux_lemma =>
      go_wp2
      go_ret
      have d1 : decide (1 ≤ proto) = true := decide_eq_true (by omega)
      have d3 : decide (proto ≤ 3) = false := decide_eq_false (by omega)
      refine ⟨?_, unhide HB4⟩
      rw [unhide HX]
      show Ending.returned (.bool false) = _
      simp [goodT5, d3]
  cases mk
  · cases err
    · as_aux_lemma =>
        go_wp2
        go_ret
        have d1 : decide (1 ≤ proto) = true := decide_eq_true (by omega)
        have d3 : decide (proto ≤ 3) = true := decide_eq_true (by omega)
        refine ⟨?_, unhide HB4⟩
        rw [unhide HX]
        show Ending.returned (.bool (!qt)) = _
        unfold goodT5
        rw [d1, d3]
        simp
    · as_aux_lemma =>
        go_wp2
        go_ret
        have d1 : decide (1 ≤ proto) = true := decide_eq_true (by omega)
        have d3 : decide (proto ≤ 3) = true := decide_eq_true (by omega)
        refine ⟨?_, unhide HB4⟩
        rw [unhide HX]
        show Ending.returned (.bool true) = _
        unfold goodT5
        rw [d1, d3]
        simp
  · by_cases h2 : proto = 2
    · subst h2
      cases err
      · as_aux_lemma =>
          go_wp2
          go_ret
          refine ⟨?_, unhide HB4⟩
          rw [unhide HX]
          show Ending.returned (.bool (!qt)) = _
          unfold goodT5
          simp
      · as_aux_lemma =>
          go_wp2
          go_ret
          refine ⟨?_, unhide HB4⟩
          rw [unhide HX]
          show Ending.returned (.bool false) = _
          unfold goodT5
          simp
    · have h2b : (proto != 2) = true := by simpa using h2
      as_aux_lemma =>
        go_wp2
        go_ret
        refine ⟨?_, unhide HB4⟩
        rw [unhide HX]
        show Ending.returned (.bool false) = _
        unfold goodT5
        rw [h2b]
        simp

end Go.Proofs.Ytgpplekabohneaa
