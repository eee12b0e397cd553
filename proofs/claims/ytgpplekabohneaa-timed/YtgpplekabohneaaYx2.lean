/- 'Timed', walked: the other six. -/
import Derived.Test.YtgpplekabohneaaYa
namespace Go.Proofs.Ytgpplekabohneaa
section
open Go.RowKit

set_option maxHeartbeats 16000000 in
set_option maxRecDepth 100000 in
theorem timed_bns (kind first second : Int) (w : World) (x1 x2 : Int) (hx1 : 0 ≤ x1) (hx1' : x1 < 30) (hx2 : 0 ≤ x2) (hx2' : x2 < 1100) (hg : x1 + x2 < 30)
    (HK : ∀ W, Hid (Calls Try.prog 14 #[.int .i64 kind, .int .i64 3] W fun e w' => e = .returned (.int .i64 1) ∧ w' = W)) (H1 : ∀ W, Hid (Calls Try.prog 14 #[.int .i64 first, .int .i64 30] W fun e w' => e = .returned (.int .i64 x1) ∧ w' = W)) (H2 : ∀ W, Hid (Calls Try.prog 14 #[.int .i64 second, .int .i64 1100] W fun e w' => e = .returned (.int .i64 x2) ∧ w' = W)) :
    Calls Try.prog 8 #[.int .i64 kind, .int .i64 first, .int .i64 second, .bool false] w fun e w' => e = .returned (.bool true) ∧ Below w.heap.size w w' := by
  have e34 := eq34 9998
  go_enter Try.func8, Try.ntmps8
  go_wp2_with fail
  refine (box_any 4 w (by omega) (by omega)).mono ?_
  rintro e w1 ⟨b, rfl, hB1, hb1⟩
  have HS1 : Hid (St w w1 (fun k => w.heap.size ≤ k ∧ k < w1.heap.size) b (tb [])) := ⟨hB1, fun k hk => hk.1, Fr.of_below hb1⟩
  clear hB1 hb1
  generalize (fun k => w.heap.size ≤ k ∧ k < w1.heap.size) = F1 at HS1
  go_wp2_with fail
  refine (unhide (HK _)).mono ?_
  rintro e wx ⟨rfl, hw⟩
  symm at hw
  subst hw
  clear HK
  go_wp2_with fail
  refine (datagram_any _ _ _ _ _).mono ?_
  rintro e w2 ⟨rfl, hb2⟩
  have HS2 := hide ((unhide HS1).new hb2)
  clear hb2 HS1
  dsimp only [pkC, dgram]
  go_wp2_with fail
  have hS2 := (unhide HS2).new (belowA w2 (.cells (pkC (tP 2 true)) 38))
  have hP2 := Out.alloc (unhide HS2).box (.cells (pkC (tP 2 true)) 38)
  refine (passS (p := tP 2 true) hS2 ti_1b).mono ?_
  rintro e w3 ⟨rfl, hS3, hF3⟩
  as_aux_lemma =>
    have e1 : w2.heap.size + 1 ≤ w3.heap.size := by have := hF3.size; simpa using this
    have hP3 := hP2.pass hF3
    generalize grow F1 _ w3 = F3 at hS3 hP3
    have HS3 := hide (And.intro hS3 hP3)
    clear hS2 hP2 hS3 hF3 hP3 HS2
    generalize (Value.agg #[.int .i64 2, .int .i64 2, .bool true, .int .i64 5, .int .i64 6, .int .i64 9, .int .i64 53, .bool true, .bool false, .bool false, .bool false, .int .i64 0, .int .i64 0, .int .i64 0, .int .i64 0]) = dd1
    generalize (Value.agg #[.int .i64 2, .int .i64 1, .bool true, .int .i64 5, .int .i64 6, .int .i64 9, .int .i64 53, .bool false, .bool false, .bool false, .bool false, .int .i64 0, .int .i64 0, .int .i64 0, .int .i64 0]) = dd2
    dsimp only [pkC, tQ]
    go_wp2_with fail
    refine (unhide (H1 _)).mono ?_
    rintro e wx ⟨rfl, hw⟩
    symm at hw
    subst hw
    clear H1
    go_wp2_with fail
    have hS4 := (unhide HS3).1.new (belowA w3 (.cells (pkC (tQ 2 true)) 38))
    have hP4 := (unhide HS3).2.new (belowA w3 (.cells (pkC (tQ 2 true)) 38))
    have hQ4 := Out.alloc (unhide HS3).1.box (.cells (pkC (tQ 2 true)) 38)
    refine (tickS hS4 x1 hx1 (by omega)).mono ?_
    rintro e w4 ⟨rfl, hS5, hF5⟩
    as_aux_lemma =>
      have e2 : w3.heap.size + 1 ≤ w4.heap.size := by have := hF5.size; simpa using this
      have hP5 := hP4.pass hF5
      have hQ5 := hQ4.pass hF5
      rw [ti_stay (by show 0 + x1 < 30; omega), Int.zero_add] at hS5
      generalize grow F3 _ w4 = F4 at hS5 hP5 hQ5
      have HS5 := hide (And.intro hS5 (And.intro hP5 hQ5))
      obtain ⟨q0, q1, q2, q3, q4, q5, q6, q7, q8, q9, q10, q11, q12, q13, q14, -⟩ := pk_cells hQ5.1
      dsimp only [tQ] at q0 q1 q2 q3 q4 q5 q6 q7 q8 q9 q10 q11 q12 q13 q14
      clear hS4 hP4 hQ4 hS5 hF5 hP5 hQ5 HS3
      have l1 : w3.heap.size < w4.heap.size := by omega
      generalize (Value.tuple #[Value.agg #[.int .i64 2, .int .i64 2, .bool true, .int .i64 2000, .int .i64 100, .int .i64 9, .int .i64 53, .bool true, .bool false, .bool false, .bool false, .int .i64 0, .int .i64 0, .int .i64 0, .int .i64 0], .int .i64 0, .int .i64 0]) = dd3
      generalize (Value.agg #[.int .i64 2, .int .i64 2, .bool true, .int .i64 2000, .int .i64 100, .int .i64 9, .int .i64 53, .bool true, .bool false, .bool false, .bool false, .int .i64 0, .int .i64 0, .int .i64 0, .int .i64 0]) = dd4
      go_wp2_with fail
      refine (unhide (H2 _)).mono ?_
      rintro e wx ⟨rfl, hw⟩
      symm at hw
      subst hw
      clear H2
      go_wp2_with fail
      have hS8 := (unhide HS5).1
      have hP8 := (unhide HS5).2.1
      have hQ8 := (unhide HS5).2.2
      refine (tickS hS8 x2 hx2 (by omega)).mono ?_
      rintro e w7 ⟨rfl, hS9, hF9⟩
      as_aux_lemma =>
        have e5 : w4.heap.size ≤ w7.heap.size := by have := hF9.size; simpa using this
        have hP9 := hP8.pass hF9
        have hQ9 := hQ8.pass hF9
        rw [ti_stay (by show x1 + x2 < 30; omega)] at hS9
        generalize grow F4 _ w7 = F7 at hS9 hP9 hQ9
        have HS9 := hide (And.intro hS9 (And.intro hP9 hQ9))
        clear hS8 hP8 hQ8 hS9 hF9 hP9 hQ9 q0 q1 q2 q3 q4 q5 q6 q7 q8 q9 q10 q11 q12 q13 q14
        go_wp2_with fail
        refine (tableS (tag := 2) (unhide HS9).1 rfl).mono ?_
        rintro e w8 ⟨lv, rfl, hT, hb8⟩
        obtain ⟨g, cap, sv, rfl, hg1, hg2, hcap, hcm, k0, k1, k2, k3, k4, k5, k6⟩ := TabR.one (m := tm 2 1 (x1 + x2)) hT
        dsimp only [tm] at k0 k1 k2 k3 k5 k6
        unfold maxLen at hcm
        have hgF : ¬ F7 g := fun hk => by obtain ⟨_, _, _, _, _, q4⟩ := (unhide HS9).1.box; have := q4 g hk; omega
        have e6 := hb8.size
        have HS10 := hide (And.intro ((unhide HS9).1.new hb8) (And.intro ((unhide HS9).2.1.new hb8) ((unhide HS9).2.2.new hb8)))
        obtain ⟨q0, q1, q2, q3, q4, q5, q6, q7, q8, q9, q10, q11, q12, q13, q14, -⟩ := pk_cells (unhide HS10).2.2.1
        dsimp only [tQ] at q0 q1 q2 q3 q4 q5 q6 q7 q8 q9 q10 q11 q12 q13 q14
        clear hT hb8 HS9
        have l4 : w3.heap.size < w8.heap.size := by omega
        go_wp2_with fail
        refine (answer_any (tQ 2 true) _).mono ?_
        rintro e w9 ⟨rfl, hb9⟩
        have HS11 := hide (And.intro ((unhide HS10).1.new hb9) ((unhide HS10).2.1.new hb9))
        have e7 := hb9.size
        have k1' := (hb9.cell (p := ⟨g, 1, none⟩) hg2).trans k1
        have k2' := (hb9.cell (p := ⟨g, 2, none⟩) hg2).trans k2
        have k6' := (hb9.cell (p := ⟨g, 6, none⟩) hg2).trans k6
        clear hb9 HS10 q0 q1 q2 q3 q4 q5 q6 q7 q8 q9 q10 q11 q12 q13 q14 k0 k1 k2 k3 k4 k5 k6
        dsimp only [pkC, answerF, tQ]
        go_wp2_with fail
        refine (passS (p := tA 2) (unhide HS11).1 (ti_2b (x1 + x2))).mono ?_
        rintro e w10 ⟨rfl, hS12, hF12⟩
        as_aux_lemma =>
          have e8 : w9.heap.size ≤ w10.heap.size := hF12.size
          have hP12 := (unhide HS11).2.pass hF12
          obtain ⟨p0, p1, p2, p3, p4, -⟩ := pk_cells hP12.1
          dsimp only [tP] at p0 p1 p2 p3 p4
          have m1 := (hF12.cell (o := 1) (show g < w9.heap.size by omega) hgF).trans k1'
          have m2 := (hF12.cell (o := 2) (show g < w9.heap.size by omega) hgF).trans k2'
          have m6 := (hF12.cell (o := 6) (show g < w9.heap.size by omega) hgF).trans k6'
          have l5 : g < w10.heap.size := by omega
          have HF := hide hS12.below
          clear hS12 hF12 hP12 HS11 k1' k2' k6' hgF
          have l6 : w2.heap.size < w10.heap.size := by omega
          generalize (Value.agg #[.int .i64 2, .int .i64 2, .bool false, .int .i64 9, .int .i64 53, .int .i64 2000, .int .i64 100, .bool false, .bool false, .bool false, .bool false, .int .i64 0, .int .i64 0, .int .i64 0, .int .i64 0]) = dd9
          generalize (Value.agg #[.int .i64 2, .int .i64 2, .bool true, .int .i64 2000, .int .i64 100, .int .i64 9, .int .i64 53, .bool true, .bool false, .bool false, .bool false, .int .i64 0, .int .i64 0, .int .i64 0, .int .i64 0]) = dd10
          dsimp only [pkC, tR]
          go_wp2
          rw [show decide (30 ≤ x1 + x2) = false from decide_eq_false (by omega)]
          go_quiet (fail)
          go_wp2
          go_ret
          exact ⟨rfl, below_drewN ((unhide HF).alloc (unhide HF).size _) _⟩
end

section
open Go.RowKit

set_option maxHeartbeats 16000000 in
set_option maxRecDepth 100000 in
theorem timed_cns (kind first second : Int) (w : World) (x1 x2 : Int) (hx1 : 0 ≤ x1) (hx1' : x1 < 20) (hx2 : 0 ≤ x2) (hx2' : x2 < 1100) (hg : x1 + x2 < 20)
    (HK : ∀ W, Hid (Calls Try.prog 14 #[.int .i64 kind, .int .i64 3] W fun e w' => e = .returned (.int .i64 2) ∧ w' = W)) (H1 : ∀ W, Hid (Calls Try.prog 14 #[.int .i64 first, .int .i64 20] W fun e w' => e = .returned (.int .i64 x1) ∧ w' = W)) (H2 : ∀ W, Hid (Calls Try.prog 14 #[.int .i64 second, .int .i64 1100] W fun e w' => e = .returned (.int .i64 x2) ∧ w' = W)) :
    Calls Try.prog 8 #[.int .i64 kind, .int .i64 first, .int .i64 second, .bool false] w fun e w' => e = .returned (.bool true) ∧ Below w.heap.size w w' := by
  have e34 := eq34 9998
  go_enter Try.func8, Try.ntmps8
  go_wp2_with fail
  refine (box_any 4 w (by omega) (by omega)).mono ?_
  rintro e w1 ⟨b, rfl, hB1, hb1⟩
  have HS1 : Hid (St w w1 (fun k => w.heap.size ≤ k ∧ k < w1.heap.size) b (tb [])) := ⟨hB1, fun k hk => hk.1, Fr.of_below hb1⟩
  clear hB1 hb1
  generalize (fun k => w.heap.size ≤ k ∧ k < w1.heap.size) = F1 at HS1
  go_wp2_with fail
  refine (unhide (HK _)).mono ?_
  rintro e wx ⟨rfl, hw⟩
  symm at hw
  subst hw
  clear HK
  go_wp2_with fail
  refine (datagram_any _ _ _ _ _).mono ?_
  rintro e w2 ⟨rfl, hb2⟩
  have HS2 := hide ((unhide HS1).new hb2)
  clear hb2 HS1
  dsimp only [pkC, dgram]
  go_wp2_with fail
  have hS2 := (unhide HS2).new (belowA w2 (.cells (pkC (tP 3 false)) 38))
  have hP2 := Out.alloc (unhide HS2).box (.cells (pkC (tP 3 false)) 38)
  refine (passS (p := tP 3 false) hS2 ti_1c).mono ?_
  rintro e w3 ⟨rfl, hS3, hF3⟩
  as_aux_lemma =>
    have e1 : w2.heap.size + 1 ≤ w3.heap.size := by have := hF3.size; simpa using this
    have hP3 := hP2.pass hF3
    generalize grow F1 _ w3 = F3 at hS3 hP3
    have HS3 := hide (And.intro hS3 hP3)
    clear hS2 hP2 hS3 hF3 hP3 HS2
    generalize (Value.agg #[.int .i64 2, .int .i64 3, .bool true, .int .i64 5, .int .i64 6, .int .i64 9, .int .i64 53, .bool false, .bool false, .bool false, .bool false, .int .i64 0, .int .i64 0, .int .i64 0, .int .i64 0]) = dd1
    generalize (Value.agg #[.int .i64 2, .int .i64 1, .bool true, .int .i64 5, .int .i64 6, .int .i64 9, .int .i64 53, .bool false, .bool false, .bool false, .bool false, .int .i64 0, .int .i64 0, .int .i64 0, .int .i64 0]) = dd2
    dsimp only [pkC, tQ]
    go_wp2_with fail
    refine (unhide (H1 _)).mono ?_
    rintro e wx ⟨rfl, hw⟩
    symm at hw
    subst hw
    clear H1
    go_wp2_with fail
    have hS4 := (unhide HS3).1.new (belowA w3 (.cells (pkC (tQ 3 false)) 38))
    have hP4 := (unhide HS3).2.new (belowA w3 (.cells (pkC (tQ 3 false)) 38))
    have hQ4 := Out.alloc (unhide HS3).1.box (.cells (pkC (tQ 3 false)) 38)
    refine (tickS hS4 x1 hx1 (by omega)).mono ?_
    rintro e w4 ⟨rfl, hS5, hF5⟩
    as_aux_lemma =>
      have e2 : w3.heap.size + 1 ≤ w4.heap.size := by have := hF5.size; simpa using this
      have hP5 := hP4.pass hF5
      have hQ5 := hQ4.pass hF5
      rw [ti_stay (by show 0 + x1 < 20; omega), Int.zero_add] at hS5
      generalize grow F3 _ w4 = F4 at hS5 hP5 hQ5
      have HS5 := hide (And.intro hS5 (And.intro hP5 hQ5))
      obtain ⟨q0, q1, q2, q3, q4, q5, q6, q7, q8, q9, q10, q11, q12, q13, q14, -⟩ := pk_cells hQ5.1
      dsimp only [tQ] at q0 q1 q2 q3 q4 q5 q6 q7 q8 q9 q10 q11 q12 q13 q14
      clear hS4 hP4 hQ4 hS5 hF5 hP5 hQ5 HS3
      have l1 : w3.heap.size < w4.heap.size := by omega
      generalize (Value.tuple #[Value.agg #[.int .i64 2, .int .i64 3, .bool true, .int .i64 2000, .int .i64 100, .int .i64 9, .int .i64 53, .bool false, .bool false, .bool false, .bool false, .int .i64 0, .int .i64 0, .int .i64 0, .int .i64 0], .int .i64 0, .int .i64 0]) = dd3
      generalize (Value.agg #[.int .i64 2, .int .i64 3, .bool true, .int .i64 2000, .int .i64 100, .int .i64 9, .int .i64 53, .bool false, .bool false, .bool false, .bool false, .int .i64 0, .int .i64 0, .int .i64 0, .int .i64 0]) = dd4
      go_wp2_with fail
      refine (unhide (H2 _)).mono ?_
      rintro e wx ⟨rfl, hw⟩
      symm at hw
      subst hw
      clear H2
      go_wp2_with fail
      have hS8 := (unhide HS5).1
      have hP8 := (unhide HS5).2.1
      have hQ8 := (unhide HS5).2.2
      refine (tickS hS8 x2 hx2 (by omega)).mono ?_
      rintro e w7 ⟨rfl, hS9, hF9⟩
      as_aux_lemma =>
        have e5 : w4.heap.size ≤ w7.heap.size := by have := hF9.size; simpa using this
        have hP9 := hP8.pass hF9
        have hQ9 := hQ8.pass hF9
        rw [ti_stay (by show x1 + x2 < 20; omega)] at hS9
        generalize grow F4 _ w7 = F7 at hS9 hP9 hQ9
        have HS9 := hide (And.intro hS9 (And.intro hP9 hQ9))
        clear hS8 hP8 hQ8 hS9 hF9 hP9 hQ9 q0 q1 q2 q3 q4 q5 q6 q7 q8 q9 q10 q11 q12 q13 q14
        go_wp2_with fail
        refine (tableS (tag := 2) (unhide HS9).1 rfl).mono ?_
        rintro e w8 ⟨lv, rfl, hT, hb8⟩
        obtain ⟨g, cap, sv, rfl, hg1, hg2, hcap, hcm, k0, k1, k2, k3, k4, k5, k6⟩ := TabR.one (m := tm 3 0 (x1 + x2)) hT
        dsimp only [tm] at k0 k1 k2 k3 k5 k6
        unfold maxLen at hcm
        have hgF : ¬ F7 g := fun hk => by obtain ⟨_, _, _, _, _, q4⟩ := (unhide HS9).1.box; have := q4 g hk; omega
        have e6 := hb8.size
        have HS10 := hide (And.intro ((unhide HS9).1.new hb8) (And.intro ((unhide HS9).2.1.new hb8) ((unhide HS9).2.2.new hb8)))
        obtain ⟨q0, q1, q2, q3, q4, q5, q6, q7, q8, q9, q10, q11, q12, q13, q14, -⟩ := pk_cells (unhide HS10).2.2.1
        dsimp only [tQ] at q0 q1 q2 q3 q4 q5 q6 q7 q8 q9 q10 q11 q12 q13 q14
        clear hT hb8 HS9
        have l4 : w3.heap.size < w8.heap.size := by omega
        go_wp2_with fail
        refine (answer_any (tQ 3 false) _).mono ?_
        rintro e w9 ⟨rfl, hb9⟩
        have HS11 := hide (And.intro ((unhide HS10).1.new hb9) ((unhide HS10).2.1.new hb9))
        have e7 := hb9.size
        have k1' := (hb9.cell (p := ⟨g, 1, none⟩) hg2).trans k1
        have k2' := (hb9.cell (p := ⟨g, 2, none⟩) hg2).trans k2
        have k6' := (hb9.cell (p := ⟨g, 6, none⟩) hg2).trans k6
        clear hb9 HS10 q0 q1 q2 q3 q4 q5 q6 q7 q8 q9 q10 q11 q12 q13 q14 k0 k1 k2 k3 k4 k5 k6
        dsimp only [pkC, answerF, tQ]
        go_wp2_with fail
        refine (passS (p := tA 3) (unhide HS11).1 (ti_2c (x1 + x2))).mono ?_
        rintro e w10 ⟨rfl, hS12, hF12⟩
        as_aux_lemma =>
          have e8 : w9.heap.size ≤ w10.heap.size := hF12.size
          have hP12 := (unhide HS11).2.pass hF12
          obtain ⟨p0, p1, p2, p3, p4, -⟩ := pk_cells hP12.1
          dsimp only [tP] at p0 p1 p2 p3 p4
          have m1 := (hF12.cell (o := 1) (show g < w9.heap.size by omega) hgF).trans k1'
          have m2 := (hF12.cell (o := 2) (show g < w9.heap.size by omega) hgF).trans k2'
          have m6 := (hF12.cell (o := 6) (show g < w9.heap.size by omega) hgF).trans k6'
          have l5 : g < w10.heap.size := by omega
          have HF := hide hS12.below
          clear hS12 hF12 hP12 HS11 k1' k2' k6' hgF
          have l6 : w2.heap.size < w10.heap.size := by omega
          generalize (Value.agg #[.int .i64 2, .int .i64 3, .bool false, .int .i64 9, .int .i64 53, .int .i64 2000, .int .i64 100, .bool false, .bool false, .bool false, .bool false, .int .i64 0, .int .i64 0, .int .i64 0, .int .i64 0]) = dd9
          generalize (Value.agg #[.int .i64 2, .int .i64 3, .bool true, .int .i64 2000, .int .i64 100, .int .i64 9, .int .i64 53, .bool false, .bool false, .bool false, .bool false, .int .i64 0, .int .i64 0, .int .i64 0, .int .i64 0]) = dd10
          dsimp only [pkC, tR]
          go_wp2
          rw [show decide (20 ≤ x1 + x2) = false from decide_eq_false (by omega)]
          go_quiet (fail)
          go_wp2
          go_ret
          exact ⟨rfl, below_drewN ((unhide HF).alloc (unhide HF).size _) _⟩
end

section
open Go.RowKit

set_option maxHeartbeats 16000000 in
set_option maxRecDepth 100000 in
theorem timed_big (kind first second : Int) (w : World) (x1 x2 : Int) (hx1 : 0 ≤ x1) (hx1' : x1 < 30) (hx2 : 0 ≤ x2) (hx2' : x2 < 1100) (hg : ¬ x2 < 1000)
    (HK : ∀ W, Hid (Calls Try.prog 14 #[.int .i64 kind, .int .i64 3] W fun e w' => e = .returned (.int .i64 1) ∧ w' = W)) (H1 : ∀ W, Hid (Calls Try.prog 14 #[.int .i64 first, .int .i64 30] W fun e w' => e = .returned (.int .i64 x1) ∧ w' = W)) (H2 : ∀ W, Hid (Calls Try.prog 14 #[.int .i64 second, .int .i64 1100] W fun e w' => e = .returned (.int .i64 x2) ∧ w' = W)) :
    Calls Try.prog 8 #[.int .i64 kind, .int .i64 first, .int .i64 second, .bool true] w fun e w' => e = .returned (.bool true) ∧ Below w.heap.size w w' := by
  have e34 := eq34 9998
  go_enter Try.func8, Try.ntmps8
  go_wp2_with fail
  refine (box_any 4 w (by omega) (by omega)).mono ?_
  rintro e w1 ⟨b, rfl, hB1, hb1⟩
  have HS1 : Hid (St w w1 (fun k => w.heap.size ≤ k ∧ k < w1.heap.size) b (tb [])) := ⟨hB1, fun k hk => hk.1, Fr.of_below hb1⟩
  clear hB1 hb1
  generalize (fun k => w.heap.size ≤ k ∧ k < w1.heap.size) = F1 at HS1
  go_wp2_with fail
  refine (unhide (HK _)).mono ?_
  rintro e wx ⟨rfl, hw⟩
  symm at hw
  subst hw
  clear HK
  go_wp2_with fail
  refine (datagram_any _ _ _ _ _).mono ?_
  rintro e w2 ⟨rfl, hb2⟩
  have HS2 := hide ((unhide HS1).new hb2)
  clear hb2 HS1
  dsimp only [pkC, dgram]
  go_wp2_with fail
  have hS2 := (unhide HS2).new (belowA w2 (.cells (pkC (tP 2 true)) 38))
  have hP2 := Out.alloc (unhide HS2).box (.cells (pkC (tP 2 true)) 38)
  refine (passS (p := tP 2 true) hS2 ti_1b).mono ?_
  rintro e w3 ⟨rfl, hS3, hF3⟩
  as_aux_lemma =>
    have e1 : w2.heap.size + 1 ≤ w3.heap.size := by have := hF3.size; simpa using this
    have hP3 := hP2.pass hF3
    generalize grow F1 _ w3 = F3 at hS3 hP3
    have HS3 := hide (And.intro hS3 hP3)
    clear hS2 hP2 hS3 hF3 hP3 HS2
    generalize (Value.agg #[.int .i64 2, .int .i64 2, .bool true, .int .i64 5, .int .i64 6, .int .i64 9, .int .i64 53, .bool true, .bool false, .bool false, .bool false, .int .i64 0, .int .i64 0, .int .i64 0, .int .i64 0]) = dd1
    generalize (Value.agg #[.int .i64 2, .int .i64 1, .bool true, .int .i64 5, .int .i64 6, .int .i64 9, .int .i64 53, .bool false, .bool false, .bool false, .bool false, .int .i64 0, .int .i64 0, .int .i64 0, .int .i64 0]) = dd2
    dsimp only [pkC, tQ]
    go_wp2_with fail
    refine (unhide (H1 _)).mono ?_
    rintro e wx ⟨rfl, hw⟩
    symm at hw
    subst hw
    clear H1
    go_wp2_with fail
    have hS4 := (unhide HS3).1.new (belowA w3 (.cells (pkC (tQ 2 true)) 38))
    have hP4 := (unhide HS3).2.new (belowA w3 (.cells (pkC (tQ 2 true)) 38))
    have hQ4 := Out.alloc (unhide HS3).1.box (.cells (pkC (tQ 2 true)) 38)
    refine (tickS hS4 x1 hx1 (by omega)).mono ?_
    rintro e w4 ⟨rfl, hS5, hF5⟩
    as_aux_lemma =>
      have e2 : w3.heap.size + 1 ≤ w4.heap.size := by have := hF5.size; simpa using this
      have hP5 := hP4.pass hF5
      have hQ5 := hQ4.pass hF5
      rw [ti_stay (by show 0 + x1 < 30; omega), Int.zero_add] at hS5
      generalize grow F3 _ w4 = F4 at hS5 hP5 hQ5
      have HS5 := hide (And.intro hS5 (And.intro hP5 hQ5))
      obtain ⟨q0, q1, q2, q3, q4, q5, q6, q7, q8, q9, q10, q11, q12, q13, q14, -⟩ := pk_cells hQ5.1
      dsimp only [tQ] at q0 q1 q2 q3 q4 q5 q6 q7 q8 q9 q10 q11 q12 q13 q14
      clear hS4 hP4 hQ4 hS5 hF5 hP5 hQ5 HS3
      have l1 : w3.heap.size < w4.heap.size := by omega
      generalize (Value.tuple #[Value.agg #[.int .i64 2, .int .i64 2, .bool true, .int .i64 2000, .int .i64 100, .int .i64 9, .int .i64 53, .bool true, .bool false, .bool false, .bool false, .int .i64 0, .int .i64 0, .int .i64 0, .int .i64 0], .int .i64 0, .int .i64 0]) = dd3
      generalize (Value.agg #[.int .i64 2, .int .i64 2, .bool true, .int .i64 2000, .int .i64 100, .int .i64 9, .int .i64 53, .bool true, .bool false, .bool false, .bool false, .int .i64 0, .int .i64 0, .int .i64 0, .int .i64 0]) = dd4
      go_wp2_with fail
      refine (answer_any (tQ 2 true) _).mono ?_
      rintro e w5 ⟨rfl, hb5⟩
      have HS6 := hide (And.intro ((unhide HS5).1.new hb5) (And.intro ((unhide HS5).2.1.new hb5) ((unhide HS5).2.2.new hb5)))
      have e3 := hb5.size
      clear hb5 HS5 q0 q1 q2 q3 q4 q5 q6 q7 q8 q9 q10 q11 q12 q13 q14
      dsimp only [pkC, answerF, tQ]
      go_wp2_with fail
      refine (passS (p := tA 2) (unhide HS6).1 (ti_2b x1)).mono ?_
      rintro e w6 ⟨rfl, hS7, hF7⟩
      as_aux_lemma =>
        have e4 : w5.heap.size ≤ w6.heap.size := hF7.size
        have hP7 := (unhide HS6).2.1.pass hF7
        have hQ7 := (unhide HS6).2.2.pass hF7
        generalize grow F4 _ w6 = F6 at hS7 hP7 hQ7
        have HS7 := hide (And.intro hS7 (And.intro hP7 hQ7))
        obtain ⟨p0, p1, p2, p3, p4, p5, p6, p7, p8, p9, p10, p11, p12, p13, p14, -⟩ := pk_cells hP7.1
        obtain ⟨q0, q1, q2, q3, q4, q5, q6, q7, q8, q9, q10, q11, q12, q13, q14, -⟩ := pk_cells hQ7.1
        dsimp only [tQ, tP] at q0 q1 q2 q3 q4 q5 q6 q7 q8 q9 q10 q11 q12 q13 q14 p0 p1 p2 p3 p4 p5 p6 p7 p8 p9 p10 p11 p12 p13 p14
        clear hS7 hF7 hP7 hQ7 HS6
        have l2 : w3.heap.size < w6.heap.size := by omega
        have l3 : w2.heap.size < w6.heap.size := by omega
        generalize (Value.agg #[.int .i64 2, .int .i64 2, .bool false, .int .i64 9, .int .i64 53, .int .i64 2000, .int .i64 100, .bool false, .bool false, .bool false, .bool false, .int .i64 0, .int .i64 0, .int .i64 0, .int .i64 0]) = dd5
        generalize (Value.agg #[.int .i64 2, .int .i64 2, .bool true, .int .i64 2000, .int .i64 100, .int .i64 9, .int .i64 53, .bool true, .bool false, .bool false, .bool false, .int .i64 0, .int .i64 0, .int .i64 0, .int .i64 0]) = dd6
        dsimp only [pkC, tR]
        go_wp2_with fail
        refine (unhide (H2 _)).mono ?_
        rintro e wx ⟨rfl, hw⟩
        symm at hw
        subst hw
        clear H2
        go_wp2_with fail
        have hS8 := (unhide HS7).1.new (belowA w6 (.cells (pkC (tR 2)) 38))
        have hP8 := (unhide HS7).2.1.new (belowA w6 (.cells (pkC (tR 2)) 38))
        have hQ8 := (unhide HS7).2.2.new (belowA w6 (.cells (pkC (tR 2)) 38))
        generalize (Value.tuple #[Value.agg #[.int .i64 2, .int .i64 2, .bool false, .int .i64 9, .int .i64 53, .int .i64 5, .int .i64 6, .bool false, .bool false, .bool false, .bool false, .int .i64 0, .int .i64 0, .int .i64 0, .int .i64 0], .int .i64 0, .int .i64 0]) = dd7
        generalize (Value.agg #[.int .i64 2, .int .i64 2, .bool false, .int .i64 9, .int .i64 53, .int .i64 5, .int .i64 6, .bool false, .bool false, .bool false, .bool false, .int .i64 0, .int .i64 0, .int .i64 0, .int .i64 0]) = dd8
        refine (tickS hS8 x2 hx2 (by omega)).mono ?_
        rintro e w7 ⟨rfl, hS9, hF9⟩
        as_aux_lemma =>
          have e5 : w6.heap.size + 1 ≤ w7.heap.size := by have := hF9.size; simpa using this
          have hP9 := hP8.pass hF9
          have hQ9 := hQ8.pass hF9
          rw [ti_gone (by show ¬ 0 + x2 < 1000; omega)] at hS9
          generalize grow F6 _ w7 = F7 at hS9 hP9 hQ9
          have HS9 := hide (And.intro hS9 (And.intro hP9 hQ9))
          clear hS8 hP8 hQ8 hS9 hF9 hP9 hQ9 p0 p1 p2 p3 p4 p5 p6 p7 p8 p9 p10 p11 p12 p13 p14 q0 q1 q2 q3 q4 q5 q6 q7 q8 q9 q10 q11 q12 q13 q14
          go_wp2_with fail
          refine (tableS (tag := 2) (unhide HS9).1 rfl).mono ?_
          rintro e w8 ⟨lv, rfl, hT, hb8⟩
          obtain ⟨ao, cap, rfl⟩ := TabR.none hT
          have e6 := hb8.size
          have HS10 := hide (And.intro ((unhide HS9).1.new hb8) (And.intro ((unhide HS9).2.1.new hb8) ((unhide HS9).2.2.new hb8)))
          obtain ⟨q0, q1, q2, q3, q4, q5, q6, q7, q8, q9, q10, q11, q12, q13, q14, -⟩ := pk_cells (unhide HS10).2.2.1
          dsimp only [tQ] at q0 q1 q2 q3 q4 q5 q6 q7 q8 q9 q10 q11 q12 q13 q14
          clear hT hb8 HS9
          have l4 : w3.heap.size < w8.heap.size := by omega
          go_wp2_with fail
          refine (answer_any (tQ 2 true) _).mono ?_
          rintro e w9 ⟨rfl, hb9⟩
          have HS11 := hide (And.intro ((unhide HS10).1.new hb9) ((unhide HS10).2.1.new hb9))
          have e7 := hb9.size
          clear hb9 HS10 q0 q1 q2 q3 q4 q5 q6 q7 q8 q9 q10 q11 q12 q13 q14
          dsimp only [pkC, answerF, tQ]
          go_wp2_with fail
          refine (passS (p := tA 2) (unhide HS11).1 (ti_3b)).mono ?_
          rintro e w10 ⟨rfl, hS12, hF12⟩
          as_aux_lemma =>
            have e8 : w9.heap.size ≤ w10.heap.size := hF12.size
            have hP12 := (unhide HS11).2.pass hF12
            obtain ⟨p0, p1, p2, p3, p4, -⟩ := pk_cells hP12.1
            dsimp only [tP] at p0 p1 p2 p3 p4
            have HF := hide hS12.below
            clear hS12 hF12 hP12 HS11
            have l6 : w2.heap.size < w10.heap.size := by omega
            generalize (Value.agg #[.int .i64 2, .int .i64 2, .bool false, .int .i64 9, .int .i64 53, .int .i64 2000, .int .i64 100, .bool false, .bool false, .bool false, .bool false, .int .i64 0, .int .i64 0, .int .i64 0, .int .i64 0]) = dd9
            generalize (Value.agg #[.int .i64 2, .int .i64 2, .bool true, .int .i64 2000, .int .i64 100, .int .i64 9, .int .i64 53, .bool true, .bool false, .bool false, .bool false, .int .i64 0, .int .i64 0, .int .i64 0, .int .i64 0]) = dd10
            dsimp only [pkC, pk0]
            go_wp2
            go_quiet (fail)
            go_wp2
            go_ret
            exact ⟨rfl, below_drewN ((unhide HF).alloc (unhide HF).size _) _⟩
end

section
open Go.RowKit

set_option maxHeartbeats 16000000 in
set_option maxRecDepth 100000 in
theorem timed_bis (kind first second : Int) (w : World) (x1 x2 : Int) (hx1 : 0 ≤ x1) (hx1' : x1 < 30) (hx2 : 0 ≤ x2) (hx2' : x2 < 1100) (hg : x2 < 1000)
    (HK : ∀ W, Hid (Calls Try.prog 14 #[.int .i64 kind, .int .i64 3] W fun e w' => e = .returned (.int .i64 1) ∧ w' = W)) (H1 : ∀ W, Hid (Calls Try.prog 14 #[.int .i64 first, .int .i64 30] W fun e w' => e = .returned (.int .i64 x1) ∧ w' = W)) (H2 : ∀ W, Hid (Calls Try.prog 14 #[.int .i64 second, .int .i64 1100] W fun e w' => e = .returned (.int .i64 x2) ∧ w' = W)) :
    Calls Try.prog 8 #[.int .i64 kind, .int .i64 first, .int .i64 second, .bool true] w fun e w' => e = .returned (.bool true) ∧ Below w.heap.size w w' := by
  have e34 := eq34 9998
  go_enter Try.func8, Try.ntmps8
  go_wp2_with fail
  refine (box_any 4 w (by omega) (by omega)).mono ?_
  rintro e w1 ⟨b, rfl, hB1, hb1⟩
  have HS1 : Hid (St w w1 (fun k => w.heap.size ≤ k ∧ k < w1.heap.size) b (tb [])) := ⟨hB1, fun k hk => hk.1, Fr.of_below hb1⟩
  clear hB1 hb1
  generalize (fun k => w.heap.size ≤ k ∧ k < w1.heap.size) = F1 at HS1
  go_wp2_with fail
  refine (unhide (HK _)).mono ?_
  rintro e wx ⟨rfl, hw⟩
  symm at hw
  subst hw
  clear HK
  go_wp2_with fail
  refine (datagram_any _ _ _ _ _).mono ?_
  rintro e w2 ⟨rfl, hb2⟩
  have HS2 := hide ((unhide HS1).new hb2)
  clear hb2 HS1
  dsimp only [pkC, dgram]
  go_wp2_with fail
  have hS2 := (unhide HS2).new (belowA w2 (.cells (pkC (tP 2 true)) 38))
  have hP2 := Out.alloc (unhide HS2).box (.cells (pkC (tP 2 true)) 38)
  refine (passS (p := tP 2 true) hS2 ti_1b).mono ?_
  rintro e w3 ⟨rfl, hS3, hF3⟩
  as_aux_lemma =>
    have e1 : w2.heap.size + 1 ≤ w3.heap.size := by have := hF3.size; simpa using this
    have hP3 := hP2.pass hF3
    generalize grow F1 _ w3 = F3 at hS3 hP3
    have HS3 := hide (And.intro hS3 hP3)
    clear hS2 hP2 hS3 hF3 hP3 HS2
    generalize (Value.agg #[.int .i64 2, .int .i64 2, .bool true, .int .i64 5, .int .i64 6, .int .i64 9, .int .i64 53, .bool true, .bool false, .bool false, .bool false, .int .i64 0, .int .i64 0, .int .i64 0, .int .i64 0]) = dd1
    generalize (Value.agg #[.int .i64 2, .int .i64 1, .bool true, .int .i64 5, .int .i64 6, .int .i64 9, .int .i64 53, .bool false, .bool false, .bool false, .bool false, .int .i64 0, .int .i64 0, .int .i64 0, .int .i64 0]) = dd2
    dsimp only [pkC, tQ]
    go_wp2_with fail
    refine (unhide (H1 _)).mono ?_
    rintro e wx ⟨rfl, hw⟩
    symm at hw
    subst hw
    clear H1
    go_wp2_with fail
    have hS4 := (unhide HS3).1.new (belowA w3 (.cells (pkC (tQ 2 true)) 38))
    have hP4 := (unhide HS3).2.new (belowA w3 (.cells (pkC (tQ 2 true)) 38))
    have hQ4 := Out.alloc (unhide HS3).1.box (.cells (pkC (tQ 2 true)) 38)
    refine (tickS hS4 x1 hx1 (by omega)).mono ?_
    rintro e w4 ⟨rfl, hS5, hF5⟩
    as_aux_lemma =>
      have e2 : w3.heap.size + 1 ≤ w4.heap.size := by have := hF5.size; simpa using this
      have hP5 := hP4.pass hF5
      have hQ5 := hQ4.pass hF5
      rw [ti_stay (by show 0 + x1 < 30; omega), Int.zero_add] at hS5
      generalize grow F3 _ w4 = F4 at hS5 hP5 hQ5
      have HS5 := hide (And.intro hS5 (And.intro hP5 hQ5))
      obtain ⟨q0, q1, q2, q3, q4, q5, q6, q7, q8, q9, q10, q11, q12, q13, q14, -⟩ := pk_cells hQ5.1
      dsimp only [tQ] at q0 q1 q2 q3 q4 q5 q6 q7 q8 q9 q10 q11 q12 q13 q14
      clear hS4 hP4 hQ4 hS5 hF5 hP5 hQ5 HS3
      have l1 : w3.heap.size < w4.heap.size := by omega
      generalize (Value.tuple #[Value.agg #[.int .i64 2, .int .i64 2, .bool true, .int .i64 2000, .int .i64 100, .int .i64 9, .int .i64 53, .bool true, .bool false, .bool false, .bool false, .int .i64 0, .int .i64 0, .int .i64 0, .int .i64 0], .int .i64 0, .int .i64 0]) = dd3
      generalize (Value.agg #[.int .i64 2, .int .i64 2, .bool true, .int .i64 2000, .int .i64 100, .int .i64 9, .int .i64 53, .bool true, .bool false, .bool false, .bool false, .int .i64 0, .int .i64 0, .int .i64 0, .int .i64 0]) = dd4
      go_wp2_with fail
      refine (answer_any (tQ 2 true) _).mono ?_
      rintro e w5 ⟨rfl, hb5⟩
      have HS6 := hide (And.intro ((unhide HS5).1.new hb5) (And.intro ((unhide HS5).2.1.new hb5) ((unhide HS5).2.2.new hb5)))
      have e3 := hb5.size
      clear hb5 HS5 q0 q1 q2 q3 q4 q5 q6 q7 q8 q9 q10 q11 q12 q13 q14
      dsimp only [pkC, answerF, tQ]
      go_wp2_with fail
      refine (passS (p := tA 2) (unhide HS6).1 (ti_2b x1)).mono ?_
      rintro e w6 ⟨rfl, hS7, hF7⟩
      as_aux_lemma =>
        have e4 : w5.heap.size ≤ w6.heap.size := hF7.size
        have hP7 := (unhide HS6).2.1.pass hF7
        have hQ7 := (unhide HS6).2.2.pass hF7
        generalize grow F4 _ w6 = F6 at hS7 hP7 hQ7
        have HS7 := hide (And.intro hS7 (And.intro hP7 hQ7))
        obtain ⟨p0, p1, p2, p3, p4, p5, p6, p7, p8, p9, p10, p11, p12, p13, p14, -⟩ := pk_cells hP7.1
        obtain ⟨q0, q1, q2, q3, q4, q5, q6, q7, q8, q9, q10, q11, q12, q13, q14, -⟩ := pk_cells hQ7.1
        dsimp only [tQ, tP] at q0 q1 q2 q3 q4 q5 q6 q7 q8 q9 q10 q11 q12 q13 q14 p0 p1 p2 p3 p4 p5 p6 p7 p8 p9 p10 p11 p12 p13 p14
        clear hS7 hF7 hP7 hQ7 HS6
        have l2 : w3.heap.size < w6.heap.size := by omega
        have l3 : w2.heap.size < w6.heap.size := by omega
        generalize (Value.agg #[.int .i64 2, .int .i64 2, .bool false, .int .i64 9, .int .i64 53, .int .i64 2000, .int .i64 100, .bool false, .bool false, .bool false, .bool false, .int .i64 0, .int .i64 0, .int .i64 0, .int .i64 0]) = dd5
        generalize (Value.agg #[.int .i64 2, .int .i64 2, .bool true, .int .i64 2000, .int .i64 100, .int .i64 9, .int .i64 53, .bool true, .bool false, .bool false, .bool false, .int .i64 0, .int .i64 0, .int .i64 0, .int .i64 0]) = dd6
        dsimp only [pkC, tR]
        go_wp2_with fail
        refine (unhide (H2 _)).mono ?_
        rintro e wx ⟨rfl, hw⟩
        symm at hw
        subst hw
        clear H2
        go_wp2_with fail
        have hS8 := (unhide HS7).1.new (belowA w6 (.cells (pkC (tR 2)) 38))
        have hP8 := (unhide HS7).2.1.new (belowA w6 (.cells (pkC (tR 2)) 38))
        have hQ8 := (unhide HS7).2.2.new (belowA w6 (.cells (pkC (tR 2)) 38))
        generalize (Value.tuple #[Value.agg #[.int .i64 2, .int .i64 2, .bool false, .int .i64 9, .int .i64 53, .int .i64 5, .int .i64 6, .bool false, .bool false, .bool false, .bool false, .int .i64 0, .int .i64 0, .int .i64 0, .int .i64 0], .int .i64 0, .int .i64 0]) = dd7
        generalize (Value.agg #[.int .i64 2, .int .i64 2, .bool false, .int .i64 9, .int .i64 53, .int .i64 5, .int .i64 6, .bool false, .bool false, .bool false, .bool false, .int .i64 0, .int .i64 0, .int .i64 0, .int .i64 0]) = dd8
        refine (tickS hS8 x2 hx2 (by omega)).mono ?_
        rintro e w7 ⟨rfl, hS9, hF9⟩
        as_aux_lemma =>
          have e5 : w6.heap.size + 1 ≤ w7.heap.size := by have := hF9.size; simpa using this
          have hP9 := hP8.pass hF9
          have hQ9 := hQ8.pass hF9
          rw [ti_stay (by show 0 + x2 < 1000; omega), Int.zero_add] at hS9
          generalize grow F6 _ w7 = F7 at hS9 hP9 hQ9
          have HS9 := hide (And.intro hS9 (And.intro hP9 hQ9))
          clear hS8 hP8 hQ8 hS9 hF9 hP9 hQ9 p0 p1 p2 p3 p4 p5 p6 p7 p8 p9 p10 p11 p12 p13 p14 q0 q1 q2 q3 q4 q5 q6 q7 q8 q9 q10 q11 q12 q13 q14
          go_wp2_with fail
          refine (tableS (tag := 2) (unhide HS9).1 rfl).mono ?_
          rintro e w8 ⟨lv, rfl, hT, hb8⟩
          obtain ⟨g, cap, sv, rfl, hg1, hg2, hcap, hcm, k0, k1, k2, k3, k4, k5, k6⟩ := TabR.one (m := tm 2 2 (x2)) hT
          dsimp only [tm] at k0 k1 k2 k3 k5 k6
          unfold maxLen at hcm
          have hgF : ¬ F7 g := fun hk => by obtain ⟨_, _, _, _, _, q4⟩ := (unhide HS9).1.box; have := q4 g hk; omega
          have e6 := hb8.size
          have HS10 := hide (And.intro ((unhide HS9).1.new hb8) (And.intro ((unhide HS9).2.1.new hb8) ((unhide HS9).2.2.new hb8)))
          obtain ⟨q0, q1, q2, q3, q4, q5, q6, q7, q8, q9, q10, q11, q12, q13, q14, -⟩ := pk_cells (unhide HS10).2.2.1
          dsimp only [tQ] at q0 q1 q2 q3 q4 q5 q6 q7 q8 q9 q10 q11 q12 q13 q14
          clear hT hb8 HS9
          have l4 : w3.heap.size < w8.heap.size := by omega
          go_wp2_with fail
          refine (answer_any (tQ 2 true) _).mono ?_
          rintro e w9 ⟨rfl, hb9⟩
          have HS11 := hide (And.intro ((unhide HS10).1.new hb9) ((unhide HS10).2.1.new hb9))
          have e7 := hb9.size
          have k1' := (hb9.cell (p := ⟨g, 1, none⟩) hg2).trans k1
          have k2' := (hb9.cell (p := ⟨g, 2, none⟩) hg2).trans k2
          have k6' := (hb9.cell (p := ⟨g, 6, none⟩) hg2).trans k6
          clear hb9 HS10 q0 q1 q2 q3 q4 q5 q6 q7 q8 q9 q10 q11 q12 q13 q14 k0 k1 k2 k3 k4 k5 k6
          dsimp only [pkC, answerF, tQ]
          go_wp2_with fail
          refine (passS (p := tA 2) (unhide HS11).1 (ti_2d (x2))).mono ?_
          rintro e w10 ⟨rfl, hS12, hF12⟩
          as_aux_lemma =>
            have e8 : w9.heap.size ≤ w10.heap.size := hF12.size
            have hP12 := (unhide HS11).2.pass hF12
            obtain ⟨p0, p1, p2, p3, p4, -⟩ := pk_cells hP12.1
            dsimp only [tP] at p0 p1 p2 p3 p4
            have m1 := (hF12.cell (o := 1) (show g < w9.heap.size by omega) hgF).trans k1'
            have m2 := (hF12.cell (o := 2) (show g < w9.heap.size by omega) hgF).trans k2'
            have m6 := (hF12.cell (o := 6) (show g < w9.heap.size by omega) hgF).trans k6'
            have l5 : g < w10.heap.size := by omega
            have HF := hide hS12.below
            clear hS12 hF12 hP12 HS11 k1' k2' k6' hgF
            have l6 : w2.heap.size < w10.heap.size := by omega
            generalize (Value.agg #[.int .i64 2, .int .i64 2, .bool false, .int .i64 9, .int .i64 53, .int .i64 2000, .int .i64 100, .bool false, .bool false, .bool false, .bool false, .int .i64 0, .int .i64 0, .int .i64 0, .int .i64 0]) = dd9
            generalize (Value.agg #[.int .i64 2, .int .i64 2, .bool true, .int .i64 2000, .int .i64 100, .int .i64 9, .int .i64 53, .bool true, .bool false, .bool false, .bool false, .int .i64 0, .int .i64 0, .int .i64 0, .int .i64 0]) = dd10
            dsimp only [pkC, tR]
            go_wp2
            rw [show decide (1000 ≤ x2) = false from decide_eq_false (by omega)]
            go_quiet (fail)
            go_wp2
            go_ret
            exact ⟨rfl, below_drewN ((unhide HF).alloc (unhide HF).size _) _⟩
end

section
open Go.RowKit

set_option maxHeartbeats 16000000 in
set_option maxRecDepth 100000 in
theorem timed_cig (kind first second : Int) (w : World) (x1 x2 : Int) (hx1 : 0 ≤ x1) (hx1' : x1 < 20) (hx2 : 0 ≤ x2) (hx2' : x2 < 1100) (hg : ¬ x1 + x2 < 20)
    (HK : ∀ W, Hid (Calls Try.prog 14 #[.int .i64 kind, .int .i64 3] W fun e w' => e = .returned (.int .i64 2) ∧ w' = W)) (H1 : ∀ W, Hid (Calls Try.prog 14 #[.int .i64 first, .int .i64 20] W fun e w' => e = .returned (.int .i64 x1) ∧ w' = W)) (H2 : ∀ W, Hid (Calls Try.prog 14 #[.int .i64 second, .int .i64 1100] W fun e w' => e = .returned (.int .i64 x2) ∧ w' = W)) :
    Calls Try.prog 8 #[.int .i64 kind, .int .i64 first, .int .i64 second, .bool true] w fun e w' => e = .returned (.bool true) ∧ Below w.heap.size w w' := by
  have e34 := eq34 9998
  go_enter Try.func8, Try.ntmps8
  go_wp2_with fail
  refine (box_any 4 w (by omega) (by omega)).mono ?_
  rintro e w1 ⟨b, rfl, hB1, hb1⟩
  have HS1 : Hid (St w w1 (fun k => w.heap.size ≤ k ∧ k < w1.heap.size) b (tb [])) := ⟨hB1, fun k hk => hk.1, Fr.of_below hb1⟩
  clear hB1 hb1
  generalize (fun k => w.heap.size ≤ k ∧ k < w1.heap.size) = F1 at HS1
  go_wp2_with fail
  refine (unhide (HK _)).mono ?_
  rintro e wx ⟨rfl, hw⟩
  symm at hw
  subst hw
  clear HK
  go_wp2_with fail
  refine (datagram_any _ _ _ _ _).mono ?_
  rintro e w2 ⟨rfl, hb2⟩
  have HS2 := hide ((unhide HS1).new hb2)
  clear hb2 HS1
  dsimp only [pkC, dgram]
  go_wp2_with fail
  have hS2 := (unhide HS2).new (belowA w2 (.cells (pkC (tP 3 false)) 38))
  have hP2 := Out.alloc (unhide HS2).box (.cells (pkC (tP 3 false)) 38)
  refine (passS (p := tP 3 false) hS2 ti_1c).mono ?_
  rintro e w3 ⟨rfl, hS3, hF3⟩
  as_aux_lemma =>
    have e1 : w2.heap.size + 1 ≤ w3.heap.size := by have := hF3.size; simpa using this
    have hP3 := hP2.pass hF3
    generalize grow F1 _ w3 = F3 at hS3 hP3
    have HS3 := hide (And.intro hS3 hP3)
    clear hS2 hP2 hS3 hF3 hP3 HS2
    generalize (Value.agg #[.int .i64 2, .int .i64 3, .bool true, .int .i64 5, .int .i64 6, .int .i64 9, .int .i64 53, .bool false, .bool false, .bool false, .bool false, .int .i64 0, .int .i64 0, .int .i64 0, .int .i64 0]) = dd1
    generalize (Value.agg #[.int .i64 2, .int .i64 1, .bool true, .int .i64 5, .int .i64 6, .int .i64 9, .int .i64 53, .bool false, .bool false, .bool false, .bool false, .int .i64 0, .int .i64 0, .int .i64 0, .int .i64 0]) = dd2
    dsimp only [pkC, tQ]
    go_wp2_with fail
    refine (unhide (H1 _)).mono ?_
    rintro e wx ⟨rfl, hw⟩
    symm at hw
    subst hw
    clear H1
    go_wp2_with fail
    have hS4 := (unhide HS3).1.new (belowA w3 (.cells (pkC (tQ 3 false)) 38))
    have hP4 := (unhide HS3).2.new (belowA w3 (.cells (pkC (tQ 3 false)) 38))
    have hQ4 := Out.alloc (unhide HS3).1.box (.cells (pkC (tQ 3 false)) 38)
    refine (tickS hS4 x1 hx1 (by omega)).mono ?_
    rintro e w4 ⟨rfl, hS5, hF5⟩
    as_aux_lemma =>
      have e2 : w3.heap.size + 1 ≤ w4.heap.size := by have := hF5.size; simpa using this
      have hP5 := hP4.pass hF5
      have hQ5 := hQ4.pass hF5
      rw [ti_stay (by show 0 + x1 < 20; omega), Int.zero_add] at hS5
      generalize grow F3 _ w4 = F4 at hS5 hP5 hQ5
      have HS5 := hide (And.intro hS5 (And.intro hP5 hQ5))
      obtain ⟨q0, q1, q2, q3, q4, q5, q6, q7, q8, q9, q10, q11, q12, q13, q14, -⟩ := pk_cells hQ5.1
      dsimp only [tQ] at q0 q1 q2 q3 q4 q5 q6 q7 q8 q9 q10 q11 q12 q13 q14
      clear hS4 hP4 hQ4 hS5 hF5 hP5 hQ5 HS3
      have l1 : w3.heap.size < w4.heap.size := by omega
      generalize (Value.tuple #[Value.agg #[.int .i64 2, .int .i64 3, .bool true, .int .i64 2000, .int .i64 100, .int .i64 9, .int .i64 53, .bool false, .bool false, .bool false, .bool false, .int .i64 0, .int .i64 0, .int .i64 0, .int .i64 0], .int .i64 0, .int .i64 0]) = dd3
      generalize (Value.agg #[.int .i64 2, .int .i64 3, .bool true, .int .i64 2000, .int .i64 100, .int .i64 9, .int .i64 53, .bool false, .bool false, .bool false, .bool false, .int .i64 0, .int .i64 0, .int .i64 0, .int .i64 0]) = dd4
      go_wp2_with fail
      refine (answer_any (tQ 3 false) _).mono ?_
      rintro e w5 ⟨rfl, hb5⟩
      have HS6 := hide (And.intro ((unhide HS5).1.new hb5) (And.intro ((unhide HS5).2.1.new hb5) ((unhide HS5).2.2.new hb5)))
      have e3 := hb5.size
      clear hb5 HS5 q0 q1 q2 q3 q4 q5 q6 q7 q8 q9 q10 q11 q12 q13 q14
      dsimp only [pkC, answerF, tQ]
      go_wp2_with fail
      refine (passS (p := tA 3) (unhide HS6).1 (ti_2c x1)).mono ?_
      rintro e w6 ⟨rfl, hS7, hF7⟩
      as_aux_lemma =>
        have e4 : w5.heap.size ≤ w6.heap.size := hF7.size
        have hP7 := (unhide HS6).2.1.pass hF7
        have hQ7 := (unhide HS6).2.2.pass hF7
        generalize grow F4 _ w6 = F6 at hS7 hP7 hQ7
        have HS7 := hide (And.intro hS7 (And.intro hP7 hQ7))
        obtain ⟨p0, p1, p2, p3, p4, p5, p6, p7, p8, p9, p10, p11, p12, p13, p14, -⟩ := pk_cells hP7.1
        obtain ⟨q0, q1, q2, q3, q4, q5, q6, q7, q8, q9, q10, q11, q12, q13, q14, -⟩ := pk_cells hQ7.1
        dsimp only [tQ, tP] at q0 q1 q2 q3 q4 q5 q6 q7 q8 q9 q10 q11 q12 q13 q14 p0 p1 p2 p3 p4 p5 p6 p7 p8 p9 p10 p11 p12 p13 p14
        clear hS7 hF7 hP7 hQ7 HS6
        have l2 : w3.heap.size < w6.heap.size := by omega
        have l3 : w2.heap.size < w6.heap.size := by omega
        generalize (Value.agg #[.int .i64 2, .int .i64 3, .bool false, .int .i64 9, .int .i64 53, .int .i64 2000, .int .i64 100, .bool false, .bool false, .bool false, .bool false, .int .i64 0, .int .i64 0, .int .i64 0, .int .i64 0]) = dd5
        generalize (Value.agg #[.int .i64 2, .int .i64 3, .bool true, .int .i64 2000, .int .i64 100, .int .i64 9, .int .i64 53, .bool false, .bool false, .bool false, .bool false, .int .i64 0, .int .i64 0, .int .i64 0, .int .i64 0]) = dd6
        dsimp only [pkC, tR]
        go_wp2_with fail
        refine (unhide (H2 _)).mono ?_
        rintro e wx ⟨rfl, hw⟩
        symm at hw
        subst hw
        clear H2
        go_wp2_with fail
        have hS8 := (unhide HS7).1.new (belowA w6 (.cells (pkC (tR 3)) 38))
        have hP8 := (unhide HS7).2.1.new (belowA w6 (.cells (pkC (tR 3)) 38))
        have hQ8 := (unhide HS7).2.2.new (belowA w6 (.cells (pkC (tR 3)) 38))
        generalize (Value.tuple #[Value.agg #[.int .i64 2, .int .i64 3, .bool false, .int .i64 9, .int .i64 53, .int .i64 5, .int .i64 6, .bool false, .bool false, .bool false, .bool false, .int .i64 0, .int .i64 0, .int .i64 0, .int .i64 0], .int .i64 0, .int .i64 0]) = dd7
        generalize (Value.agg #[.int .i64 2, .int .i64 3, .bool false, .int .i64 9, .int .i64 53, .int .i64 5, .int .i64 6, .bool false, .bool false, .bool false, .bool false, .int .i64 0, .int .i64 0, .int .i64 0, .int .i64 0]) = dd8
        refine (tickS hS8 x2 hx2 (by omega)).mono ?_
        rintro e w7 ⟨rfl, hS9, hF9⟩
        as_aux_lemma =>
          have e5 : w6.heap.size + 1 ≤ w7.heap.size := by have := hF9.size; simpa using this
          have hP9 := hP8.pass hF9
          have hQ9 := hQ8.pass hF9
          rw [ti_gone (by show ¬ x1 + x2 < 20; omega)] at hS9
          generalize grow F6 _ w7 = F7 at hS9 hP9 hQ9
          have HS9 := hide (And.intro hS9 (And.intro hP9 hQ9))
          clear hS8 hP8 hQ8 hS9 hF9 hP9 hQ9 p0 p1 p2 p3 p4 p5 p6 p7 p8 p9 p10 p11 p12 p13 p14 q0 q1 q2 q3 q4 q5 q6 q7 q8 q9 q10 q11 q12 q13 q14
          go_wp2_with fail
          refine (tableS (tag := 2) (unhide HS9).1 rfl).mono ?_
          rintro e w8 ⟨lv, rfl, hT, hb8⟩
          obtain ⟨ao, cap, rfl⟩ := TabR.none hT
          have e6 := hb8.size
          have HS10 := hide (And.intro ((unhide HS9).1.new hb8) (And.intro ((unhide HS9).2.1.new hb8) ((unhide HS9).2.2.new hb8)))
          obtain ⟨q0, q1, q2, q3, q4, q5, q6, q7, q8, q9, q10, q11, q12, q13, q14, -⟩ := pk_cells (unhide HS10).2.2.1
          dsimp only [tQ] at q0 q1 q2 q3 q4 q5 q6 q7 q8 q9 q10 q11 q12 q13 q14
          clear hT hb8 HS9
          have l4 : w3.heap.size < w8.heap.size := by omega
          go_wp2_with fail
          refine (answer_any (tQ 3 false) _).mono ?_
          rintro e w9 ⟨rfl, hb9⟩
          have HS11 := hide (And.intro ((unhide HS10).1.new hb9) ((unhide HS10).2.1.new hb9))
          have e7 := hb9.size
          clear hb9 HS10 q0 q1 q2 q3 q4 q5 q6 q7 q8 q9 q10 q11 q12 q13 q14
          dsimp only [pkC, answerF, tQ]
          go_wp2_with fail
          refine (passS (p := tA 3) (unhide HS11).1 (ti_3c)).mono ?_
          rintro e w10 ⟨rfl, hS12, hF12⟩
          as_aux_lemma =>
            have e8 : w9.heap.size ≤ w10.heap.size := hF12.size
            have hP12 := (unhide HS11).2.pass hF12
            obtain ⟨p0, p1, p2, p3, p4, -⟩ := pk_cells hP12.1
            dsimp only [tP] at p0 p1 p2 p3 p4
            have HF := hide hS12.below
            clear hS12 hF12 hP12 HS11
            have l6 : w2.heap.size < w10.heap.size := by omega
            generalize (Value.agg #[.int .i64 2, .int .i64 3, .bool false, .int .i64 9, .int .i64 53, .int .i64 2000, .int .i64 100, .bool false, .bool false, .bool false, .bool false, .int .i64 0, .int .i64 0, .int .i64 0, .int .i64 0]) = dd9
            generalize (Value.agg #[.int .i64 2, .int .i64 3, .bool true, .int .i64 2000, .int .i64 100, .int .i64 9, .int .i64 53, .bool false, .bool false, .bool false, .bool false, .int .i64 0, .int .i64 0, .int .i64 0, .int .i64 0]) = dd10
            dsimp only [pkC, pk0]
            go_wp2
            go_quiet (fail)
            go_wp2
            go_ret
            exact ⟨rfl, below_drewN ((unhide HF).alloc (unhide HF).size _) _⟩
end

section
open Go.RowKit

set_option maxHeartbeats 16000000 in
set_option maxRecDepth 100000 in
theorem timed_cis (kind first second : Int) (w : World) (x1 x2 : Int) (hx1 : 0 ≤ x1) (hx1' : x1 < 20) (hx2 : 0 ≤ x2) (hx2' : x2 < 1100) (hg : x1 + x2 < 20)
    (HK : ∀ W, Hid (Calls Try.prog 14 #[.int .i64 kind, .int .i64 3] W fun e w' => e = .returned (.int .i64 2) ∧ w' = W)) (H1 : ∀ W, Hid (Calls Try.prog 14 #[.int .i64 first, .int .i64 20] W fun e w' => e = .returned (.int .i64 x1) ∧ w' = W)) (H2 : ∀ W, Hid (Calls Try.prog 14 #[.int .i64 second, .int .i64 1100] W fun e w' => e = .returned (.int .i64 x2) ∧ w' = W)) :
    Calls Try.prog 8 #[.int .i64 kind, .int .i64 first, .int .i64 second, .bool true] w fun e w' => e = .returned (.bool true) ∧ Below w.heap.size w w' := by
  have e34 := eq34 9998
  go_enter Try.func8, Try.ntmps8
  go_wp2_with fail
  refine (box_any 4 w (by omega) (by omega)).mono ?_
  rintro e w1 ⟨b, rfl, hB1, hb1⟩
  have HS1 : Hid (St w w1 (fun k => w.heap.size ≤ k ∧ k < w1.heap.size) b (tb [])) := ⟨hB1, fun k hk => hk.1, Fr.of_below hb1⟩
  clear hB1 hb1
  generalize (fun k => w.heap.size ≤ k ∧ k < w1.heap.size) = F1 at HS1
  go_wp2_with fail
  refine (unhide (HK _)).mono ?_
  rintro e wx ⟨rfl, hw⟩
  symm at hw
  subst hw
  clear HK
  go_wp2_with fail
  refine (datagram_any _ _ _ _ _).mono ?_
  rintro e w2 ⟨rfl, hb2⟩
  have HS2 := hide ((unhide HS1).new hb2)
  clear hb2 HS1
  dsimp only [pkC, dgram]
  go_wp2_with fail
  have hS2 := (unhide HS2).new (belowA w2 (.cells (pkC (tP 3 false)) 38))
  have hP2 := Out.alloc (unhide HS2).box (.cells (pkC (tP 3 false)) 38)
  refine (passS (p := tP 3 false) hS2 ti_1c).mono ?_
  rintro e w3 ⟨rfl, hS3, hF3⟩
  as_aux_lemma =>
    have e1 : w2.heap.size + 1 ≤ w3.heap.size := by have := hF3.size; simpa using this
    have hP3 := hP2.pass hF3
    generalize grow F1 _ w3 = F3 at hS3 hP3
    have HS3 := hide (And.intro hS3 hP3)
    clear hS2 hP2 hS3 hF3 hP3 HS2
    generalize (Value.agg #[.int .i64 2, .int .i64 3, .bool true, .int .i64 5, .int .i64 6, .int .i64 9, .int .i64 53, .bool false, .bool false, .bool false, .bool false, .int .i64 0, .int .i64 0, .int .i64 0, .int .i64 0]) = dd1
    generalize (Value.agg #[.int .i64 2, .int .i64 1, .bool true, .int .i64 5, .int .i64 6, .int .i64 9, .int .i64 53, .bool false, .bool false, .bool false, .bool false, .int .i64 0, .int .i64 0, .int .i64 0, .int .i64 0]) = dd2
    dsimp only [pkC, tQ]
    go_wp2_with fail
    refine (unhide (H1 _)).mono ?_
    rintro e wx ⟨rfl, hw⟩
    symm at hw
    subst hw
    clear H1
    go_wp2_with fail
    have hS4 := (unhide HS3).1.new (belowA w3 (.cells (pkC (tQ 3 false)) 38))
    have hP4 := (unhide HS3).2.new (belowA w3 (.cells (pkC (tQ 3 false)) 38))
    have hQ4 := Out.alloc (unhide HS3).1.box (.cells (pkC (tQ 3 false)) 38)
    refine (tickS hS4 x1 hx1 (by omega)).mono ?_
    rintro e w4 ⟨rfl, hS5, hF5⟩
    as_aux_lemma =>
      have e2 : w3.heap.size + 1 ≤ w4.heap.size := by have := hF5.size; simpa using this
      have hP5 := hP4.pass hF5
      have hQ5 := hQ4.pass hF5
      rw [ti_stay (by show 0 + x1 < 20; omega), Int.zero_add] at hS5
      generalize grow F3 _ w4 = F4 at hS5 hP5 hQ5
      have HS5 := hide (And.intro hS5 (And.intro hP5 hQ5))
      obtain ⟨q0, q1, q2, q3, q4, q5, q6, q7, q8, q9, q10, q11, q12, q13, q14, -⟩ := pk_cells hQ5.1
      dsimp only [tQ] at q0 q1 q2 q3 q4 q5 q6 q7 q8 q9 q10 q11 q12 q13 q14
      clear hS4 hP4 hQ4 hS5 hF5 hP5 hQ5 HS3
      have l1 : w3.heap.size < w4.heap.size := by omega
      generalize (Value.tuple #[Value.agg #[.int .i64 2, .int .i64 3, .bool true, .int .i64 2000, .int .i64 100, .int .i64 9, .int .i64 53, .bool false, .bool false, .bool false, .bool false, .int .i64 0, .int .i64 0, .int .i64 0, .int .i64 0], .int .i64 0, .int .i64 0]) = dd3
      generalize (Value.agg #[.int .i64 2, .int .i64 3, .bool true, .int .i64 2000, .int .i64 100, .int .i64 9, .int .i64 53, .bool false, .bool false, .bool false, .bool false, .int .i64 0, .int .i64 0, .int .i64 0, .int .i64 0]) = dd4
      go_wp2_with fail
      refine (answer_any (tQ 3 false) _).mono ?_
      rintro e w5 ⟨rfl, hb5⟩
      have HS6 := hide (And.intro ((unhide HS5).1.new hb5) (And.intro ((unhide HS5).2.1.new hb5) ((unhide HS5).2.2.new hb5)))
      have e3 := hb5.size
      clear hb5 HS5 q0 q1 q2 q3 q4 q5 q6 q7 q8 q9 q10 q11 q12 q13 q14
      dsimp only [pkC, answerF, tQ]
      go_wp2_with fail
      refine (passS (p := tA 3) (unhide HS6).1 (ti_2c x1)).mono ?_
      rintro e w6 ⟨rfl, hS7, hF7⟩
      as_aux_lemma =>
        have e4 : w5.heap.size ≤ w6.heap.size := hF7.size
        have hP7 := (unhide HS6).2.1.pass hF7
        have hQ7 := (unhide HS6).2.2.pass hF7
        generalize grow F4 _ w6 = F6 at hS7 hP7 hQ7
        have HS7 := hide (And.intro hS7 (And.intro hP7 hQ7))
        obtain ⟨p0, p1, p2, p3, p4, p5, p6, p7, p8, p9, p10, p11, p12, p13, p14, -⟩ := pk_cells hP7.1
        obtain ⟨q0, q1, q2, q3, q4, q5, q6, q7, q8, q9, q10, q11, q12, q13, q14, -⟩ := pk_cells hQ7.1
        dsimp only [tQ, tP] at q0 q1 q2 q3 q4 q5 q6 q7 q8 q9 q10 q11 q12 q13 q14 p0 p1 p2 p3 p4 p5 p6 p7 p8 p9 p10 p11 p12 p13 p14
        clear hS7 hF7 hP7 hQ7 HS6
        have l2 : w3.heap.size < w6.heap.size := by omega
        have l3 : w2.heap.size < w6.heap.size := by omega
        generalize (Value.agg #[.int .i64 2, .int .i64 3, .bool false, .int .i64 9, .int .i64 53, .int .i64 2000, .int .i64 100, .bool false, .bool false, .bool false, .bool false, .int .i64 0, .int .i64 0, .int .i64 0, .int .i64 0]) = dd5
        generalize (Value.agg #[.int .i64 2, .int .i64 3, .bool true, .int .i64 2000, .int .i64 100, .int .i64 9, .int .i64 53, .bool false, .bool false, .bool false, .bool false, .int .i64 0, .int .i64 0, .int .i64 0, .int .i64 0]) = dd6
        dsimp only [pkC, tR]
        go_wp2_with fail
        refine (unhide (H2 _)).mono ?_
        rintro e wx ⟨rfl, hw⟩
        symm at hw
        subst hw
        clear H2
        go_wp2_with fail
        have hS8 := (unhide HS7).1.new (belowA w6 (.cells (pkC (tR 3)) 38))
        have hP8 := (unhide HS7).2.1.new (belowA w6 (.cells (pkC (tR 3)) 38))
        have hQ8 := (unhide HS7).2.2.new (belowA w6 (.cells (pkC (tR 3)) 38))
        generalize (Value.tuple #[Value.agg #[.int .i64 2, .int .i64 3, .bool false, .int .i64 9, .int .i64 53, .int .i64 5, .int .i64 6, .bool false, .bool false, .bool false, .bool false, .int .i64 0, .int .i64 0, .int .i64 0, .int .i64 0], .int .i64 0, .int .i64 0]) = dd7
        generalize (Value.agg #[.int .i64 2, .int .i64 3, .bool false, .int .i64 9, .int .i64 53, .int .i64 5, .int .i64 6, .bool false, .bool false, .bool false, .bool false, .int .i64 0, .int .i64 0, .int .i64 0, .int .i64 0]) = dd8
        refine (tickS hS8 x2 hx2 (by omega)).mono ?_
        rintro e w7 ⟨rfl, hS9, hF9⟩
        as_aux_lemma =>
          have e5 : w6.heap.size + 1 ≤ w7.heap.size := by have := hF9.size; simpa using this
          have hP9 := hP8.pass hF9
          have hQ9 := hQ8.pass hF9
          rw [ti_stay (by show x1 + x2 < 20; omega)] at hS9
          generalize grow F6 _ w7 = F7 at hS9 hP9 hQ9
          have HS9 := hide (And.intro hS9 (And.intro hP9 hQ9))
          clear hS8 hP8 hQ8 hS9 hF9 hP9 hQ9 p0 p1 p2 p3 p4 p5 p6 p7 p8 p9 p10 p11 p12 p13 p14 q0 q1 q2 q3 q4 q5 q6 q7 q8 q9 q10 q11 q12 q13 q14
          go_wp2_with fail
          refine (tableS (tag := 2) (unhide HS9).1 rfl).mono ?_
          rintro e w8 ⟨lv, rfl, hT, hb8⟩
          obtain ⟨g, cap, sv, rfl, hg1, hg2, hcap, hcm, k0, k1, k2, k3, k4, k5, k6⟩ := TabR.one (m := tm 3 0 (x1 + x2)) hT
          dsimp only [tm] at k0 k1 k2 k3 k5 k6
          unfold maxLen at hcm
          have hgF : ¬ F7 g := fun hk => by obtain ⟨_, _, _, _, _, q4⟩ := (unhide HS9).1.box; have := q4 g hk; omega
          have e6 := hb8.size
          have HS10 := hide (And.intro ((unhide HS9).1.new hb8) (And.intro ((unhide HS9).2.1.new hb8) ((unhide HS9).2.2.new hb8)))
          obtain ⟨q0, q1, q2, q3, q4, q5, q6, q7, q8, q9, q10, q11, q12, q13, q14, -⟩ := pk_cells (unhide HS10).2.2.1
          dsimp only [tQ] at q0 q1 q2 q3 q4 q5 q6 q7 q8 q9 q10 q11 q12 q13 q14
          clear hT hb8 HS9
          have l4 : w3.heap.size < w8.heap.size := by omega
          go_wp2_with fail
          refine (answer_any (tQ 3 false) _).mono ?_
          rintro e w9 ⟨rfl, hb9⟩
          have HS11 := hide (And.intro ((unhide HS10).1.new hb9) ((unhide HS10).2.1.new hb9))
          have e7 := hb9.size
          have k1' := (hb9.cell (p := ⟨g, 1, none⟩) hg2).trans k1
          have k2' := (hb9.cell (p := ⟨g, 2, none⟩) hg2).trans k2
          have k6' := (hb9.cell (p := ⟨g, 6, none⟩) hg2).trans k6
          clear hb9 HS10 q0 q1 q2 q3 q4 q5 q6 q7 q8 q9 q10 q11 q12 q13 q14 k0 k1 k2 k3 k4 k5 k6
          dsimp only [pkC, answerF, tQ]
          go_wp2_with fail
          refine (passS (p := tA 3) (unhide HS11).1 (ti_2c (x1 + x2))).mono ?_
          rintro e w10 ⟨rfl, hS12, hF12⟩
          as_aux_lemma =>
            have e8 : w9.heap.size ≤ w10.heap.size := hF12.size
            have hP12 := (unhide HS11).2.pass hF12
            obtain ⟨p0, p1, p2, p3, p4, -⟩ := pk_cells hP12.1
            dsimp only [tP] at p0 p1 p2 p3 p4
            have m1 := (hF12.cell (o := 1) (show g < w9.heap.size by omega) hgF).trans k1'
            have m2 := (hF12.cell (o := 2) (show g < w9.heap.size by omega) hgF).trans k2'
            have m6 := (hF12.cell (o := 6) (show g < w9.heap.size by omega) hgF).trans k6'
            have l5 : g < w10.heap.size := by omega
            have HF := hide hS12.below
            clear hS12 hF12 hP12 HS11 k1' k2' k6' hgF
            have l6 : w2.heap.size < w10.heap.size := by omega
            generalize (Value.agg #[.int .i64 2, .int .i64 3, .bool false, .int .i64 9, .int .i64 53, .int .i64 2000, .int .i64 100, .bool false, .bool false, .bool false, .bool false, .int .i64 0, .int .i64 0, .int .i64 0, .int .i64 0]) = dd9
            generalize (Value.agg #[.int .i64 2, .int .i64 3, .bool true, .int .i64 2000, .int .i64 100, .int .i64 9, .int .i64 53, .bool false, .bool false, .bool false, .bool false, .int .i64 0, .int .i64 0, .int .i64 0, .int .i64 0]) = dd10
            dsimp only [pkC, tR]
            go_wp2
            rw [show decide (20 ≤ x1 + x2) = false from decide_eq_false (by omega)]
            go_quiet (fail)
            go_wp2
            go_ret
            exact ⟨rfl, below_drewN ((unhide HF).alloc (unhide HF).size _) _⟩
end

end Go.Proofs.Ytgpplekabohneaa
