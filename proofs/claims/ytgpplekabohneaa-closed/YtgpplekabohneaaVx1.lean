/- 'Closed', walked: four cases. -/
import Derived.Test.YtgpplekabohneaaRy
namespace Go.Proofs.Ytgpplekabohneaa
section
open Go.RowKit

set_option maxHeartbeats 16000000 in
set_option maxRecDepth 100000 in
theorem closed_c_yes (i o : Bool) (w : World) :
    Calls Try.prog 9 #[.bool true, .bool i, .bool o, .bool true] w fun e w' => e = .returned (.bool true) ∧ Below w.heap.size w w' := by
  go_enter Try.func9, Try.ntmps9
  go_wp2_with fail
  refine (box_any 4 w (by omega) (by omega)).mono ?_
  rintro e w1 ⟨b, rfl, hB1, hb1⟩
  have HS1 : Hid (St w w1 (fun k => w.heap.size ≤ k ∧ k < w1.heap.size) b (st3 [])) := ⟨hB1, fun k hk => hk.1, Fr.of_below hb1⟩
  clear hB1 hb1
  generalize (fun k => w.heap.size ≤ k ∧ k < w1.heap.size) = F1 at HS1
  go_wp2_with fail
  refine (datagram_any _ _ _ _ _).mono ?_
  rintro e w2 ⟨rfl, hb2⟩
  have HS2 := hide ((unhide HS1).new hb2)
  clear hb2 HS1
  dsimp only [pkC, dgram]
  go_wp2_with fail
  have hS2 := (unhide HS2).new (belowA w2 (.cells (pkC cP) 38))
  have hP2 := Out.alloc (unhide HS2).box (.cells (pkC cP) 38)
  refine (passS (p := cP) hS2 cl_1).mono ?_
  rintro e w3 ⟨rfl, hS3, hF3⟩
  as_aux_lemma =>
    have e1 : w2.heap.size + 1 ≤ w3.heap.size := by have := hF3.size; simpa using this
    have hP3 := hP2.pass hF3
    generalize grow F1 _ w3 = F3 at hS3 hP3
    have HS3 := hide (And.intro hS3 hP3)
    obtain ⟨p0, p1, p2, p3, p4, p5, p6, p7, p8, p9, p10, p11, p12, p13, p14, -⟩ := pk_cells hP3.1
    dsimp only [cP] at p0 p1 p2 p3 p4 p5 p6 p7 p8 p9 p10 p11 p12 p13 p14
    clear hS2 hP2 hS3 hF3 hP3 HS2
    have l1 : w2.heap.size < w3.heap.size := by omega
    generalize (Value.agg #[.int .i64 3, .int .i64 2, .bool true, .int .i64 5, .int .i64 6, .int .i64 9, .int .i64 53, .bool true, .bool false, .bool false, .bool false, .int .i64 0, .int .i64 0, .int .i64 0, .int .i64 0]) = dd16
    generalize (Value.agg #[.int .i64 3, .int .i64 1, .bool true, .int .i64 5, .int .i64 6, .int .i64 9, .int .i64 53, .bool false, .bool false, .bool false, .bool false, .int .i64 0, .int .i64 0, .int .i64 0, .int .i64 0]) = dd17
    dsimp only [pkC, cQ]
    go_wp2_with fail
    refine (answer_any cQ _).mono ?_
    rintro e w4 ⟨rfl, hb4⟩
    have hb34 : Below w3.heap.size w3 w4 := (belowA w3 (.cells (pkC cQ) 38)).trans (hb4.mono (by simp))
    have e2 : w3.heap.size + 1 ≤ w4.heap.size := by have := hb4.size; simpa using this
    have HS4 := hide (And.intro ((unhide HS3).1.new hb34) ((unhide HS3).2.new hb34))
    clear p0 p1 p2 p3 p4 p5 p6 p7 p8 p9 p10 p11 p12 p13 p14
    obtain ⟨p0, p1, p2, p3, p4, p5, p6, p7, p8, p9, p10, p11, p12, p13, p14, -⟩ := pk_cells (unhide HS4).2.1
    dsimp only [cP] at p0 p1 p2 p3 p4 p5 p6 p7 p8 p9 p10 p11 p12 p13 p14
    clear hb4 hb34 HS3
    have l2 : w2.heap.size < w4.heap.size := by omega
    generalize (Value.tuple #[Value.agg #[.int .i64 3, .int .i64 2, .bool true, .int .i64 3000, .int .i64 100, .int .i64 9, .int .i64 53, .bool true, .bool false, .bool false, .bool false, .int .i64 0, .int .i64 0, .int .i64 0, .int .i64 0], .int .i64 0, .int .i64 0]) = dd18
    generalize (Value.agg #[.int .i64 3, .int .i64 2, .bool true, .int .i64 3000, .int .i64 100, .int .i64 9, .int .i64 53, .bool true, .bool false, .bool false, .bool false, .int .i64 0, .int .i64 0, .int .i64 0, .int .i64 0]) = dd19
    dsimp only [pkC, answerF, cQ]
    go_wp2_with fail
    have hS5 := ((unhide HS4).1.new (belowA w4 (.cells (pkC (cIn i)) 38))).new (belowA _ (.cells (pkC (cOut o true)) 38))
    have hP5 := ((unhide HS4).2.new (belowA w4 (.cells (pkC (cIn i)) 38))).new (belowA _ (.cells (pkC (cOut o true)) 38))
    have hQ5 := Out.alloc ((unhide HS4).1.new (belowA w4 (.cells (pkC (cIn i)) 38))).box (.cells (pkC (cOut o true)) 38)
    have e0 : (w4.alloc (.cells (pkC (cIn i)) 38)).heap.size = w4.heap.size + 1 := by simp
    rw [e0] at hQ5
    refine (passS (p := cIn i) hS5 (cl_2 i)).mono ?_
    rintro e w5 ⟨rfl, hS6, hF6⟩
    as_aux_lemma =>
      have e3 : w4.heap.size + 2 ≤ w5.heap.size := by have := hF6.size; simpa using this
      have hP6 := hP5.pass hF6
      have hQ6 := hQ5.pass hF6
      generalize grow F3 _ w5 = F5 at hS6 hP6 hQ6
      have HS6 := hide (And.intro hS6 (And.intro hP6 hQ6))
      clear p0 p1 p2 p3 p4 p5 p6 p7 p8 p9 p10 p11 p12 p13 p14
      obtain ⟨p0, p1, p2, p3, p4, p5, p6, p7, p8, p9, p10, p11, p12, p13, p14, -⟩ := pk_cells hQ6.1
      dsimp only [cOut] at p0 p1 p2 p3 p4 p5 p6 p7 p8 p9 p10 p11 p12 p13 p14
      clear hS5 hP5 hQ5 e0 hS6 hF6 hP6 hQ6 HS4
      have l3 : w4.heap.size + 1 < w5.heap.size := by omega
      have l4 : w2.heap.size < w5.heap.size := by omega
      generalize (Value.agg #[.int .i64 3, .int .i64 2, .bool false, .int .i64 9, .int .i64 53, .int .i64 3000, .int .i64 100, .bool false, .bool i, .bool false, .bool false, .int .i64 0, .int .i64 0, .int .i64 0, .int .i64 0]) = dd20
      generalize (Value.agg #[.int .i64 3, .int .i64 2, .bool false, .int .i64 9, .int .i64 53, .int .i64 3000, .int .i64 100, .bool false, .bool false, .bool false, .bool false, .int .i64 0, .int .i64 0, .int .i64 0, .int .i64 0]) = dd21
      generalize (Value.agg #[.int .i64 3, .int .i64 2, .bool true, .int .i64 5, .int .i64 6, .int .i64 9, .int .i64 53, .bool true, .bool false, .bool false, .bool false, .int .i64 0, .int .i64 0, .int .i64 0, .int .i64 0]) = dd22
      dsimp only [pkC, cInR]
      go_wp2_with fail
      have hS7 := (unhide HS6).1.new (belowA w5 (.cells (pkC (cInR i)) 38))
      have hP7 := (unhide HS6).2.1.new (belowA w5 (.cells (pkC (cInR i)) 38))
      refine (passS (p := cOut o true) hS7 (cl_3 true i o)).mono ?_
      rintro e w6 ⟨rfl, hS8, hF8⟩
      as_aux_lemma =>
        have e4 : w5.heap.size + 1 ≤ w6.heap.size := by have := hF8.size; simpa using this
        have hP8 := hP7.pass hF8
        generalize grow F5 _ w6 = F6 at hS8 hP8
        have HS8 : Hid (St w w6 F6 b (st3 [cm 3 0 o i]) ∧ Out F6 w6 w2.heap.size (.cells (pkC cP) 38)) := ⟨hS8, hP8⟩
        clear p0 p1 p2 p3 p4 p5 p6 p7 p8 p9 p10 p11 p12 p13 p14
        clear hS7 hP7 hS8 hF8 hP8 HS6
        have l5 : w2.heap.size < w6.heap.size := by omega
        generalize (Value.tuple #[Value.agg #[.int .i64 3, .int .i64 2, .bool false, .int .i64 9, .int .i64 53, .int .i64 5, .int .i64 6, .bool false, .bool i, .bool false, .bool false, .int .i64 0, .int .i64 0, .int .i64 0, .int .i64 0], .int .i64 0, .int .i64 0]) = dd23
        generalize (Value.agg #[.int .i64 3, .int .i64 2, .bool false, .int .i64 9, .int .i64 53, .int .i64 5, .int .i64 6, .bool false, .bool i, .bool false, .bool false, .int .i64 0, .int .i64 0, .int .i64 0, .int .i64 0]) = dd24
        generalize (Value.agg #[.int .i64 3, .int .i64 2, .bool true, .int .i64 5, .int .i64 6, .int .i64 9, .int .i64 53, .bool false, .bool o, .bool true, .bool false, .int .i64 0, .int .i64 0, .int .i64 0, .int .i64 0]) = dd25
        dsimp only [pkC, cOutR]
        go_wp2_with fail
        have hS9 := (unhide HS8).1.new (belowA w6 (.cells (pkC (cOutR o true)) 38))
        have hP9 := (unhide HS8).2.new (belowA w6 (.cells (pkC (cOutR o true)) 38))
        refine (tableS (tag := 3) hS9 rfl).mono ?_
        rintro e w7 ⟨lv, rfl, hT, hb7⟩
        as_aux_lemma =>
          have e5 : w6.heap.size + 1 ≤ w7.heap.size := by have := hb7.size; simpa using this
          obtain ⟨g, cap, sv, rfl, hg1, hg2, hcap, hcm, k0, k1, k2, k3, k4, k5, k6⟩ := TabR.one (m := cm 3 0 o i) hT
          dsimp only [cm] at k0 k1 k2 k3 k5 k6
          have HS10 := hide (And.intro (hS9.new hb7) (And.intro (hP9.new hb7) (show ¬ F6 g from fun hk => by obtain ⟨_, _, _, _, _, q4⟩ := hS9.box; have := q4 g hk; omega)))
          unfold maxLen at hcm
          clear hS9 hP9 hT hb7 HS8
          have l6 : w2.heap.size < w7.heap.size := by omega
          generalize (Value.tuple #[Value.agg #[.int .i64 3, .int .i64 2, .bool true, .int .i64 3000, .int .i64 100, .int .i64 9, .int .i64 53, .bool false, .bool o, .bool true, .bool false, .int .i64 0, .int .i64 0, .int .i64 0, .int .i64 0], .int .i64 0, .int .i64 0]) = dd26
          generalize (Value.agg #[.int .i64 3, .int .i64 2, .bool true, .int .i64 3000, .int .i64 100, .int .i64 9, .int .i64 53, .bool false, .bool o, .bool true, .bool false, .int .i64 0, .int .i64 0, .int .i64 0, .int .i64 0]) = dd27
          obtain ⟨p0, p1, p2, p3, p4, p5, p6, p7, p8, p9, p10, p11, p12, p13, p14, -⟩ := pk_cells (unhide HS10).2.1.1
          dsimp only [cP] at p0 p1 p2 p3 p4 p5 p6 p7 p8 p9 p10 p11 p12 p13 p14
          have hgl : w7.heap[g]? = w7.heap[g]? := rfl
          go_wp2_with fail
          refine (passS (p := cP) (unhide HS10).1 (cl_4 true i o)).mono ?_
          rintro e w8 ⟨rfl, hS11, hF11⟩
          as_aux_lemma =>
            have e6 : w7.heap.size ≤ w8.heap.size := hF11.size
            have k3' := (hF11.cell (o := 3) hg2 (unhide HS10).2.2).trans k3
            have HS11 : Hid (St w w8 (grow F6 w7 w8) b (st3 [cm 1 0 false false])) := hS11
            clear hS11 hF11 p0 p1 p2 p3 p4 p5 p6 p7 p8 p9 p10 p11 p12 p13 p14 k0 k1 k2 k3 k4 k5 k6 HS10 hgl
            have l7 : g < w8.heap.size := by omega
            generalize (Value.agg #[.int .i64 3, .int .i64 2, .bool true, .int .i64 5, .int .i64 6, .int .i64 9, .int .i64 53, .bool true, .bool false, .bool false, .bool false, .int .i64 0, .int .i64 0, .int .i64 0, .int .i64 0]) = dd28
            dsimp only [pkC, cQ]
            go_wp2_with fail
            have hS12 := (unhide HS11).new (belowA w8 (.cells (pkC cQ) 38))
            refine (tableS (tag := 3) hS12 rfl).mono ?_
            rintro e w9 ⟨lv9, rfl, hT9, hb9⟩
            as_aux_lemma =>
              have e7 : w8.heap.size + 1 ≤ w9.heap.size := by have := hb9.size; simpa using this
              obtain ⟨g9, cap9, sv9, rfl, hh1, hh2, hcap9, hcm9, m0, m1, m2, m3, m4, m5, m6⟩ := TabR.one (m := cm 1 0 false false) hT9
              dsimp only [cm] at m0 m1 m2 m3 m5 m6
              have k3'' : w9.cell? ⟨g, 3, none⟩ = some (.int .i64 100) := (hb9.cell (p := ⟨g, 3, none⟩) (by simp; omega)).trans (cellA k3')
              have HS13 := hide (hS12.new hb9)
              unfold maxLen at hcm9
              clear hS12 hT9 hb9 HS11 k3'
              have l8 : g < w9.heap.size := by omega
              generalize (Value.tuple #[Value.agg #[.int .i64 3, .int .i64 2, .bool true, .int .i64 3000, .int .i64 100, .int .i64 9, .int .i64 53, .bool true, .bool false, .bool false, .bool false, .int .i64 0, .int .i64 0, .int .i64 0, .int .i64 0], .int .i64 0, .int .i64 0]) = dd29
              generalize (Value.agg #[.int .i64 3, .int .i64 2, .bool true, .int .i64 3000, .int .i64 100, .int .i64 9, .int .i64 53, .bool true, .bool false, .bool false, .bool false, .int .i64 0, .int .i64 0, .int .i64 0, .int .i64 0]) = dd30
              go_wp2
              go_quiet (fail)
              go_wp2_with fail
              have hS13 := (unhide HS13).new (below_drewN (Below.refl _ _) nq)
              refine (tickS hS13 10 (by omega) (by omega)).mono ?_
              rintro e w10 ⟨rfl, hS14, _⟩
              as_aux_lemma =>
                rw [cl_k1] at hS14
                have HS14 := hide hS14
                clear hS14 hS13 m0 m1 m2 m3 m4 m5 m6 k3'' HS13
                go_wp2_with fail
                refine (tableS (tag := 3) (unhide HS14) rfl).mono ?_
                rintro e w11 ⟨lv11, rfl, hT11, hb11⟩
                obtain ⟨g11, cap11, sv11, rfl, -⟩ := TabR.one (m := cm 1 10 false false) hT11
                have HF := hide ((unhide HS14).new hb11).below
                clear hT11 hb11 HS14
                go_wp2
                go_ret
                exact ⟨rfl, unhide HF⟩
end

section
open Go.RowKit

set_option maxHeartbeats 16000000 in
set_option maxRecDepth 100000 in
theorem closed_n_yes (o : Bool) (w : World) :
    Calls Try.prog 9 #[.bool false, .bool false, .bool o, .bool true] w fun e w' => e = .returned (.bool true) ∧ Below w.heap.size w w' := by
  go_enter Try.func9, Try.ntmps9
  go_wp2_with fail
  refine (box_any 4 w (by omega) (by omega)).mono ?_
  rintro e w1 ⟨b, rfl, hB1, hb1⟩
  have HS1 : Hid (St w w1 (fun k => w.heap.size ≤ k ∧ k < w1.heap.size) b (st3 [])) := ⟨hB1, fun k hk => hk.1, Fr.of_below hb1⟩
  clear hB1 hb1
  generalize (fun k => w.heap.size ≤ k ∧ k < w1.heap.size) = F1 at HS1
  go_wp2_with fail
  refine (datagram_any _ _ _ _ _).mono ?_
  rintro e w2 ⟨rfl, hb2⟩
  have HS2 := hide ((unhide HS1).new hb2)
  clear hb2 HS1
  dsimp only [pkC, dgram]
  go_wp2_with fail
  have hS2 := (unhide HS2).new (belowA w2 (.cells (pkC cP) 38))
  have hP2 := Out.alloc (unhide HS2).box (.cells (pkC cP) 38)
  refine (passS (p := cP) hS2 cl_1).mono ?_
  rintro e w3 ⟨rfl, hS3, hF3⟩
  as_aux_lemma =>
    have e1 : w2.heap.size + 1 ≤ w3.heap.size := by have := hF3.size; simpa using this
    have hP3 := hP2.pass hF3
    generalize grow F1 _ w3 = F3 at hS3 hP3
    have HS3 := hide (And.intro hS3 hP3)
    obtain ⟨p0, p1, p2, p3, p4, p5, p6, p7, p8, p9, p10, p11, p12, p13, p14, -⟩ := pk_cells hP3.1
    dsimp only [cP] at p0 p1 p2 p3 p4 p5 p6 p7 p8 p9 p10 p11 p12 p13 p14
    clear hS2 hP2 hS3 hF3 hP3 HS2
    have l1 : w2.heap.size < w3.heap.size := by omega
    generalize (Value.agg #[.int .i64 3, .int .i64 2, .bool true, .int .i64 5, .int .i64 6, .int .i64 9, .int .i64 53, .bool true, .bool false, .bool false, .bool false, .int .i64 0, .int .i64 0, .int .i64 0, .int .i64 0]) = dd45
    generalize (Value.agg #[.int .i64 3, .int .i64 1, .bool true, .int .i64 5, .int .i64 6, .int .i64 9, .int .i64 53, .bool false, .bool false, .bool false, .bool false, .int .i64 0, .int .i64 0, .int .i64 0, .int .i64 0]) = dd46
    dsimp only [pkC, cQ]
    go_wp2_with fail
    refine (answer_any cQ _).mono ?_
    rintro e w4 ⟨rfl, hb4⟩
    have hb34 : Below w3.heap.size w3 w4 := (belowA w3 (.cells (pkC cQ) 38)).trans (hb4.mono (by simp))
    have e2 : w3.heap.size + 1 ≤ w4.heap.size := by have := hb4.size; simpa using this
    have HS4 := hide (And.intro ((unhide HS3).1.new hb34) ((unhide HS3).2.new hb34))
    clear p0 p1 p2 p3 p4 p5 p6 p7 p8 p9 p10 p11 p12 p13 p14
    obtain ⟨p0, p1, p2, p3, p4, p5, p6, p7, p8, p9, p10, p11, p12, p13, p14, -⟩ := pk_cells (unhide HS4).2.1
    dsimp only [cP] at p0 p1 p2 p3 p4 p5 p6 p7 p8 p9 p10 p11 p12 p13 p14
    clear hb4 hb34 HS3
    have l2 : w2.heap.size < w4.heap.size := by omega
    generalize (Value.tuple #[Value.agg #[.int .i64 3, .int .i64 2, .bool true, .int .i64 3000, .int .i64 100, .int .i64 9, .int .i64 53, .bool true, .bool false, .bool false, .bool false, .int .i64 0, .int .i64 0, .int .i64 0, .int .i64 0], .int .i64 0, .int .i64 0]) = dd47
    generalize (Value.agg #[.int .i64 3, .int .i64 2, .bool true, .int .i64 3000, .int .i64 100, .int .i64 9, .int .i64 53, .bool true, .bool false, .bool false, .bool false, .int .i64 0, .int .i64 0, .int .i64 0, .int .i64 0]) = dd48
    dsimp only [pkC, answerF, cQ]
    go_wp2_with fail
    have hS5 := ((unhide HS4).1.new (belowA w4 (.cells (pkC (cIn false)) 38))).new (belowA _ (.cells (pkC (cOut o false)) 38))
    have hP5 := ((unhide HS4).2.new (belowA w4 (.cells (pkC (cIn false)) 38))).new (belowA _ (.cells (pkC (cOut o false)) 38))
    have hQ5 := Out.alloc ((unhide HS4).1.new (belowA w4 (.cells (pkC (cIn false)) 38))).box (.cells (pkC (cOut o false)) 38)
    have e0 : (w4.alloc (.cells (pkC (cIn false)) 38)).heap.size = w4.heap.size + 1 := by simp
    rw [e0] at hQ5
    refine (passS (p := cIn false) hS5 (cl_2 false)).mono ?_
    rintro e w5 ⟨rfl, hS6, hF6⟩
    as_aux_lemma =>
      have e3 : w4.heap.size + 2 ≤ w5.heap.size := by have := hF6.size; simpa using this
      have hP6 := hP5.pass hF6
      have hQ6 := hQ5.pass hF6
      generalize grow F3 _ w5 = F5 at hS6 hP6 hQ6
      have HS6 := hide (And.intro hS6 (And.intro hP6 hQ6))
      clear p0 p1 p2 p3 p4 p5 p6 p7 p8 p9 p10 p11 p12 p13 p14
      obtain ⟨p0, p1, p2, p3, p4, p5, p6, p7, p8, p9, p10, p11, p12, p13, p14, -⟩ := pk_cells hQ6.1
      dsimp only [cOut] at p0 p1 p2 p3 p4 p5 p6 p7 p8 p9 p10 p11 p12 p13 p14
      clear hS5 hP5 hQ5 e0 hS6 hF6 hP6 hQ6 HS4
      have l3 : w4.heap.size + 1 < w5.heap.size := by omega
      have l4 : w2.heap.size < w5.heap.size := by omega
      generalize (Value.agg #[.int .i64 3, .int .i64 2, .bool false, .int .i64 9, .int .i64 53, .int .i64 3000, .int .i64 100, .bool false, .bool false, .bool false, .bool false, .int .i64 0, .int .i64 0, .int .i64 0, .int .i64 0]) = dd49
      generalize (Value.agg #[.int .i64 3, .int .i64 2, .bool true, .int .i64 5, .int .i64 6, .int .i64 9, .int .i64 53, .bool true, .bool false, .bool false, .bool false, .int .i64 0, .int .i64 0, .int .i64 0, .int .i64 0]) = dd50
      dsimp only [pkC, cInR]
      go_wp2_with fail
      have hS7 := (unhide HS6).1.new (belowA w5 (.cells (pkC (cInR false)) 38))
      have hP7 := (unhide HS6).2.1.new (belowA w5 (.cells (pkC (cInR false)) 38))
      refine (passS (p := cOut o false) hS7 (cl_3 false false o)).mono ?_
      rintro e w6 ⟨rfl, hS8, hF8⟩
      as_aux_lemma =>
        have e4 : w5.heap.size + 1 ≤ w6.heap.size := by have := hF8.size; simpa using this
        have hP8 := hP7.pass hF8
        generalize grow F5 _ w6 = F6 at hS8 hP8
        have HS8 : Hid (St w w6 F6 b (st3 [cm 2 0 o false]) ∧ Out F6 w6 w2.heap.size (.cells (pkC cP) 38)) := ⟨hS8, hP8⟩
        clear p0 p1 p2 p3 p4 p5 p6 p7 p8 p9 p10 p11 p12 p13 p14
        clear hS7 hP7 hS8 hF8 hP8 HS6
        have l5 : w2.heap.size < w6.heap.size := by omega
        generalize (Value.tuple #[Value.agg #[.int .i64 3, .int .i64 2, .bool false, .int .i64 9, .int .i64 53, .int .i64 5, .int .i64 6, .bool false, .bool false, .bool false, .bool false, .int .i64 0, .int .i64 0, .int .i64 0, .int .i64 0], .int .i64 0, .int .i64 0]) = dd51
        generalize (Value.agg #[.int .i64 3, .int .i64 2, .bool false, .int .i64 9, .int .i64 53, .int .i64 5, .int .i64 6, .bool false, .bool false, .bool false, .bool false, .int .i64 0, .int .i64 0, .int .i64 0, .int .i64 0]) = dd52
        generalize (Value.agg #[.int .i64 3, .int .i64 2, .bool true, .int .i64 5, .int .i64 6, .int .i64 9, .int .i64 53, .bool false, .bool o, .bool false, .bool false, .int .i64 0, .int .i64 0, .int .i64 0, .int .i64 0]) = dd53
        dsimp only [pkC, cOutR]
        go_wp2_with fail
        have hS9 := (unhide HS8).1.new (belowA w6 (.cells (pkC (cOutR o false)) 38))
        have hP9 := (unhide HS8).2.new (belowA w6 (.cells (pkC (cOutR o false)) 38))
        refine (tableS (tag := 3) hS9 rfl).mono ?_
        rintro e w7 ⟨lv, rfl, hT, hb7⟩
        as_aux_lemma =>
          have e5 : w6.heap.size + 1 ≤ w7.heap.size := by have := hb7.size; simpa using this
          obtain ⟨g, cap, sv, rfl, hg1, hg2, hcap, hcm, k0, k1, k2, k3, k4, k5, k6⟩ := TabR.one (m := cm 2 0 o false) hT
          dsimp only [cm] at k0 k1 k2 k3 k5 k6
          have HS10 := hide (And.intro (hS9.new hb7) (And.intro (hP9.new hb7) (show ¬ F6 g from fun hk => by obtain ⟨_, _, _, _, _, q4⟩ := hS9.box; have := q4 g hk; omega)))
          unfold maxLen at hcm
          clear hS9 hP9 hT hb7 HS8
          have l6 : w2.heap.size < w7.heap.size := by omega
          generalize (Value.tuple #[Value.agg #[.int .i64 3, .int .i64 2, .bool true, .int .i64 3000, .int .i64 100, .int .i64 9, .int .i64 53, .bool false, .bool o, .bool false, .bool false, .int .i64 0, .int .i64 0, .int .i64 0, .int .i64 0], .int .i64 0, .int .i64 0]) = dd54
          generalize (Value.agg #[.int .i64 3, .int .i64 2, .bool true, .int .i64 3000, .int .i64 100, .int .i64 9, .int .i64 53, .bool false, .bool o, .bool false, .bool false, .int .i64 0, .int .i64 0, .int .i64 0, .int .i64 0]) = dd55
          obtain ⟨p0, p1, p2, p3, p4, p5, p6, p7, p8, p9, p10, p11, p12, p13, p14, -⟩ := pk_cells (unhide HS10).2.1.1
          dsimp only [cP] at p0 p1 p2 p3 p4 p5 p6 p7 p8 p9 p10 p11 p12 p13 p14
          have hgl : w7.heap[g]? = w7.heap[g]? := rfl
          go_wp2_with fail
          refine (passS (p := cP) (unhide HS10).1 (cl_4 false false o)).mono ?_
          rintro e w8 ⟨rfl, hS11, hF11⟩
          as_aux_lemma =>
            have e6 : w7.heap.size ≤ w8.heap.size := hF11.size
            have k3' := (hF11.cell (o := 3) hg2 (unhide HS10).2.2).trans k3
            have HS11 : Hid (St w w8 (grow F6 w7 w8) b (st3 [cm 2 0 o false])) := hS11
            clear hS11 hF11 p0 p1 p2 p3 p4 p5 p6 p7 p8 p9 p10 p11 p12 p13 p14 k0 k1 k2 k3 k4 k5 k6 HS10 hgl
            have l7 : g < w8.heap.size := by omega
            generalize (Value.agg #[.int .i64 3, .int .i64 2, .bool true, .int .i64 5, .int .i64 6, .int .i64 9, .int .i64 53, .bool true, .bool false, .bool false, .bool false, .int .i64 0, .int .i64 0, .int .i64 0, .int .i64 0]) = dd56
            dsimp only [pkC, cQ]
            go_wp2_with fail
            have hS12 := (unhide HS11).new (belowA w8 (.cells (pkC cQ) 38))
            refine (tableS (tag := 3) hS12 rfl).mono ?_
            rintro e w9 ⟨lv9, rfl, hT9, hb9⟩
            as_aux_lemma =>
              have e7 : w8.heap.size + 1 ≤ w9.heap.size := by have := hb9.size; simpa using this
              obtain ⟨g9, cap9, sv9, rfl, hh1, hh2, hcap9, hcm9, m0, m1, m2, m3, m4, m5, m6⟩ := TabR.one (m := cm 2 0 o false) hT9
              dsimp only [cm] at m0 m1 m2 m3 m5 m6
              have k3'' : w9.cell? ⟨g, 3, none⟩ = some (.int .i64 100) := (hb9.cell (p := ⟨g, 3, none⟩) (by simp; omega)).trans (cellA k3')
              have HS13 := hide (hS12.new hb9)
              unfold maxLen at hcm9
              clear hS12 hT9 hb9 HS11 k3'
              have l8 : g < w9.heap.size := by omega
              generalize (Value.tuple #[Value.agg #[.int .i64 3, .int .i64 2, .bool true, .int .i64 3000, .int .i64 100, .int .i64 9, .int .i64 53, .bool true, .bool false, .bool false, .bool false, .int .i64 0, .int .i64 0, .int .i64 0, .int .i64 0], .int .i64 0, .int .i64 0]) = dd57
              generalize (Value.agg #[.int .i64 3, .int .i64 2, .bool true, .int .i64 3000, .int .i64 100, .int .i64 9, .int .i64 53, .bool true, .bool false, .bool false, .bool false, .int .i64 0, .int .i64 0, .int .i64 0, .int .i64 0]) = dd58
              go_wp2
              go_quiet (fail)
              go_wp2_with fail
              have hS13 := (unhide HS13).new (below_drewN (Below.refl _ _) nq)
              refine (tickS hS13 10 (by omega) (by omega)).mono ?_
              rintro e w10 ⟨rfl, hS14, _⟩
              as_aux_lemma =>
                rw [cl_k2] at hS14
                have HS14 := hide hS14
                clear hS14 hS13 m0 m1 m2 m3 m4 m5 m6 k3'' HS13
                go_wp2_with fail
                refine (tableS (tag := 3) (unhide HS14) rfl).mono ?_
                rintro e w11 ⟨lv11, rfl, hT11, hb11⟩
                obtain ⟨g11, cap11, sv11, rfl, -⟩ := TabR.one (m := cm 2 10 o false) hT11
                have HF := hide ((unhide HS14).new hb11).below
                clear hT11 hb11 HS14
                go_wp2
                go_ret
                exact ⟨rfl, unhide HF⟩
end

end Go.Proofs.Ytgpplekabohneaa
