/- 'Apart', walked. -/
import Derived.Test.YtgpplekabohneaaMf
import Derived.Test.YtgpplekabohneaaMg
import Derived.Test.YtgpplekabohneaaMc
import Derived.Test.YtgpplekabohneaaZb
import Derived.Deep.LoopGhost
namespace Go.Proofs.Ytgpplekabohneaa
open Go.RowKit

/-- the two boxes between the events -/
def BxT (tag s : Int) (w wr : World) (b1 b2 : Nat) : Prop := ∃ F1 F2 B1 B2 T, Two w wr F1 F2 b1 b2 B1 B2 ∧ TwoT tag s B1 B2 T

set_option maxHeartbeats 16000000 in
set_option maxRecDepth 100000 in
theorem apart_any (a : Option Addr) (n cap : Nat) (l : List Ev) (which size : Int) (w : World) (hA : EvArg w a n cap l) (ht : Hid (R64 which)) (hs : Hid (R64 size)) :
    Calls Try.prog 5 #[.slice a n cap, .int .i64 which, .int .i64 size] w fun e w' => e = .returned (.bool true) ∧ Below w.heap.size w w' := by
  obtain ⟨hn, hc, hm, hE⟩ := hA
  have HN := hide hn
  have HE := hide hE
  unfold maxLen at hm
  clear hn hE
  go_enter Try.func5, Try.ntmps5
  go_wp2_with fail
  refine (pick_in size 5 _ hs (by decide) (by decide)).mono ?_
  rintro e wx ⟨s, hs5, rfl, hw⟩
  symm at hw
  subst hw
  have hs0 : 0 ≤ s := hs5.1
  have hs1 : s ≤ 4 := by omega
  clear hs5
  go_wp2_with fail
  refine (pick_in which 3 _ ht (by decide) (by decide)).mono ?_
  rintro e wx ⟨t, ht3, rfl, hw⟩
  symm at hw
  subst hw
  have ht0 : 0 ≤ t := ht3.1
  have ht1 : t ≤ 2 := by omega
  clear ht3
  go_wp2_with fail
  obtain ⟨tag, htag⟩ : ∃ tag, 1 + t = tag := ⟨_, rfl⟩
  have g1 : 1 ≤ tag := by omega
  have g2 : tag ≤ 3 := by omega
  rw [htag]
  clear htag ht0 ht1
  refine (box_any (1 + s) w (by omega) (by omega)).mono ?_
  rintro e w1 ⟨b1, rfl, hB1, hb1⟩
  go_wp2_with fail
  refine (box_any (1 + s) w1 (by omega) (by omega)).mono ?_
  rintro e w2 ⟨b2, rfl, hB2, hb2⟩
  have HS : Hid (BxT tag (1 + s) w w2 b1 b2) := by
    obtain ⟨T, hT⟩ := TwoT.start tag (1 + s) g1 g2
    refine ⟨_, _, _, _, T, ⟨St.new ⟨hB1, fun k hk => hk.1, Fr.of_below hb1⟩ hb2, ⟨hB2, fun k hk => by have := hb1.size; have := hk.1; omega, (Fr.of_below hb1).trans (Fr.of_below hb2)⟩, ?_⟩, hT⟩
    intro k h1 h2
    have := h1.2
    have := h2.1
    omega
  clear hB1 hb1 hB2 hb2
  go_wp2_with fail
  go_loopg [9] n (fun k i wr => ∃ j : Nat, j ≤ n ∧ k = n - j ∧ i = .int .i64 j ∧ BxT tag (1 + s) w wr b1 b2)
  case atStart => exact ⟨0, Nat.zero_le _, by omega, rfl, unhide HS⟩
  case round =>
    obtain ⟨j, hj, hk, rfl, F1, F2, B1, B2, T, hSt, hI⟩ := hrel
    have HK := hide hk
    clear hk HS
    by_cases hlt : j < n
    · obtain ⟨eb, off, rfl, heb, hEv⟩ := unhide HE (by omega)
      obtain ⟨⟨c0, c1, c2, c3, c4⟩, r0, r1, r2, r3, r4⟩ := (hEv.below hSt.st1.below heb) j (by have := unhide HN; omega)
      have hebr : eb < wr.heap.size := by have := hSt.st1.below.size; omega
      generalize l[j].k = ek at *
      generalize l[j].t = et at *
      generalize l[j].a = ea at *
      generalize l[j].b = ebb at *
      generalize l[j].c = ec at *
      have R0 := hide r0
      have R1 := hide r1
      have R2 := hide r2
      have R3 := hide r3
      have R4 := hide r4
      have HS := hide (And.intro hSt hI)
      clear r0 r1 r2 r3 r4 hEv hSt hI HE
      by_cases hk0 : ek = 0
      · subst hk0
        as_aux_lemma =>
          go_wp2_with fail
          refine (pick_in ea 60 _ R2 (by decide) (by decide)).mono ?_
          rintro e wx ⟨x, hx, rfl, hw⟩
          symm at hw
          subst hw
          go_wp2_with fail
          refine (tickS (unhide HS).1.st1 x (by omega) (by omega)).mono ?_
          rintro e w3 ⟨rfl, hS2, hF2⟩
          have HS2 := hide ((unhide HS).1.left hS2 hF2)
          clear hS2 hF2
          go_wp2_with fail
          refine (tickS (unhide HS2).st2 x (by omega) (by omega)).mono ?_
          rintro e w4 ⟨rfl, hS3, hF3⟩
          have HS3 : Hid (BxT tag (1 + s) w w4 b1 b2) := ⟨_, _, _, _, _, (unhide HS2).right hS3 hF3, (unhide HS).2.tick x⟩
          clear hS3 hF3 HS HS2
          go_wp2_with fail
          go_roundg (n - (j + 1))
          case measure => have := unhide HK; omega
          case rel => exact ⟨j + 1, by omega, rfl, by go_num, unhide HS3⟩
      · have hk0' : (ek == 0) = false := by simpa using hk0
        clear hk0
        go_wp2_with fail
        as_aux_lemma =>
          refine (packet_any ek et ea ebb ec _ R0 R1 R2 R3 R4).mono ?_
          rintro e w3 ⟨p, hp, rfl, hb3⟩
          obtain ⟨tg, proto, out, sa, sp, da, dp, syn, fin, rst, err, qsa, qsp, qda, qdp⟩ := p
          have HS2 := hide (And.intro ((unhide HS).1.new hb3) (unhide HS).2)
          have HP := hide hp
          clear hb3 hp HS c0 c1 c2 c3 c4
          dsimp only [pkC]
          go_wp2_with fail
          have hS3 := (unhide HS2).1.new (belowA w3 (.cells (pkC ⟨tg, proto, out, sa, sp, da, dp, syn, fin, rst, err, qsa, qsp, qda, qdp⟩) 38))
          have hP3 := Out.alloc (unhide HS2).1.st1.box (.cells (pkC ⟨tg, proto, out, sa, sp, da, dp, syn, fin, rst, err, qsa, qsp, qda, qdp⟩) 38)
          have hP3' := Out.alloc (unhide HS2).1.st2.box (.cells (pkC ⟨tg, proto, out, sa, sp, da, dp, syn, fin, rst, err, qsa, qsp, qda, qdp⟩) 38)
          by_cases htg : tg = tag
          · obtain ⟨B1', B2', T', q, v, hp1, hp2, hq0, hI'⟩ := (unhide HS2).2.own (unhide HP) htg
            refine (passS (p := ⟨tg, proto, out, sa, sp, da, dp, syn, fin, rst, err, qsa, qsp, qda, qdp⟩) hS3.st1 hp1).mono ?_
            rintro e w4 ⟨rfl, hS4, hF4⟩
            have s4 : w3.heap.size + 1 ≤ w4.heap.size := by have := hF4.size; simpa using this
            have hP4 := hP3.pass hF4
            have hP4' : Out F2 w4 w3.heap.size (.cells (pkC ⟨tg, proto, out, sa, sp, da, dp, syn, fin, rst, err, qsa, qsp, qda, qdp⟩) 38) := ⟨hP4.1, hP3'.2⟩
            have hS5 := hS3.left hS4 hF4
            generalize grow F1 _ w4 = F3 at hS5 hP4
            have HS5 := hide (And.intro hS5 (And.intro hP4 (And.intro hP4' (And.intro hp2 hI'))))
            obtain ⟨p0, p1, p2, p3, p4, p5, p6, p7, p8, p9, p10, p11, p12, p13, p14, -⟩ := pk_cells hP4.1
            dsimp only at p0 p1 p2 p3 p4 p5 p6 p7 p8 p9 p10 p11 p12 p13 p14
            have l1 : w3.heap.size < w4.heap.size := by omega
            clear hS3 hP3 hP3' hS4 hF4 hP4 hP4' hS5 hp1 hp2 hI' HS2 HP
            subst htg
            as_aux_lemma =>
              by_cases hv : v = 0
              · subst hv
                clear hq0
                obtain ⟨qtag, qproto, qout, qa, qp, qd, qe, qsyn, qfin, qrst, qerr, q1, q2, q3, q4⟩ := q
                dsimp only [pkC]
                go_wp2_with fail
                have hS6 := (unhide HS5).1.new (belowA w4 (.cells (pkC ⟨qtag, qproto, qout, qa, qp, qd, qe, qsyn, qfin, qrst, qerr, q1, q2, q3, q4⟩) 38))
                have hA6 := Out.alloc (unhide HS5).1.st2.box (.cells (pkC ⟨qtag, qproto, qout, qa, qp, qd, qe, qsyn, qfin, qrst, qerr, q1, q2, q3, q4⟩) 38)
                refine (passS (p := ⟨tg, proto, out, sa, sp, da, dp, syn, fin, rst, err, qsa, qsp, qda, qdp⟩) hS6.st2 (unhide HS5).2.2.2.1).mono ?_
                rintro e w5 ⟨rfl, hS7, hF7⟩
                have s5 : w4.heap.size + 1 ≤ w5.heap.size := by have := hF7.size; simpa using this
                have hA7 := hA6.pass hF7
                have HB7 : Hid (BxT tg (1 + s) w (w5.alloc (.cells (pkC ⟨qtag, qproto, qout, qa, qp, qd, qe, qsyn, qfin, qrst, qerr, q1, q2, q3, q4⟩) 38)) b1 b2) := ⟨_, _, _, _, _, (hS6.right hS7 hF7).new (belowA _ _), (unhide HS5).2.2.2.2⟩
                obtain ⟨x0, x1, x2, x3, x4, x5, x6, x7, x8, x9, x10, x11, x12, x13, x14, -⟩ := pk_cells hA7.1
                dsimp only at x0 x1 x2 x3 x4 x5 x6 x7 x8 x9 x10 x11 x12 x13 x14
                have l2 : w4.heap.size < w5.heap.size := by omega
                clear hS6 hA6 hS7 hF7 hA7 HS5 p0 p1 p2 p3 p4 p5 p6 p7 p8 p9 p10 p11 p12 p13 p14
                have e38 : ∀ w, (Op.equalIn (9996 + 4) 38 (.agg (pkC ⟨qtag, qproto, qout, qa, qp, qd, qe, qsyn, qfin, qrst, qerr, q1, q2, q3, q4⟩)) (.agg (pkC ⟨qtag, qproto, qout, qa, qp, qd, qe, qsyn, qfin, qrst, qerr, q1, q2, q3, q4⟩))).run Try.prog w = .ok true w := fun w => by
                  have := eq38 9996 ⟨qtag, qproto, qout, qa, qp, qd, qe, qsyn, qfin, qrst, qerr, q1, q2, q3, q4⟩ ⟨qtag, qproto, qout, qa, qp, qd, qe, qsyn, qfin, qrst, qerr, q1, q2, q3, q4⟩ w
                  rw [pkEq_self] at this
                  exact this
                as_aux_lemma =>
                  dsimp only [pkC] at HB7 e38 ⊢
                  go_wp2_with fail
                  go_roundg (n - (j + 1))
                  case measure => have := unhide HK; omega
                  case rel => exact ⟨j + 1, by omega, rfl, by go_num, unhide HB7⟩
              · have hz := hq0 hv
                subst hz
                have e38 : ∀ w, (Op.equalIn (9996 + 4) 38 (.agg #[.int .i64 0, .int .i64 0, .bool false, .int .i64 0, .int .i64 0, .int .i64 0, .int .i64 0, .bool false, .bool false, .bool false, .bool false, .int .i64 0, .int .i64 0, .int .i64 0, .int .i64 0]) (.agg #[.int .i64 0, .int .i64 0, .bool false, .int .i64 0, .int .i64 0, .int .i64 0, .int .i64 0, .bool false, .bool false, .bool false, .bool false, .int .i64 0, .int .i64 0, .int .i64 0, .int .i64 0])).run Try.prog w = .ok true w := fun w => eq38 9996 pk0 pk0 w
                dsimp only [pkC, pk0]
                go_wp2_with fail
                have hS6 := (unhide HS5).1.new (belowA w4 (.cells (pkC pk0) 38))
                have hA6 := Out.alloc (unhide HS5).1.st2.box (.cells (pkC pk0) 38)
                refine (passS (p := ⟨tg, proto, out, sa, sp, da, dp, syn, fin, rst, err, qsa, qsp, qda, qdp⟩) hS6.st2 (unhide HS5).2.2.2.1).mono ?_
                rintro e w5 ⟨rfl, hS7, hF7⟩
                have s5 : w4.heap.size + 1 ≤ w5.heap.size := by have := hF7.size; simpa using this
                have hA7 := hA6.pass hF7
                have HB7 : Hid (BxT tg (1 + s) w (w5.alloc (.cells (pkC pk0) 38)) b1 b2) := ⟨_, _, _, _, _, (hS6.right hS7 hF7).new (belowA _ _), (unhide HS5).2.2.2.2⟩
                obtain ⟨x0, x1, x2, x3, x4, x5, x6, x7, x8, x9, x10, x11, x12, x13, x14, -⟩ := pk_cells hA7.1
                dsimp only [pk0] at x0 x1 x2 x3 x4 x5 x6 x7 x8 x9 x10 x11 x12 x13 x14
                have l2 : w4.heap.size < w5.heap.size := by omega
                clear hS6 hA6 hS7 hF7 hA7 HS5 p0 p1 p2 p3 p4 p5 p6 p7 p8 p9 p10 p11 p12 p13 p14
                as_aux_lemma =>
                  dsimp only [pkC, pk0] at HB7 ⊢
                  go_wp2_with fail
                  go_roundg (n - (j + 1))
                  case measure => have := unhide HK; omega
                  case rel => exact ⟨j + 1, by omega, rfl, by go_num, unhide HB7⟩
          · obtain ⟨B1', q, v, hp1, hq0, hI'⟩ := (unhide HS2).2.other (unhide HP) htg
            refine (passS (p := ⟨tg, proto, out, sa, sp, da, dp, syn, fin, rst, err, qsa, qsp, qda, qdp⟩) hS3.st1 hp1).mono ?_
            rintro e w4 ⟨rfl, hS4, hF4⟩
            have s4 : w3.heap.size + 1 ≤ w4.heap.size := by have := hF4.size; simpa using this
            have hP4 := hP3.pass hF4
            have hS5 := hS3.left hS4 hF4
            generalize grow F1 _ w4 = F3 at hS5 hP4
            have HB5 : Hid (BxT tag (1 + s) w (w4.alloc (.cells (pkC q) 38)) b1 b2) := ⟨_, _, _, _, _, hS5.new (belowA _ _), hI'⟩
            obtain ⟨p0, p1, p2, p3, p4, p5, p6, p7, p8, p9, p10, p11, p12, p13, p14, -⟩ := pk_cells hP4.1
            dsimp only at p0 p1 p2 p3 p4 p5 p6 p7 p8 p9 p10 p11 p12 p13 p14
            have l1 : w3.heap.size < w4.heap.size := by omega
            have htg' : (tg == tag) = false := by simpa using htg
            clear hS3 hP3 hP3' hS4 hF4 hP4 hS5 hp1 hI' HS2 HP
            as_aux_lemma =>
              by_cases hv : v = 0
              · subst hv
                clear hq0
                obtain ⟨qtag, qproto, qout, qa, qp, qd, qe, qsyn, qfin, qrst, qerr, q1, q2, q3, q4⟩ := q
                dsimp only [pkC] at HB5 ⊢
                go_wp2_with fail
                go_roundg (n - (j + 1))
                case measure => have := unhide HK; omega
                case rel => exact ⟨j + 1, by omega, rfl, by go_num, unhide HB5⟩
              · have hz := hq0 hv
                subst hz
                have e38 : ∀ w, (Op.equalIn (9996 + 4) 38 (.agg #[.int .i64 0, .int .i64 0, .bool false, .int .i64 0, .int .i64 0, .int .i64 0, .int .i64 0, .bool false, .bool false, .bool false, .bool false, .int .i64 0, .int .i64 0, .int .i64 0, .int .i64 0]) (.agg #[.int .i64 0, .int .i64 0, .bool false, .int .i64 0, .int .i64 0, .int .i64 0, .int .i64 0, .bool false, .bool false, .bool false, .bool false, .int .i64 0, .int .i64 0, .int .i64 0, .int .i64 0])).run Try.prog w = .ok true w := fun w => eq38 9996 pk0 pk0 w
                dsimp only [pkC, pk0] at HB5 ⊢
                go_wp2_with fail
                go_roundg (n - (j + 1))
                case measure => have := unhide HK; omega
                case rel => exact ⟨j + 1, by omega, rfl, by go_num, unhide HB5⟩
    · have HF := hide hSt.st1.below
      have HS := hide (And.intro hSt hI)
      clear hSt hI
      as_aux_lemma =>
        go_wp2_with fail
        refine (tableS (tag := tag) (unhide HS).1.st1 (unhide HS).2.f1).mono ?_
        rintro e w3 ⟨l1, rfl, hT1, hb3⟩
        have HT1 := hide hT1
        have HS3 := hide ((unhide HS).1.new hb3)
        have HF3 := hide ((unhide HF).trans (hb3.mono (unhide HF).size))
        clear hT1 hb3
        go_wp2_with fail
        refine (tableS (tag := tag) (unhide HS3).st2 (unhide HS).2.f2).mono ?_
        rintro e w4 ⟨l2, rfl, hT2, hb4⟩
        have HT2 := hide hT2
        have HT3 := hide (tabR_keep (unhide HT1) (Fr.of_below (X := fun _ => False) hb4) (fun _ _ h => h))
        have HF4 := hide ((unhide HF3).trans (hb4.mono (unhide HF3).size))
        clear hT2 hb4 HT1
        go_wp2_with fail
        refine (sameTable_any (unhide HT3) (unhide HT2)).mono ?_
        rintro e w5 ⟨rfl, hb5⟩
        have HF5 := hide ((unhide HF4).trans (hb5.mono (unhide HF4).size))
        clear hb5
        go_wp2_with fail
        go_ret
        exact ⟨rfl, unhide HF5⟩

end Go.Proofs.Ytgpplekabohneaa
