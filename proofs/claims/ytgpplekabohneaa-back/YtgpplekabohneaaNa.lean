/- 'Back', walked. -/
import Derived.Test.YtgpplekabohneaaMb
import Derived.Test.YtgpplekabohneaaMc
import Derived.Test.YtgpplekabohneaaZb
import Derived.Deep.LoopGhost
namespace Go.Proofs.Ytgpplekabohneaa
open Go.RowKit

/-- a statement's box between its events -/
def Bx (s : Int) (w wr : World) (b : Nat) : Prop := ∃ F B, St w wr F b B ∧ InvB s B

set_option maxHeartbeats 16000000 in
set_option maxRecDepth 100000 in
theorem back_any (a : Option Addr) (n cap : Nat) (l : List Ev) (size : Int) (w : World) (hA : EvArg w a n cap l) (hs : Hid (R64 size)) :
    Calls Try.prog 6 #[.slice a n cap, .int .i64 size] w fun e w' => e = .returned (.bool true) ∧ Below w.heap.size w w' := by
  obtain ⟨hn, hc, hm, hE⟩ := hA
  have HN := hide hn
  have HE := hide hE
  unfold maxLen at hm
  clear hn hE
  have e34 := eq34 9998
  go_enter Try.func6, Try.ntmps6
  go_wp2_with fail
  refine (pick_in size 5 _ hs (by decide) (by decide)).mono ?_
  rintro e wx ⟨s, hs5, rfl, hw⟩
  symm at hw
  subst hw
  have hs0 : 0 ≤ s := hs5.1
  have hs1 : s ≤ 4 := by omega
  clear hs5
  go_wp2_with fail
  refine (box_any (1 + s) w (by omega) (by omega)).mono ?_
  rintro e w1 ⟨b, rfl, hB1, hb1⟩
  have HS : Hid (Bx (1 + s) w w1 b) := ⟨_, _, ⟨hB1, fun k hk => hk.1, Fr.of_below hb1⟩, InvB.start (1 + s)⟩
  clear hB1 hb1
  go_wp2_with fail
  go_loopg [6] n (fun k i wr => ∃ j : Nat, j ≤ n ∧ k = n - j ∧ i = .int .i64 j ∧ Bx (1 + s) w wr b)
  case atStart => exact ⟨0, Nat.zero_le _, by omega, rfl, unhide HS⟩
  case round =>
    obtain ⟨j, hj, hk, rfl, F, B, hSt, hI⟩ := hrel
    have HK := hide hk
    clear hk HS
    by_cases hlt : j < n
    · obtain ⟨eb, off, rfl, heb, hEv⟩ := unhide HE (by omega)
      obtain ⟨⟨c0, c1, c2, c3, c4⟩, r0, r1, r2, r3, r4⟩ := (hEv.below hSt.below heb) j (by have := unhide HN; omega)
      have hebr : eb < wr.heap.size := by have := hSt.below.size; omega
      generalize l[j].k = ek at *
      generalize l[j].t = et at *
      generalize l[j].a = ea at *
      generalize l[j].b = ebb at *
      generalize l[j].c = ec at *
      have R0 := hide r0
      have R1 := hide r1
      have R2 := hide r2
      have R3 := hide r3
      have R4 := hide r4
      have HS := hide (And.intro hSt hI)
      clear r0 r1 r2 r3 r4 hEv hSt hI HE
      by_cases hk0 : ek = 0
      · subst hk0
        go_wp2_with fail
        refine (pick_in ea 60 _ R2 (by decide) (by decide)).mono ?_
        rintro e wx ⟨x, hx, rfl, hw⟩
        symm at hw
        subst hw
        go_wp2_with fail
        refine (tickS (unhide HS).1 x (by omega) (by omega)).mono ?_
        rintro e w2 ⟨rfl, hS2, _⟩
        have HS2 : Hid (Bx (1 + s) w w2 b) := ⟨_, _, hS2, (unhide HS).2.tick x⟩
        clear hS2 HS
        go_wp2_with fail
        go_roundg (n - (j + 1))
        case measure => have := unhide HK; omega
        case rel => exact ⟨j + 1, by omega, rfl, by go_num, unhide HS2⟩
      · have hk0' : (ek == 0) = false := by simpa using hk0
        clear hk0
        go_wp2_with fail
        refine (packet_any ek et ea ebb ec _ R0 R1 R2 R3 R4).mono ?_
        rintro e w2 ⟨p, hp, rfl, hb2⟩
        obtain ⟨tag, proto, out, sa, sp, da, dp, syn, fin, rst, err, qsa, qsp, qda, qdp⟩ := p
        have HS2 := hide (And.intro ((unhide HS).1.new hb2) (unhide HS).2)
        have t1 : 1 ≤ tag := hp.tag.1
        have t2 : tag ≤ 3 := hp.tag.2
        have HP := hide hp
        clear hb2 hp HS c0 c1 c2 c3 c4
        dsimp only [pkC]
        go_wp2_with fail
        obtain ⟨B', q, v, hpb, hI'⟩ := passB_ok (unhide HS2).2 (unhide HP)
        have hS3 := (unhide HS2).1.new (belowA w2 (.cells (pkC ⟨tag, proto, out, sa, sp, da, dp, syn, fin, rst, err, qsa, qsp, qda, qdp⟩) 38))
        have hP3 := Out.alloc (unhide HS2).1.box (.cells (pkC ⟨tag, proto, out, sa, sp, da, dp, syn, fin, rst, err, qsa, qsp, qda, qdp⟩) 38)
        refine (passS (p := ⟨tag, proto, out, sa, sp, da, dp, syn, fin, rst, err, qsa, qsp, qda, qdp⟩) hS3 hpb).mono ?_
        rintro e w3 ⟨rfl, hS4, hF4⟩
        have s3 : w2.heap.size + 1 ≤ w3.heap.size := by have := hF4.size; simpa using this
        have hP4 := hP3.pass hF4
        have hg2 := (unhide HS2).1.box.good
        have hI2 := (unhide HS2).2
        generalize grow F _ w3 = F3 at hS4 hP4
        have HS4 := hide (And.intro hS4 (And.intro hI' hP4))
        obtain ⟨p0, p1, p2, p3, p4, p5, p6, p7, p8, p9, p10, p11, p12, p13, p14, -⟩ := pk_cells hP4.1
        dsimp only at p0 p1 p2 p3 p4 p5 p6 p7 p8 p9 p10 p11 p12 p13 p14
        have l1 : w2.heap.size < w3.heap.size := by omega
        have HB4 : Hid (Bx (1 + s) w (w3.alloc (.cells (pkC q) 38)) b) := ⟨_, _, hS4.new (belowA _ _), hI'⟩
        clear hS3 hP3 hF4 hS4 hI' hP4 HS2
        by_cases hmain : v = 0 ∧ out = true ∧ err = false ∧ q.out = true
        · obtain ⟨rfl, rfl, rfl, hqo⟩ := hmain
          obtain ⟨port, g1, g2, rfl, hH⟩ := back_out (by omega) hI2 hg2 (unhide HP) hpb rfl rfl hqo
          have HH := hide hH
          clear hH hpb hI2 hg2 hqo
          dsimp only [pkC] at HB4 HH ⊢
          obtain ⟨ot, hot⟩ : ∃ ot, 1000 * tag = ot := ⟨_, rfl⟩
          rw [hot] at HB4 HH
          rw [hot]
          have o1 : 0 ≤ ot := by omega
          have o2 : ot ≤ 3000 := by omega
          have hpe := goodB_ends (unhide HP).good
          dsimp only at hpe
          obtain ⟨gA, gE⟩ := back_good (tag := tag) ⟨o1, o2⟩ hpe.1 hpe.2.2 ⟨g1, g2⟩
          obtain ⟨gZ, -⟩ := back_good (o := ot) (tag := tag) (proto := proto) (da := 4294967295) (dp := dp) (port := port) ⟨o1, o2⟩ hpe.1 ⟨by omega, by omega, hpe.2.2.2.2⟩ ⟨g1, g2⟩
          have HG := hide (And.intro gA (And.intro gE gZ))
          clear hpe gA gE gZ HP
          cases rst
          rotate_left
          · as_aux_lemma =>
   go_wp2_with fail
   go_roundg (n - (j + 1))
   case measure => have := unhide HK; omega
   case rel => exact ⟨j + 1, by omega, rfl, by go_num, unhide HB4⟩
          cases fin
          rotate_left
          · as_aux_lemma =>
   go_wp2_with fail
   go_roundg (n - (j + 1))
   case measure => have := unhide HK; omega
   case rel => exact ⟨j + 1, by omega, rfl, by go_num, unhide HB4⟩
          clear HB4
          go_wp2_with fail
          clear hot
          as_aux_lemma =>
            refine (answer_any ⟨tag, proto, true, ot, port, da, dp, syn, false, false, false, qsa, qsp, qda, qdp⟩ _).mono ?_
            rintro e w4 ⟨rfl, hb4⟩
            have hb34 : Below w3.heap.size w3 w4 := (belowA w3 (.cells (pkC ⟨tag, proto, true, ot, port, da, dp, syn, false, false, false, qsa, qsp, qda, qdp⟩) 38)).trans (hb4.mono (by simp))
            have s4 : w3.heap.size + 1 ≤ w4.heap.size := by have := hb4.size; simpa using this
            have hQ4 := (Out.alloc (unhide HS4).1.box (.cells (pkC ⟨tag, proto, true, ot, port, da, dp, syn, false, false, false, qsa, qsp, qda, qdp⟩) 38)).new hb4
            have HS5 := hide (And.intro ((unhide HS4).1.new hb34) (And.intro (unhide HS4).2.1 (And.intro ((unhide HS4).2.2.new hb34) hQ4)))
            clear hb4 hb34 hQ4 HS4 p0 p1 p2 p3 p4 p5 p6 p7 p8 p9 p10 p11 p12 p13 p14
            dsimp only [pkC, answerF]
            go_wp2_with fail
            obtain ⟨B5, hB5, hH5⟩ := back_ans (dp := dp) (unhide HS5).1.box.good (unhide HH) (unhide HG).1
            have hI5 := (unhide HS5).2.1.pass (unhide HG).1 ⟨t1, t2⟩ (by intro h; cases h)
            rw [hB5] at hI5
            refine (passS (p := bkA ot tag proto da dp port) (unhide HS5).1 hB5).mono ?_
            rintro e w5 ⟨rfl, hS6, hF6⟩
            have s5 : w4.heap.size ≤ w5.heap.size := hF6.size
            have hP6 := (unhide HS5).2.2.1.pass hF6
            have hQ6 := (unhide HS5).2.2.2.pass hF6
            generalize grow F3 _ w5 = F5 at hS6 hP6 hQ6
            have HS6 := hide (And.intro hS6 (And.intro hI5 (And.intro hP6 (And.intro hQ6 hH5))))
            obtain ⟨p0, p1, p2, p3, p4, p5, p6, p7, p8, p9, p10, p11, p12, p13, p14, -⟩ := pk_cells hP6.1
            obtain ⟨q0, q1, q2, q3, q4, q5, q6, q7, q8, q9, q10, q11, q12, q13, q14, -⟩ := pk_cells hQ6.1
            dsimp only at p0 p1 p2 p3 p4 p5 p6 p7 p8 p9 p10 p11 p12 p13 p14 q0 q1 q2 q3 q4 q5 q6 q7 q8 q9 q10 q11 q12 q13 q14
            have l2 : w2.heap.size < w5.heap.size := by omega
            have l3 : w3.heap.size < w5.heap.size := by omega
            clear hB5 hH5 hI5 hS6 hF6 hP6 hQ6 HS5 HH l1
            as_aux_lemma =>
              dsimp only [pkC, bkR]
              go_wp2_with (first | refine wpList_qu rfl _ _ rfl _ _ _ _ rfl rfl ?_ | refine wpList_bk rfl _ _ _ _ _ _ rfl _ _ _ _ _ _ _ _ rfl rfl rfl rfl rfl rfl ?_)
              have hS7 := ((unhide HS6).1.new (belowA w5 (.cells (pkC (bkR tag proto da dp sa sp)) 38))).new (belowA _ (.cells (pkC (bkE ot tag proto da dp port)) 38))
              have hP7 := ((unhide HS6).2.2.1.new (belowA w5 (.cells (pkC (bkR tag proto da dp sa sp)) 38))).new (belowA _ (.cells (pkC (bkE ot tag proto da dp port)) 38))
              have hQ7 := ((unhide HS6).2.2.2.1.new (belowA w5 (.cells (pkC (bkR tag proto da dp sa sp)) 38))).new (belowA _ (.cells (pkC (bkE ot tag proto da dp port)) 38))
              have hR7 := (Out.alloc (unhide HS6).1.box (.cells (pkC (bkR tag proto da dp sa sp)) 38)).new (belowA _ (.cells (pkC (bkE ot tag proto da dp port)) 38))
              obtain ⟨B7, hB7, hH7⟩ := back_err (dp := dp) hS7.box.good (unhide HS6).2.2.2.2 (unhide HG).2.1
              have hI7 := (unhide HS6).2.1.pass (unhide HG).2.1 ⟨t1, t2⟩ (by intro h; cases h)
              rw [hB7] at hI7
              refine (passS (p := bkE ot tag proto da dp port) hS7 hB7).mono ?_
              rintro e w6 ⟨rfl, hS8, hF8⟩
              have s6 : w5.heap.size + 2 ≤ w6.heap.size := by have := hF8.size; simpa using this
              have hP8 := hP7.pass hF8
              have hQ8 := hQ7.pass hF8
              have hR8 := hR7.pass hF8
              generalize grow F5 _ w6 = F6 at hS8 hP8 hQ8 hR8
              have HS8 := hide (And.intro hS8 (And.intro hI7 (And.intro hP8 (And.intro hQ8 (And.intro hR8 hH7)))))
              clear p0 p1 p2 p3 p4 p5 p6 p7 p8 p9 p10 p11 p12 p13 p14 q0 q1 q2 q3 q4 q5 q6 q7 q8 q9 q10 q11 q12 q13 q14
              obtain ⟨q0, q1, q2, q3, q4, q5, q6, q7, q8, q9, q10, q11, q12, q13, q14, -⟩ := pk_cells hQ8.1
              dsimp only at q0 q1 q2 q3 q4 q5 q6 q7 q8 q9 q10 q11 q12 q13 q14
              have l4 : w3.heap.size < w6.heap.size := by omega
              clear hB7 hH7 hI7 hS7 hP7 hQ7 hR7 hS8 hF8 hP8 hQ8 hR8 HS6 l2 l3
              as_aux_lemma =>
                dsimp only [pkC, bkX]
                go_wp2_with fail
                refine (answer_any ⟨tag, proto, true, ot, port, da, dp, syn, false, false, false, qsa, qsp, qda, qdp⟩ _).mono ?_
                rintro e w7 ⟨rfl, hb9⟩
                have hb69 : Below w6.heap.size w6 w7 := (belowA w6 (.cells (pkC (bkX tag proto da dp port sa sp)) 38)).trans (hb9.mono (by simp))
                have s7 : w6.heap.size + 1 ≤ w7.heap.size := by have := hb9.size; simpa using this
                have hX9 := (Out.alloc (unhide HS8).1.box (.cells (pkC (bkX tag proto da dp port sa sp)) 38)).new hb9
                have HS9 := hide (And.intro ((unhide HS8).1.new hb69) (And.intro (unhide HS8).2.1 (And.intro ((unhide HS8).2.2.1.new hb69) (And.intro ((unhide HS8).2.2.2.1.new hb69) (And.intro ((unhide HS8).2.2.2.2.1.new hb69) (And.intro hX9 (unhide HS8).2.2.2.2.2))))))
                clear hb9 hb69 hX9 HS8 q0 q1 q2 q3 q4 q5 q6 q7 q8 q9 q10 q11 q12 q13 q14 l4
                dsimp only [pkC, answerF]
                go_wp2_with fail
                have hS10 := (unhide HS9).1.new (belowA w7 (.cells (pkC (bkA ot tag proto 4294967295 dp port)) 38))
                have hP10 := (unhide HS9).2.2.1.new (belowA w7 (.cells (pkC (bkA ot tag proto 4294967295 dp port)) 38))
                have hQ10 := (unhide HS9).2.2.2.1.new (belowA w7 (.cells (pkC (bkA ot tag proto 4294967295 dp port)) 38))
                have hR10 := (unhide HS9).2.2.2.2.1.new (belowA w7 (.cells (pkC (bkA ot tag proto 4294967295 dp port)) 38))
                have hX10 := (unhide HS9).2.2.2.2.2.1.new (belowA w7 (.cells (pkC (bkA ot tag proto 4294967295 dp port)) 38))
                obtain ⟨B10, hB10⟩ := back_strange (dp := dp) (unhide HS9).2.1 hS10.box.good (unhide HS9).2.2.2.2.2.2 (unhide HG).2.2
                have hI10 := (unhide HS9).2.1.pass (unhide HG).2.2 ⟨t1, t2⟩ (by intro h; cases h)
                rw [hB10] at hI10
                refine (passS (p := bkA ot tag proto 4294967295 dp port) hS10 hB10).mono ?_
                rintro e w8 ⟨rfl, hS11, hF11⟩
                have s8 : w7.heap.size + 1 ≤ w8.heap.size := by have := hF11.size; simpa using this
                obtain ⟨p0, p1, p2, p3, p4, p5, p6, p7, p8, p9, p10, p11, p12, p13, p14, -⟩ := pk_cells (hP10.pass hF11).1
                obtain ⟨q0, q1, q2, q3, q4, q5, q6, q7, q8, q9, q10, q11, q12, q13, q14, -⟩ := pk_cells (hQ10.pass hF11).1
                obtain ⟨r0, r1, r2, r3, r4, r5, r6, r7, r8, r9, r10, r11, r12, r13, r14, -⟩ := pk_cells (hR10.pass hF11).1
                obtain ⟨x0, x1, x2, x3, x4, x5, x6, x7, x8, x9, x10, x11, x12, x13, x14, -⟩ := pk_cells (hX10.pass hF11).1
                dsimp only [bkR, bkX] at p0 p1 p2 p3 p4 p5 p6 p7 p8 p9 p10 p11 p12 p13 p14 q0 q1 q2 q3 q4 q5 q6 q7 q8 q9 q10 q11 q12 q13 q14 r0 r1 r2 r3 r4 r5 r6 r7 r8 r9 r10 r11 r12 r13 r14 x0 x1 x2 x3 x4 x5 x6 x7 x8 x9 x10 x11 x12 x13 x14
                have HB : Hid (Bx (1 + s) w (w8.alloc (.cells (pkC pk0) 38)) b) := ⟨_, _, hS11.new (belowA _ _), hI10⟩
                have l5 : w2.heap.size < w8.heap.size := by omega
                have l6 : w3.heap.size < w8.heap.size := by omega
                have l7 : w5.heap.size < w8.heap.size := by omega
                have l8 : w6.heap.size < w8.heap.size := by omega
                clear hB10 hI10 hS10 hP10 hQ10 hR10 hX10 hS11 hF11 HS9 HG p0 p1 p2 p5 p6 p7 p8 p9 p10 p11 p12 p13 p14 q0 q1 q2 q3 q4 q7 q8 q9 q10 q11 q12 q13 q14
                as_aux_lemma =>
                  dsimp only [pkC, pk0] at HB ⊢
                  go_wp2_with fail
                  go_roundg (n - (j + 1))
                  case measure => have := unhide HK; omega
                  case rel => exact ⟨j + 1, by omega, rfl, by go_num, unhide HB⟩
        · clear hpb hI2 hg2
          obtain ⟨qtag, qproto, qout, qa, qp, qd, qe, qsyn, qfin, qrst, qerr, q1, q2, q3, q4⟩ := q
          dsimp only [pkC] at HB4 hmain ⊢
          by_cases hv : v = 0
          rotate_left
          · clear hmain
            as_aux_lemma =>
              go_wp2_with fail
              go_roundg (n - (j + 1))
              case measure => have := unhide HK; omega
              case rel => exact ⟨j + 1, by omega, rfl, by go_num, unhide HB4⟩
          · subst hv
            cases out
            · clear hmain
              as_aux_lemma =>
                go_wp2_with fail
                go_roundg (n - (j + 1))
                case measure => have := unhide HK; omega
                case rel => exact ⟨j + 1, by omega, rfl, by go_num, unhide HB4⟩
            · cases err
              · cases qout
                · clear hmain
                  as_aux_lemma =>
                    go_wp2_with fail
                    go_roundg (n - (j + 1))
                    case measure => have := unhide HK; omega
                    case rel => exact ⟨j + 1, by omega, rfl, by go_num, unhide HB4⟩
                · exact absurd ⟨rfl, rfl, rfl, rfl⟩ hmain
              · clear hmain
                as_aux_lemma =>
                  go_wp2_with fail
                  go_roundg (n - (j + 1))
                  case measure => have := unhide HK; omega
                  case rel => exact ⟨j + 1, by omega, rfl, by go_num, unhide HB4⟩
    · have HF := hide hSt.below
      clear hSt hI
      go_wp2_with fail
      go_ret
      exact ⟨rfl, unhide HF⟩

end Go.Proofs.Ytgpplekabohneaa
