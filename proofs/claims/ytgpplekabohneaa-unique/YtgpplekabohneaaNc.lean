/- 'Unique', walked. -/
import Derived.Test.YtgpplekabohneaaMd
import Derived.Test.YtgpplekabohneaaMe
import Derived.Test.YtgpplekabohneaaMc
import Derived.Test.YtgpplekabohneaaZb
import Derived.Deep.LoopGhost
import Derived.Deep.QuietTactic
import Derived.Deep.CutRange
import Derived.Deep.CutBlock
import Derived.BigQuiet
namespace Go.Proofs.Ytgpplekabohneaa
open Go.RowKit

/-- a statement's box between its events -/
def BxU (s : Int) (w wr : World) (b : Nat) : Prop := ∃ F B, St w wr F b B ∧ InvB s B

theorem portL_bd (p : Int) : ∀ (l : List Mp) (q : Int), q ≤ portL p l q ∧ portL p l q ≤ q + l.length
  | [], q => ⟨Int.le_refl _, by show q ≤ q + ((0 : Nat) : Int); omega⟩
  | m :: r, q => by
    have e : portL p (m :: r) q = portL p r (if m.proto = p ∧ m.port = q then q + 1 else q) := rfl
    have h := portL_bd p r (if m.proto = p ∧ m.port = q then q + 1 else q)
    rw [e]
    rw [List.length_cons]
    split at h
    · rename_i c
      rw [if_pos c]
      omega
    · rename_i c
      rw [if_neg c]
      omega

/-- what the statement looks for among the new rows -/
def fndL (p q a b : Int) (l : List Mp) : Bool := l.any fun m => m.proto == p && m.port == q && (m.ia == a && m.ip == b)

theorem fndL_snoc (p q a b : Int) (l : List Mp) (j : Nat) (h : j < l.length) : fndL p q a b (l.take (j + 1)) = (fndL p q a b (l.take j) || (l[j].proto == p && l[j].port == q && (l[j].ia == a && l[j].ip == b))) := by
  unfold fndL
  rw [List.take_succ_eq_append_getElem h, List.any_append]
  simp

theorem fndL_true {p q a b : Int} {l : List Mp} (h : ∃ m ∈ l, m.proto = p ∧ m.port = q ∧ m.ia = a ∧ m.ip = b) : fndL p q a b l = true := by
  obtain ⟨m, hm, rfl, rfl, rfl, rfl⟩ := h
  unfold fndL
  rw [List.any_eq_true]
  exact ⟨m, hm, by simp⟩

theorem cellOf {w : World} {g : Nat} {cs : Array Value} {e : TypeId} {fz : Nat × Nat} (h : w.heap[g]? = some (.cells cs e fz)) (i : Nat) : w.cell? ⟨g, i, none⟩ = cs[i]? := by simp [World.cell?, h]

set_option maxHeartbeats 16000000 in
set_option maxRecDepth 100000 in
theorem unique_any (a : Option Addr) (n cap : Nat) (l : List Ev) (size : Int) (w : World) (hA : EvArg w a n cap l) (hs : Hid (R64 size)) :
    Calls Try.prog 7 #[.slice a n cap, .int .i64 size] w fun e w' => e = .returned (.bool true) ∧ Below w.heap.size w w' := by
  obtain ⟨hn, hc, hm, hE⟩ := hA
  have HN := hide hn
  have HE := hide hE
  unfold maxLen at hm
  clear hn hE
  have e34 := eq34 9998
  go_enter Try.func7, Try.ntmps7
  go_wp2_with fail
  refine (pick_in size 5 _ hs (by decide) (by decide)).mono ?_
  rintro e wx ⟨s, hs5, rfl, hw⟩
  symm at hw
  subst hw
  have hs0 : 0 ≤ s := hs5.1
  have hs1 : s ≤ 4 := by omega
  clear hs5
  go_wp2_with fail
  refine (box_any (1 + s) w (by omega) (by omega)).mono ?_
  rintro e w1 ⟨b, rfl, hB1, hb1⟩
  have HS : Hid (BxU (1 + s) w w1 b) := ⟨_, _, ⟨hB1, fun k hk => hk.1, Fr.of_below hb1⟩, InvB.start (1 + s)⟩
  clear hB1 hb1
  go_wp2_with fail
  go_loopg [6] n (fun k i wr => ∃ j : Nat, j ≤ n ∧ k = n - j ∧ i = .int .i64 j ∧ BxU (1 + s) w wr b)
  case atStart => exact ⟨0, Nat.zero_le _, by omega, rfl, unhide HS⟩
  case round =>
    obtain ⟨j, hj, hk, rfl, F, B, hSt, hI⟩ := hrel
    have HK := hide hk
    clear hk HS
    by_cases hlt : j < n
    · obtain ⟨eb, off, rfl, heb, hEv⟩ := unhide HE (by omega)
      obtain ⟨⟨c0, c1, c2, c3, c4⟩, r0, r1, r2, r3, r4⟩ := (hEv.below hSt.below heb) j (by have := unhide HN; omega)
      have hebr : eb < wr.heap.size := by have := hSt.below.size; omega
      generalize l[j].k = ek at *
      generalize l[j].t = et at *
      generalize l[j].a = ea at *
      generalize l[j].b = ebb at *
      generalize l[j].c = ec at *
      have R0 := hide r0
      have R1 := hide r1
      have R2 := hide r2
      have R3 := hide r3
      have R4 := hide r4
      have HS := hide (And.intro hSt hI)
      clear r0 r1 r2 r3 r4 hEv hSt hI HE
      by_cases hk0 : ek = 0
      · subst hk0
        as_aux_lemma =>
          go_wp2_with fail
          refine (pick_in ea 60 _ R2 (by decide) (by decide)).mono ?_
          rintro e wx ⟨x, hx, rfl, hw⟩
          symm at hw
          subst hw
          go_wp2_with fail
          refine (tickS (unhide HS).1 x (by omega) (by omega)).mono ?_
          rintro e w2 ⟨rfl, hS2, _⟩
          have HS2 : Hid (BxU (1 + s) w w2 b) := ⟨_, _, hS2, (unhide HS).2.tick x⟩
          clear hS2 HS
          go_wp2_with fail
          go_roundg (n - (j + 1))
          case measure => have := unhide HK; omega
          case rel => exact ⟨j + 1, by omega, rfl, by go_num, unhide HS2⟩
      · have hk0' : (ek == 0) = false := by simpa using hk0
        clear hk0
        go_wp2_with fail
        as_aux_lemma =>
          refine (packet_any ek et ea ebb ec _ R0 R1 R2 R3 R4).mono ?_
          rintro e w2 ⟨p, hp, rfl, hb2⟩
          obtain ⟨tag, proto, out, sa, sp, da, dp, syn, fin, rst, err, qsa, qsp, qda, qdp⟩ := p
          have HS2 := hide (And.intro ((unhide HS).1.new hb2) (unhide HS).2)
          have t1 : 1 ≤ tag := hp.tag.1
          have t2 : tag ≤ 3 := hp.tag.2
          have HP := hide hp
          clear hb2 hp HS c0 c1 c2 c3 c4
          dsimp only [pkC]
          go_wp2_with fail
          obtain ⟨T, hf, hT⟩ := InvB.find (unhide HS2).2 t1 t2
          have hS3 := (unhide HS2).1.new (belowA w2 (.cells (pkC ⟨tag, proto, out, sa, sp, da, dp, syn, fin, rst, err, qsa, qsp, qda, qdp⟩) 38))
          have hP3 := Out.alloc (unhide HS2).1.box (.cells (pkC ⟨tag, proto, out, sa, sp, da, dp, syn, fin, rst, err, qsa, qsp, qda, qdp⟩) 38)
          have hI3 := (unhide HS2).2
          refine (tableS (tag := tag) hS3 hf).mono ?_
          rintro e w3 ⟨lw, rfl, hTw, hb3⟩
          as_aux_lemma =>
            have s3 : w2.heap.size + 1 ≤ w3.heap.size := by have := hb3.size; simpa using this
            have hbase : ∀ k, (w2.alloc (.cells (pkC ⟨tag, proto, out, sa, sp, da, dp, syn, fin, rst, err, qsa, qsp, qda, qdp⟩) 38)).heap.size ≤ k → ¬ F k := fun k hk hF => by
              obtain ⟨_, _, _, _, _, h4⟩ := hS3.box
              have := h4 k hF
              omega
            have HT4 : Hid (∃ N, TabR w3 N lw (tableF T) ∧ ∀ k, N ≤ k → ¬ F k) := ⟨_, hTw, hbase⟩
            have hP4 := hP3.new hb3
            have HS4 := hide (And.intro (hS3.new hb3) (And.intro hI3 (And.intro hP4 (And.intro hf hT))))
            obtain ⟨p0, p1, p2, p3, p4, p5, p6, p7, p8, p9, p10, p11, p12, p13, p14, -⟩ := pk_cells hP4.1
            dsimp only at p0 p1 p2 p3 p4 p5 p6 p7 p8 p9 p10 p11 p12 p13 p14
            have l1 : w2.heap.size < w3.heap.size := by omega
            clear hbase hS3 hP3 hTw hb3 hP4 hf hT hI3 HS2
            go_wp2_with fail
            have hpb := passB_eq (p := ⟨tag, proto, out, sa, sp, da, dp, syn, fin, rst, err, qsa, qsp, qda, qdp⟩) (unhide HP).good (unhide HS4).2.2.2.1
            have hGT := (unhide HS4).1.box.good _ (List.mem_of_find?_eq_some (unhide HS4).2.2.2.1)
            have hadds := pass_adds (T := T) hGT (goodB_proto (unhide HP).good)
            have hI5 := InvB.pass (unhide HS4).2.1 (unhide HP).good ⟨t1, t2⟩ (fun _ => (unhide HP).da)
            rw [hpb] at hI5
            rcases hpf : passF T ⟨tag, proto, out, sa, sp, da, dp, syn, fin, rst, err, qsa, qsp, qda, qdp⟩ with ⟨T', q, v⟩
            rw [hpf] at hpb hadds hI5
            dsimp only at hpb hadds hI5
            refine (passS (p := ⟨tag, proto, out, sa, sp, da, dp, syn, fin, rst, err, qsa, qsp, qda, qdp⟩) (unhide HS4).1 hpb).mono ?_
            rintro e w4 ⟨rfl, hS5, hF5⟩
            as_aux_lemma =>
              have s4 : w3.heap.size ≤ w4.heap.size := hF5.size
              have hP5 := (unhide HS4).2.2.1.pass hF5
              have HT5 : Hid (∃ N, TabR w4 N lw (tableF T)) := by
                obtain ⟨N, a1, a2⟩ := unhide HT4
                exact ⟨N, tabR_keep a1 hF5 a2⟩
              have hf5 := find_putT (T' := T') (unhide HS4).2.2.2.1
              generalize grow F w3 w4 = F4 at hS5 hP5
              generalize putT B tag T' = B' at hS5 hI5 hf5
              have HS5 := hide (And.intro hS5 (And.intro hI5 (And.intro hP5 (And.intro hf5 (And.intro hGT (And.intro (unhide HS4).2.2.2.2 hadds))))))
              clear p0 p1 p2 p3 p4 p5 p6 p7 p8 p9 p10 p11 p12 p13 p14
              obtain ⟨p0, p1, p2, p3, p4, p5, p6, p7, p8, p9, p10, p11, p12, p13, p14, -⟩ := pk_cells hP5.1
              dsimp only at p0 p1 p2 p3 p4 p5 p6 p7 p8 p9 p10 p11 p12 p13 p14
              have l2 : w2.heap.size < w4.heap.size := by omega
              clear l1 s3 hF5 hS5 hP5 hf5 hI5 hadds hpb hpf hGT HS4 HT4
              obtain ⟨qtag, qproto, qout, qa, qp, qd, qe, qsyn, qfin, qrst, qerr, q1, q2, q3, q4⟩ := q
              dsimp only [pkC]
              go_wp2_with fail
              have hS6 := (unhide HS5).1.new (belowA w4 (.cells (pkC ⟨qtag, qproto, qout, qa, qp, qd, qe, qsyn, qfin, qrst, qerr, q1, q2, q3, q4⟩) 38))
              refine (tableS (tag := tag) hS6 (unhide HS5).2.2.2.1).mono ?_
              rintro e w5 ⟨ll, rfl, hTl, hb5⟩
              as_aux_lemma =>
                have s5 : w4.heap.size + 1 ≤ w5.heap.size := by have := hb5.size; simpa using this
                have hb45 : Below w4.heap.size w4 w5 := (belowA w4 (.cells (pkC ⟨qtag, qproto, qout, qa, qp, qd, qe, qsyn, qfin, qrst, qerr, q1, q2, q3, q4⟩) 38)).trans (hb5.mono (by simp))
                have hP6 := (unhide HS5).2.2.1.new hb45
                have hQ6 := (Out.alloc (unhide HS5).1.box (.cells (pkC ⟨qtag, qproto, qout, qa, qp, qd, qe, qsyn, qfin, qrst, qerr, q1, q2, q3, q4⟩) 38)).new hb5
                have hI6 := (unhide HS5).2.1
                have hf6 := (unhide HS5).2.2.2.1
                have hm6 := List.mem_of_find?_eq_some hf6
                have hG6 := (unhide HS5).1.box.good _ hm6
                have hT6 := hI6.ten _ hm6
                have hGT := (unhide HS5).2.2.2.2.1
                have hT := (unhide HS5).2.2.2.2.2.1
                have hadds := (unhide HS5).2.2.2.2.2.2
                have HB5 : Hid (BxU (1 + s) w w5 b) := ⟨_, _, hS6.new hb5, hI6⟩
                have hTab : Tab (1 + s) (tableF T') := tab_of hG6 hT6
                have hlen1 : (tableF T).length = T.maps.length := table_len hGT
                have hlen2 : (tableF T').length = T'.maps.length := table_len hG6
                have hfew : T.maps.length ≤ 192 := good_few hGT
                obtain ⟨N, hTw⟩ := unhide HT5
                have hTw5 := tabR_keep hTw (Fr.of_below (X := fun _ => False) hb45) (fun _ _ h => h)
                obtain ⟨aw, cw, rfl, kw1, kw2, hRW⟩ := tabR_at hTw5
                obtain ⟨al, cl, rfl, kl1, kl2, hRL⟩ := tabR_at hTl
                have hA2 : (tableF T').length = (tableF T).length ∨ ((tableF T').length = (tableF T).length + 1 ∧ out = true ∧ err = false ∧ (∃ m ∈ tableF T', m.proto = proto ∧ m.port = portL proto (tableF T) 100 ∧ m.ia = sa ∧ m.ip = sp) ∧ (v = 0 → qout = true → qp = portL proto (tableF T) 100)) := by
                  rcases hadds with h | ⟨h1, h2, h3, r, h4, ⟨m, h5, h6⟩, h7⟩
                  · left
                    omega
                  · right
                    have e := portL_table (goodB_proto (unhide HP).good) h4
                    rw [hT.low] at e
                    rw [e]
                    exact ⟨by omega, h2, h3, ⟨m, (table_mem hG6).2 h5, h6⟩, h7⟩
                generalize tableF T = LW at *
                generalize tableF T' = LL at *
                obtain ⟨nw, hnw⟩ : ∃ nw, LW.length = nw := ⟨_, rfl⟩
                obtain ⟨nl, hnl⟩ : ∃ nl, LL.length = nl := ⟨_, rfl⟩
                rw [hnw] at kw1 hA2 hlen1 ⊢
                rw [hnl] at kl1 hA2 hlen2 ⊢
                have n1 : nw ≤ nl := by rcases hA2 with h | h <;> omega
                have n2 : nl ≤ nw + 1 := by rcases hA2 with h | h <;> omega
                have n3 : nw ≤ 192 := by omega
                have HA := hide hA2
                have HT := hide hTab
                have HRW := hide hRW
                have HRL := hide hRL
                have HNW := hide hnw
                have HNL := hide hnl
                clear p0 p1 p2 p3 p4 p5 p6 p7 p8 p9 p10 p11 p12 p13 p14
                obtain ⟨p0, p1, p2, p3, p4, p5, p6, p7, p8, p9, p10, p11, p12, p13, p14, -⟩ := pk_cells hP6.1
                obtain ⟨x0, x1, x2, x3, x4, x5, x6, x7, x8, x9, x10, x11, x12, x13, x14, -⟩ := pk_cells hQ6.1
                dsimp only at p0 p1 p2 p3 p4 p5 p6 p7 p8 p9 p10 p11 p12 p13 p14 x0 x1 x2 x3 x4 x5 x6 x7 x8 x9 x10 x11 x12 x13 x14
                unfold maxLen at kw2 kl2
                have l3 : w2.heap.size < w5.heap.size := by omega
                have l4 : w4.heap.size < w5.heap.size := by omega
                have t3 : 1 ≤ proto ∧ proto ≤ 3 := goodB_proto (unhide HP).good
                clear hb45 hP6 hQ6 hI6 hf6 hm6 hG6 hT6 hGT hT hadds hTab hlen1 hlen2 hfew hTw hTw5 hRW hRL hA2 hnw hnl hS6 hTl hb5 HS5 HT5 l2
                have d1 : decide ((nl : Int) < (nw : Int)) = false := by simp; omega
                have d2 : decide ((nw : Int) + 1 < (nl : Int)) = false := by simp; omega
                have d3 : decide (nl < nw) = false := by simp; omega
                go_upto_block 2 with fail
                go_cut [15, 16, 17] from 100 to 203 (fun _ _ _ wx => Below w5.heap.size w5 wx)
                case first =>
                  as_aux_lemma =>
                    go_wp2_with fail
                    go_loopg [15] nl (fun k i wr => ∃ j2 : Nat, j2 ≤ nl ∧ k = nl - j2 ∧ i = .int .i64 j2 ∧ Below w5.heap.size w5 wr)
                    case atStart => exact ⟨0, Nat.zero_le _, by omega, rfl, Below.refl _ _⟩
                    case round =>
                      obtain ⟨j2, hj2, hk2, rfl, hb⟩ := hrel
                      have HK2 := hide hk2
                      have HB := hide hb
                      clear hk2 hb
                      by_cases hlt2 : j2 < nl
                      rotate_left
                      · as_aux_lemma =>
                          go_wp2_with fail
                          go_meet
                          exact unhide HB
                      · obtain ⟨gl, rfl, gl1, gl2, hrows⟩ := unhide HRL (by have := unhide HNL; omega)
                        obtain ⟨ao, pc, a0, a1, a2, a3, a4, a5, a6, a7, a8, -⟩ := (hrows j2 (by have := unhide HNL; omega)).below (unhide HB) gl2 (Nat.le_refl _)
                        obtain ⟨e1, e2, e3, e4, e5, e6⟩ := (unhide HT).each _ (List.getElem_mem (by have := unhide HNL; omega : j2 < LL.length))
                        have HM : Hid (∀ i, i < j2 → ∃ (m : Mp) (bs : Nat), RowAt w5 gl bs i m ∧ (m.proto < (LL[j2]'(by have := unhide HNL; omega)).proto ∨ (m.proto = (LL[j2]'(by have := unhide HNL; omega)).proto ∧ m.port < (LL[j2]'(by have := unhide HNL; omega)).port)) ∧ ¬ (m.proto = (LL[j2]'(by have := unhide HNL; omega)).proto ∧ m.ia = (LL[j2]'(by have := unhide HNL; omega)).ia ∧ m.ip = (LL[j2]'(by have := unhide HNL; omega)).ip)) :=
                          fun i h => ⟨LL[i]'(by have := unhide HNL; omega), _, hrows i (by have := unhide HNL; omega), List.pairwise_iff_getElem.1 (unhide HT).sorted i j2 (by have := unhide HNL; omega) (by have := unhide HNL; omega) h, List.pairwise_iff_getElem.1 (unhide HT).ends i j2 (by have := unhide HNL; omega) (by have := unhide HNL; omega) h⟩
                        have glr : gl < wr.heap.size := by have := (unhide HB).size; omega
                        clear hrows
                        generalize (LL[j2]'(by have := unhide HNL; omega)).proto = m0 at *
                        generalize (LL[j2]'(by have := unhide HNL; omega)).ia = m1 at *
                        generalize (LL[j2]'(by have := unhide HNL; omega)).ip = m2 at *
                        generalize (LL[j2]'(by have := unhide HNL; omega)).port = m3 at *
                        generalize (LL[j2]'(by have := unhide HNL; omega)).peers.length = m4 at *
                        generalize (LL[j2]'(by have := unhide HNL; omega)).st = m5 at *
                        generalize (LL[j2]'(by have := unhide HNL; omega)).idle = m6 at *
                        unfold maxLen at a8
                        clear p0 p1 p2 p3 p4 p5 p6 p7 p8 p9 p10 p11 p12 p13 p14 x0 x1 x2 x3 x4 x5 x6 x7 x8 x9 x10 x11 x12 x13 x14
                        go_upto_region 20 with fail
                        go_cut [145] from 110 to 144 (fun sv wx => sv = .bool false ∧ wx = wr.alloc (.cells #[.int .i64 m0, .int .i64 m1, .int .i64 m2, .int .i64 m3, .slice ao m4 pc, .int .i64 m5, .int .i64 m6] 52))
                        case first =>
                          as_aux_lemma =>
                            have f1 : decide (m3 < 100) = false := by simp; omega
                            have f2 : decide (99 + (1 + s) < m3) = false := by simp; omega
                            have f3 : decide ((m4 : Int) < 1) = false := by simp; omega
                            have f4 : decide (4 < (m4 : Int)) = false := by simp; omega
                            have f5 : decide (1000 ≤ m6) = false := by simp; omega
                            by_cases hm0 : m0 = 2
                            · have hst : decide (0 < m5) = true := by simpa using e6.1 hm0
                              subst hm0
                              clear e1 e2 e3 e4 e5 e6 a0 a1 a2 a3 a4 a5 a6 HM
                              go_wp2_with fail
                              go_meet
                              exact ⟨rfl, rfl⟩
                            · have hst : decide (0 < m5) = false := by simpa using fun h => hm0 (e6.2 h)
                              have hmb : (m0 == 2) = false := by simpa using hm0
                              clear e1 e2 e3 e4 e5 e6 a0 a1 a2 a3 a4 a5 a6 HM hm0
                              go_wp2_with fail
                              go_meet
                              exact ⟨rfl, rfl⟩
                        case rest =>
                          as_aux_lemma =>
                            obtain ⟨rfl, rfl⟩ := hcut
                            have HBm := hide ((unhide HB).alloc (unhide HB).size (.cells #[.int .i64 m0, .int .i64 m1, .int .i64 m2, .int .i64 m3, .slice ao m4 pc, .int .i64 m5, .int .i64 m6] 52))
                            have glm : gl < (wr.alloc (.cells #[.int .i64 m0, .int .i64 m1, .int .i64 m2, .int .i64 m3, .slice ao m4 pc, .int .i64 m5, .int .i64 m6] 52)).heap.size := by simp; omega
                            have mlt : wr.heap.size < (wr.alloc (.cells #[.int .i64 m0, .int .i64 m1, .int .i64 m2, .int .i64 m3, .slice ao m4 pc, .int .i64 m5, .int .i64 m6] 52)).heap.size := by simp
                            have b0 : (wr.alloc (.cells #[.int .i64 m0, .int .i64 m1, .int .i64 m2, .int .i64 m3, .slice ao m4 pc, .int .i64 m5, .int .i64 m6] 52)).cell? ⟨wr.heap.size, 0, none⟩ = some (.int .i64 m0) := cellOf (blkN wr _ _ rfl) _
                            have b1 : (wr.alloc (.cells #[.int .i64 m0, .int .i64 m1, .int .i64 m2, .int .i64 m3, .slice ao m4 pc, .int .i64 m5, .int .i64 m6] 52)).cell? ⟨wr.heap.size, 1, none⟩ = some (.int .i64 m1) := cellOf (blkN wr _ _ rfl) _
                            have b2 : (wr.alloc (.cells #[.int .i64 m0, .int .i64 m1, .int .i64 m2, .int .i64 m3, .slice ao m4 pc, .int .i64 m5, .int .i64 m6] 52)).cell? ⟨wr.heap.size, 2, none⟩ = some (.int .i64 m2) := cellOf (blkN wr _ _ rfl) _
                            have b3 : (wr.alloc (.cells #[.int .i64 m0, .int .i64 m1, .int .i64 m2, .int .i64 m3, .slice ao m4 pc, .int .i64 m5, .int .i64 m6] 52)).cell? ⟨wr.heap.size, 3, none⟩ = some (.int .i64 m3) := cellOf (blkN wr _ _ rfl) _
                            clear a0 a1 a2 a3 a4 a5 a6 a7 a8 e1 e2 e3 e4 e5 e6 glr
                            generalize wr.alloc (.cells #[.int .i64 m0, .int .i64 m1, .int .i64 m2, .int .i64 m3, .slice ao m4 pc, .int .i64 m5, .int .i64 m6] 52) = wm at *
                            generalize wr.heap.size = mb at *
                            go_upto_region 22 with fail
                            go_cut [180] from 146 to 179 (fun sv wx => sv = .bool false ∧ ∃ nq, wx = wm.drewN nq)
                            case first =>
                              as_aux_lemma =>
                                cases j2 with
                                | zero =>
                                  clear HM
                                  go_big_quiet (fail)
                                  go_wp2_with fail
                                  go_meet
                                  exact ⟨rfl, _, rfl⟩
                                | succ i =>
                                  obtain ⟨⟨k0, k1, k2, k3, kp, k5, k6, k7, k8⟩, bs, hrow, hmi, -⟩ := unhide HM i (by omega)
                                  obtain ⟨ao2, pc2, a0, -, -, a3, -⟩ := hrow.below (unhide HBm) gl2 (Nat.le_refl _)
                                  dsimp only at a0 a3 hmi
                                  have hi1 : ((i + 1 : Nat) : Int) - 1 = (i : Int) := by omega
                                  have hi2 : decide (0 < ((i + 1 : Nat) : Int)) = true := decide_eq_true (by omega)
                                  have hi3 : decide (((i + 1 : Nat) : Int) > 0) = true := hi2
                                  clear HM hrow
                                  rcases hmi with hlt3 | ⟨rfl, hlt3⟩
                                  · have q1 : decide (k0 > m0) = false := by simp; omega
                                    have q2 : (k0 == m0) = false := by simp; omega
                                    go_big_quiet (fail)
                                    go_wp2_with fail
                                    go_meet
                                    exact ⟨rfl, _, rfl⟩
                                  · have q3 : decide (m3 ≤ k3) = false := by simp; omega
                                    have q4 : decide (k0 > k0) = false := by simp
                                    go_big_quiet (fail)
                                    go_wp2_with fail
                                    go_meet
                                    exact ⟨rfl, _, rfl⟩
                            case rest =>
                              as_aux_lemma =>
                                obtain ⟨rfl, nq, rfl⟩ := hcut
                                go_wp2_with fail
                                go_loopg [17] j2 (fun k i wr => ∃ i3 : Nat, i3 ≤ j2 ∧ k = j2 - i3 ∧ i = .int .i64 i3 ∧ ∃ nq, wr = wm.drewN nq)
                                case atStart => exact ⟨0, Nat.zero_le _, by omega, rfl, _, rfl⟩
                                case round =>
                                  obtain ⟨i3, hi3, hk3, rfl, nr, rfl⟩ := hrel
                                  have HK3 := hide hk3
                                  clear hk3
                                  by_cases hlt3 : i3 < j2
                                  rotate_left
                                  · as_aux_lemma =>
                                      go_wp2_with fail
                                      go_roundg (nl - (j2 + 1))
                                      case measure => have := unhide HK2; omega
                                      case rel => exact ⟨j2 + 1, by omega, rfl, by go_num, (unhide HBm).trans ⟨rfl, rfl, rfl, by simp, fun _ _ => rfl⟩⟩
                                  · obtain ⟨⟨k0, k1, k2, k3, kp, k5, k6, k7, k8⟩, bs, hrow, -, hmi⟩ := unhide HM i3 hlt3
                                    obtain ⟨ao2, pc2, a0, a1, a2, -⟩ := hrow.below (unhide HBm) gl2 (Nat.le_refl _)
                                    dsimp only at a0 a1 a2 hmi
                                    clear hrow
                                    go_upto_region 27 with fail
                                    go_cut [203] from 186 to 202 (fun sv wx => sv = .bool false ∧ ∃ nq, wx = wm.drewN nq)
                                    case first =>
                                      as_aux_lemma =>
                                        by_cases hk0 : k0 = m0
                                        · subst hk0
                                          have q4 : (k1 == m1 && k2 == m2) = false := by
                                            rw [Bool.and_eq_false_iff]
                                            by_cases e : k1 = m1
                                            · exact .inr (by simpa using fun e2 : k2 = m2 => hmi ⟨rfl, e, e2⟩)
                                            · exact .inl (by simpa using e)
                                          clear hmi HM
                                          go_big_quiet (fail)
                                          go_wp2_with fail
                                          go_meet
                                          first | exact ⟨rfl, _, rfl⟩ | exact ⟨rfl, _, World.drewN_drewN _ _ _⟩
                                        · have q4 : (k0 == m0) = false := by simpa using hk0
                                          clear hmi HM
                                          go_big_quiet (fail)
                                          go_wp2_with fail
                                          go_meet
                                          first | exact ⟨rfl, _, rfl⟩ | exact ⟨rfl, _, World.drewN_drewN _ _ _⟩
                                    case rest =>
                                      as_aux_lemma =>
                                        obtain ⟨rfl, nt, rfl⟩ := hcut
                                        go_wp2_with fail
                                        go_roundg (j2 - (i3 + 1))
                                        case measure => have := unhide HK3; omega
                                        case rel => exact ⟨i3 + 1, by omega, rfl, by go_num, _, rfl⟩
                case rest =>
                  as_aux_lemma =>
                    have HB := hide hcut
                    have HBU : Hid (BxU (1 + s) w wc b) := by
                      obtain ⟨F', B', h1, h2⟩ := unhide HB5
                      exact ⟨F', B', h1.new hcut, h2⟩
                    clear hcut d1 d2 d3 HT
                    by_cases hnn : nl = nw
                    · subst hnn
                      clear HA HRW HRL HNW HNL HB HB5 p0 p1 p2 p3 p4 p5 p6 p7 p8 p9 p10 p11 p12 p13 p14 x0 x1 x2 x3 x4 x5 x6 x7 x8 x9 x10 x11 x12 x13 x14
                      as_aux_lemma =>
                        go_wp2_with fail
                        go_roundg (n - (j + 1))
                        case measure => have := unhide HK; omega
                        case rel => exact ⟨j + 1, by omega, rfl, by go_num, unhide HBU⟩
                    · have hgt : decide ((nw : Int) < (nl : Int)) = true := by simp; omega
                      have hgt2 : nw < nl := by omega
                      rcases unhide HA with hA2 | ⟨-, rfl, rfl, hM2, hQ2⟩
                      · omega
                      obtain ⟨pt, hpt⟩ : ∃ pt, portL proto LW 100 = pt := ⟨_, rfl⟩
                      rw [hpt] at hM2 hQ2
                      have HPT := hide hpt
                      have HM2 := hide (fndL_true hM2)
                      have HQ2 := hide hQ2
                      have hpb : 100 ≤ pt ∧ pt ≤ 292 := by
                        have := portL_bd proto LW 100
                        have := unhide HNW
                        omega
                      clear hM2 hQ2 hpt HA
                      have kk : ∀ {k o v}, k < w5.heap.size → w5.cell? ⟨k, o, none⟩ = some v → wc.cell? ⟨k, o, none⟩ = some v := fun hk h => ((unhide HB).cell (p := ⟨_, _, none⟩) hk).trans h
                      have HP5 : Hid (∀ W, Below w5.heap.size w5 W → (W.cell? ⟨w2.heap.size, 1, none⟩ = some (.int .i64 proto) ∧ W.cell? ⟨w2.heap.size, 2, none⟩ = some (.bool true) ∧ W.cell? ⟨w2.heap.size, 3, none⟩ = some (.int .i64 sa) ∧ W.cell? ⟨w2.heap.size, 4, none⟩ = some (.int .i64 sp) ∧ W.cell? ⟨w2.heap.size, 10, none⟩ = some (.bool false)) ∧ W.cell? ⟨w4.heap.size, 2, none⟩ = some (.bool qout) ∧ W.cell? ⟨w4.heap.size, 4, none⟩ = some (.int .i64 qp)) := fun W hW => by
                        have k1 : ∀ {o v}, w5.cell? ⟨w2.heap.size, o, none⟩ = some v → W.cell? ⟨w2.heap.size, o, none⟩ = some v := fun h => (hW.cell (p := ⟨w2.heap.size, _, none⟩) l3).trans h
                        have k2 : ∀ {o v}, w5.cell? ⟨w4.heap.size, o, none⟩ = some v → W.cell? ⟨w4.heap.size, o, none⟩ = some v := fun h => (hW.cell (p := ⟨w4.heap.size, _, none⟩) l4).trans h
                        exact ⟨⟨k1 p1, k1 p2, k1 p3, k1 p4, k1 p10⟩, k2 x2, k2 x4⟩
                      clear kk p0 p1 p2 p3 p4 p5 p6 p7 p8 p9 p10 p11 p12 p13 p14 x0 x1 x2 x3 x4 x5 x6 x7 x8 x9 x10 x11 x12 x13 x14
                      go_upto_block 6 with fail
                      go_cut [18, 19] from 209 to 233 (fun p _ wx => p = .int .i64 pt ∧ Below w5.heap.size w5 wx)
                      case first =>
                        as_aux_lemma =>
                          go_wp2_with fail
                          go_loopg [18, 19] nw (fun k p i wr => ∃ j4 : Nat, j4 ≤ nw ∧ k = nw - j4 ∧ p = .int .i64 (portL proto (LW.take j4) 100) ∧ i = .int .i64 j4 ∧ Below w5.heap.size w5 wr)
                          case atStart => exact ⟨0, Nat.zero_le _, by omega, rfl, rfl, unhide HB⟩
                          case round =>
                            obtain ⟨j4, hj4, hk4, rfl, rfl, hb4⟩ := hrel
                            have HK4 := hide hk4
                            have HB4 := hide hb4
                            clear hk4 hb4
                            obtain ⟨pq, hpq⟩ : ∃ pq, portL proto (LW.take j4) 100 = pq := ⟨_, rfl⟩
                            have hpqb : 100 ≤ pq ∧ pq ≤ 292 := by
                              have := portL_bd proto (LW.take j4) 100
                              rw [List.length_take] at this
                              omega
                            have HPQ := hide hpq
                            rw [hpq]
                            clear hpq
                            by_cases hlt4 : j4 < nw
                            rotate_left
                            · have he : pq = pt := by
                                have e1 := unhide HPQ
                                have e2 := unhide HPT
                                rw [List.take_of_length_le (by have := unhide HNW; omega)] at e1
                                exact e1.symm.trans e2
                              subst he
                              as_aux_lemma =>
                                go_wp2_with fail
                                go_meet
                                exact ⟨rfl, unhide HB4⟩
                            · obtain ⟨gw, rfl, gw1, gw2, hrows⟩ := unhide HRW (by have := unhide HNW; omega)
                              have hrow := (hrows j4 (by have := unhide HNW; omega)).below (unhide HB4) gw2 (Nat.le_refl _)
                              have hsn := portL_snoc proto LW 100 j4 (by have := unhide HNW; omega)
                              rw [unhide HPQ] at hsn
                              have HSN := hide hsn
                              clear hsn hrows
                              generalize LW[j4]'(by have := unhide HNW; omega) = mm at hrow HSN
                              obtain ⟨k0, k1, k2, k3, kp, k5, k6, k7, k8⟩ := mm
                              obtain ⟨ao2, pc2, a0, -, -, a3, -⟩ := hrow
                              dsimp only at a0 a3 HSN
                              obtain ⟨⟨y1, -, -, -, -⟩, -, -⟩ := unhide HP5 _ (unhide HB4)
                              by_cases hk0 : k0 = proto
                              · by_cases hk3 : k3 = pq
                                · have HS1 : Hid (portL proto (LW.take (j4 + 1)) 100 = pq + 1) := by
                                    have := unhide HSN
                                    rw [if_pos ⟨hk0, hk3⟩] at this
                                    exact this
                                  subst hk0
                                  subst hk3
                                  clear HSN
                                  as_aux_lemma =>
                                    go_upto_region 34 with fail
                                    go_quiet (fail)
                                    go_wp2_with fail
                                    go_roundg (nw - (j4 + 1))
                                    case measure => have := unhide HK4; omega
                                    case rel => exact ⟨j4 + 1, by omega, rfl, by rw [unhide HS1], by go_num, below_drewN (unhide HB4) _⟩
                                · have HS1 : Hid (portL proto (LW.take (j4 + 1)) 100 = pq) := by
                                    have := unhide HSN
                                    rw [if_neg (fun h => hk3 h.2)] at this
                                    exact this
                                  have q1 : (k3 == pq) = false := by simpa using hk3
                                  subst hk0
                                  clear HSN hk3
                                  as_aux_lemma =>
                                    go_upto_region 34 with fail
                                    go_quiet (fail)
                                    go_wp2_with fail
                                    go_roundg (nw - (j4 + 1))
                                    case measure => have := unhide HK4; omega
                                    case rel => exact ⟨j4 + 1, by omega, rfl, by rw [unhide HS1], by go_num, below_drewN (unhide HB4) _⟩
                              · have HS1 : Hid (portL proto (LW.take (j4 + 1)) 100 = pq) := by
                                  have := unhide HSN
                                  rw [if_neg (fun h => hk0 h.1)] at this
                                  exact this
                                have q1 : (k0 == proto) = false := by simpa using hk0
                                clear HSN hk0
                                as_aux_lemma =>
                                  go_upto_region 34 with fail
                                  go_quiet (fail)
                                  go_wp2_with fail
                                  go_roundg (nw - (j4 + 1))
                                  case measure => have := unhide HK4; omega
                                  case rel => exact ⟨j4 + 1, by omega, rfl, by rw [unhide HS1], by go_num, below_drewN (unhide HB4) _⟩
                      case rest =>
                        as_aux_lemma =>
                          obtain ⟨rfl, hbc⟩ := hcut
                          have HBc := hide hbc
                          clear hbc HB HBU HRW HPT HNW
                          go_upto_block 8 with fail
                          go_cut [20, 21] from 234 to 269 (fun f _ wx => f = .bool true ∧ Below w5.heap.size w5 wx)
                          case first =>
                            as_aux_lemma =>
                              go_wp2_with fail
                              go_loopg [20, 21] nl (fun k f i wr => ∃ j5 : Nat, j5 ≤ nl ∧ k = nl - j5 ∧ f = .bool (fndL proto pt sa sp (LL.take j5)) ∧ i = .int .i64 j5 ∧ Below w5.heap.size w5 wr)
                              case atStart => exact ⟨0, Nat.zero_le _, by omega, rfl, rfl, unhide HBc⟩
                              case round =>
                                obtain ⟨j5, hj5, hk5, rfl, rfl, hb5⟩ := hrel
                                have HK5 := hide hk5
                                have HB6 := hide hb5
                                clear hk5 hb5
                                obtain ⟨ff, hff⟩ : ∃ ff, fndL proto pt sa sp (LL.take j5) = ff := ⟨_, rfl⟩
                                have HFF := hide hff
                                rw [hff]
                                clear hff
                                by_cases hlt5 : j5 < nl
                                rotate_left
                                · have he : ff = true := by
                                    have e1 := unhide HFF
                                    rw [List.take_of_length_le (by have := unhide HNL; omega)] at e1
                                    exact e1.symm.trans (unhide HM2)
                                  subst he
                                  as_aux_lemma =>
                                    go_wp2_with fail
                                    go_meet
                                    exact ⟨rfl, unhide HB6⟩
                                · obtain ⟨gl, rfl, gl1, gl2, hrows⟩ := unhide HRL (by have := unhide HNL; omega)
                                  have hrow := (hrows j5 (by have := unhide HNL; omega)).below (unhide HB6) gl2 (Nat.le_refl _)
                                  have hsn := fndL_snoc proto pt sa sp LL j5 (by have := unhide HNL; omega)
                                  rw [unhide HFF] at hsn
                                  have HSN := hide hsn
                                  clear hsn hrows
                                  generalize LL[j5]'(by have := unhide HNL; omega) = mm at hrow HSN
                                  obtain ⟨k0, k1, k2, k3, kp, k5, k6, k7, k8⟩ := mm
                                  obtain ⟨ao2, pc2, a0, a1, a2, a3, -⟩ := hrow
                                  dsimp only at a0 a1 a2 a3 HSN
                                  obtain ⟨⟨y1, -, y3, y4, -⟩, -, -⟩ := unhide HP5 _ (unhide HB6)
                                  cases ff
                                  rotate_left
                                  · have HS1 : Hid (fndL proto pt sa sp (LL.take (j5 + 1)) = true) := (unhide HSN).trans (by simp)
                                    clear HSN HFF
                                    as_aux_lemma =>
                                      go_upto_region 40 with fail
                                      go_quiet (fail)
                                      go_wp2_with fail
                                      go_roundg (nl - (j5 + 1))
                                      case measure => have := unhide HK5; omega
                                      case rel => exact ⟨j5 + 1, by omega, rfl, by rw [unhide HS1], by go_num, below_drewN (unhide HB6) _⟩
                                  · by_cases hk0 : k0 = proto
                                    rotate_left
                                    · have q1 : (k0 == proto) = false := by simpa using hk0
                                      have HS1 : Hid (fndL proto pt sa sp (LL.take (j5 + 1)) = false) := (unhide HSN).trans (by simp [q1])
                                      clear HSN HFF hk0
                                      as_aux_lemma =>
                                        go_upto_region 40 with fail
                                        go_quiet (fail)
                                        go_wp2_with fail
                                        go_roundg (nl - (j5 + 1))
                                        case measure => have := unhide HK5; omega
                                        case rel => exact ⟨j5 + 1, by omega, rfl, by rw [unhide HS1], by go_num, below_drewN (unhide HB6) _⟩
                                    · by_cases hk3 : k3 = pt
                                      rotate_left
                                      · have q1 : (k3 == pt) = false := by simpa using hk3
                                        have HS1 : Hid (fndL proto pt sa sp (LL.take (j5 + 1)) = false) := (unhide HSN).trans (by simp [q1])
                                        subst hk0
                                        clear HSN HFF hk3
                                        as_aux_lemma =>
                                          go_upto_region 40 with fail
                                          go_quiet (fail)
                                          go_wp2_with fail
                                          go_roundg (nl - (j5 + 1))
                                          case measure => have := unhide HK5; omega
                                          case rel => exact ⟨j5 + 1, by omega, rfl, by rw [unhide HS1], by go_num, below_drewN (unhide HB6) _⟩
                                      · obtain ⟨ee, hee⟩ : ∃ ee, (k1 == sa && k2 == sp) = ee := ⟨_, rfl⟩
                                        have HS1 : Hid (fndL proto pt sa sp (LL.take (j5 + 1)) = ee) := (unhide HSN).trans (by simp [hk0, hk3, hee])
                                        subst hk0
                                        subst hk3
                                        clear HSN HFF
                                        cases ee
                                        · as_aux_lemma =>
                                            go_upto_region 40 with fail
                                            go_quiet (fail)
                                            go_wp2_with fail
                                            go_roundg (nl - (j5 + 1))
                                            case measure => have := unhide HK5; omega
                                            case rel => exact ⟨j5 + 1, by omega, rfl, by rw [unhide HS1], by go_num, below_drewN (unhide HB6) _⟩
                                        · as_aux_lemma =>
                                            go_upto_region 40 with fail
                                            go_quiet (fail)
                                            go_wp2_with fail
                                            go_roundg (nl - (j5 + 1))
                                            case measure => have := unhide HK5; omega
                                            case rel => exact ⟨j5 + 1, by omega, rfl, by rw [unhide HS1], by go_num, below_drewN (unhide HB6) _⟩
                          case rest =>
                            as_aux_lemma =>
                              obtain ⟨rfl, hbd⟩ := hcut
                              have HBV : Hid (BxU (1 + s) w wc b) := by
                                obtain ⟨F', B', h1, h2⟩ := unhide HB5
                                exact ⟨F', B', h1.new hbd, h2⟩
                              obtain ⟨⟨-, y2, -, -, y10⟩, z2, z4⟩ := unhide HP5 _ hbd
                              clear hbd HP5 HBc HRL HNL HM2
                              by_cases hv : v = 0
                              rotate_left
                              · as_aux_lemma =>
                                  go_wp2_with fail
                                  go_roundg (n - (j + 1))
                                  case measure => have := unhide HK; omega
                                  case rel => exact ⟨j + 1, by omega, rfl, by go_num, unhide HBV⟩
                              · subst hv
                                cases qout
                                · as_aux_lemma =>
                                    go_wp2_with fail
                                    go_roundg (n - (j + 1))
                                    case measure => have := unhide HK; omega
                                    case rel => exact ⟨j + 1, by omega, rfl, by go_num, unhide HBV⟩
                                · have hq3 := unhide HQ2 rfl rfl
                                  subst hq3
                                  as_aux_lemma =>
                                    go_wp2_with fail
                                    go_roundg (n - (j + 1))
                                    case measure => have := unhide HK; omega
                                    case rel => exact ⟨j + 1, by omega, rfl, by go_num, unhide HBV⟩
    · have HF := hide hSt.below
      clear hSt hI
      go_wp2_with fail
      go_ret
      exact ⟨rfl, unhide HF⟩

end Go.Proofs.Ytgpplekabohneaa
