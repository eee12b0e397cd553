/- 'packet', walked. -/
import Derived.Test.YtgpplekabohneaaZa
import Derived.Deep.RegionHeld3
import Derived.Deep.CutRange
namespace Go.Proofs.Ytgpplekabohneaa
open Go.RowKit

set_option maxHeartbeats 4000000 in
theorem packet_any (k t a b c : Int) (w : World) (hk : Hid (R64 k)) (ht : Hid (R64 t)) (ha : Hid (R64 a)) (hb : Hid (R64 b)) (hc : Hid (R64 c)) :
    Calls Try.prog 17 #[.agg #[.int .i64 k, .int .i64 t, .int .i64 a, .int .i64 b, .int .i64 c]] w fun e w' => ∃ p, PktOk p ∧ e = .returned (.agg (pkC p)) ∧ Below w.heap.size w w' := by
  go_enter Try.func17, Try.ntmps17
  go_upto_region 1 with fail
  go_cut [3] from 7 to 20 (fun s3 wx => ∃ (X Y : Int) (o : Bool) (pb : Nat), ((1 ≤ X ∧ X ≤ 3) ∧ (1 ≤ Y ∧ Y ≤ 3)) ∧ s3 = .pointer (some ⟨pb, 0, none⟩) ∧ PW w wx k t a b c pb (pkC (pk3 X Y o)))
  case first =>
    go_region_held3 (fun w' => w'.cell? ⟨w.heap.size, 0, none⟩ = some (.int .i64 k) ∧ w'.cell? ⟨w.heap.size, 1, none⟩ = some (.int .i64 t)) (go_keep)
      (first
        | (go_at_call_of 14 (Value.int .i64 t); refine (pick_in t 3 _ ht (by decide) (by decide)).mono ?_; rintro e w' ⟨x, hx, rfl, rfl⟩)
        | (go_at_call_of 14 (Value.int .i64 k); refine (pick_in k 3 _ hk (by decide) (by decide)).mono ?_; rintro e w' ⟨y, hy, rfl, rfl⟩)
        | (go_at_call 14; refine (pick_in _ 2 _ (R64_wrap _) (by decide) (by decide)).mono ?_; rintro e w' ⟨z, hz, rfl, rfl⟩))
    all_goals
      go_wp2_with fail
      go_meet
      refine ⟨IntKind.i64.wrap (1 + x), IntKind.i64.wrap (1 + y), (z == 0), _, ?_, rfl, ⟨(((Below.refl _ _).alloc (Nat.le_refl _) _).alloc (by simp) _).alloc (by simp; omega) _ |>.drew, ?_, ?_, newA _ _ _ (by simp), ?_⟩⟩
      · rw [IntKind.wrap_i64, IntKind.wrap_i64]; omega
      · exact keepA ((Below.heap_alloc _ _ _ (by simp)).trans (blkN _ _ _ rfl)) _
      · exact keepA (blkN _ _ _ (by simp)) _
      · simp
  case rest =>
    obtain ⟨X, Y, o, pb, hXY, rfl, hW⟩ := hcut
    have HXY := hide hXY
    have HW := hide hW
    obtain ⟨c0, c1, c2, c3, c4, cl⟩ := hW.cells
    have n2 := World.new_ne _ _ c2
    clear hXY hW c0 c1 c3 c4
    go_upto_region 2 with fail
    go_cut [4] from 21 to 29 (fun s4 wx => ∃ (ia ip : Int) (ib : Nat), (0 ≤ ia ∧ ia ≤ 3000 ∧ 0 ≤ ip ∧ ip ≤ 104) ∧ s4 = .pointer (some ⟨ib, 0, none⟩) ∧ PW w wx k t a b c pb (pkC (pk3 X Y o)) ∧ wx.heap[ib]? = some (enO ia ip) ∧ pb < ib)
    case first =>
      go_region_held3 (fun w' => w'.cell? ⟨w.heap.size, 2, none⟩ = some (.int .i64 a)) (go_keep)
        (first
          | (go_at_call_of 14 (Value.int .i64 a); refine (pick_in a 4 _ ha (by decide) (by decide)).mono ?_; rintro e w' ⟨x, hx, rfl, rfl⟩)
          | (go_at_call 14; refine (pick_in _ 3 _ (R64_wrap _) (by decide) (by decide)).mono ?_; rintro e w' ⟨z, hz, rfl, rfl⟩))
      all_goals (go_wp2_with fail; go_meet; exact ⟨_, _, _, by rw [IntKind.wrap_i64]; omega, rfl, (unhide HW).allocD _, newA _ _ _ rfl, lt_some (unhide HW).pk⟩)
    case rest =>
      obtain ⟨ia, ip, ib, hi, rfl, hW, hI, hlt⟩ := hcut
      have HI := hide (And.intro hi (And.intro hI hlt))
      have HW := hide hW
      clear c2 n2 cl
      obtain ⟨c0, c1, c2, c3, c4, cl⟩ := hW.cells
      have n3 := World.new_ne _ _ c3
      clear hW c0 c1 c2 c4 hi hI hlt
      go_upto_region 3 with fail
      go_cut [5] from 30 to 38 (fun s5 wx => ∃ (fa fp : Int) (fb : Nat), s5 = .pointer (some ⟨fb, 0, none⟩) ∧ PF w wx k t a b c pb ib fb (pkC (pk3 X Y o)) ia ip fa fp)
      case first =>
        go_region_held3 (fun w' => w'.cell? ⟨w.heap.size, 3, none⟩ = some (.int .i64 b)) (go_keep)
          (first
            | (go_at_call_of 14 (Value.int .i64 b); refine (pick_in b 7 _ hb (by decide) (by decide)).mono ?_; rintro e w' ⟨x, hx, rfl, rfl⟩)
            | (go_at_call 14; refine (pick_in _ 3 _ (R64_wrap _) (by decide) (by decide)).mono ?_; rintro e w' ⟨z, hz, rfl, rfl⟩))
        all_goals (go_wp2_with fail; go_meet; exact ⟨_, _, _, rfl, ⟨(unhide HW).allocD _, (unhide HI).1, by rw [IntKind.wrap_i64]; omega, keepA (unhide HI).2.1 _, newA _ _ _ rfl, (unhide HI).2.2, lt_some (unhide HI).2.1⟩⟩)
      case rest =>
        obtain ⟨fa, fp, fb, rfl, hP⟩ := hcut
        have HP := hide hP
        clear HI HW c3 n3 cl
        obtain ⟨c0, c1, c2, c3, c4, cl⟩ := hP.pw.cells
        obtain ⟨f0, f1⟩ := en_cells hP.hf
        have p0 := (pcells hP.pw.pk).1
        have zf := froz hP.hf
        have ne1 : w.heap.size ≠ fb := by have := hP.pw.lt; have := hP.l1; have := hP.l2; omega
        have ne2 : fb ≠ w.heap.size := ne1.symm
        have ne3 : pb ≠ fb := by have := hP.l1; have := hP.l2; omega
        have ne4 : fb ≠ pb := ne3.symm
        clear hP c0 c1 c2 c4
        go_upto_region 4 with fail
        go_cut [43] from 39 to 42 (fun s wx => ∃ z : Bool, s = .bool z ∧ wx = wc)
        case first =>
          go_wp2_with (go_at_call 14; refine (pick_in _ 6 _ (R64_wrap64 _) (by decide) (by decide)).mono ?_; rintro e w' ⟨z, hz, rfl, rfl⟩)
          go_meet
          exact ⟨_, rfl, rfl⟩
        case rest =>
          obtain ⟨z, rfl, rfl⟩ := hcut
          go_upto_if 43 with fail
          go_cut [] from 44 to 52 (fun wx => ∃ fa fp : Int, PF w wx k t a b c pb ib fb (pkC (pk3 X Y o)) ia ip fa fp)
          case first =>
            cases z
            · go_wp2_with fail
              go_meet
              exact ⟨_, _, unhide HP⟩
            · go_wp2_with (go_at_call 14; refine (pick_in _ 4 _ hb (by decide) (by decide)).mono ?_; rintro e w' ⟨z, hz, rfl, rfl⟩)
              go_meet
              refine ⟨_, _, (unhide HP).far _ _ ?_⟩
              have := unhide HXY
              rw [IntWalk.wrap64_in (1000 * (pk3 X Y o).tag) (by simp only [pk3]; omega)]
              simp only [pk3]
              omega
          case rest =>
            obtain ⟨fa, fp, hP⟩ := hcut
            have HP := hide hP
            clear HP c3 cl f0 f1 p0 zf
            obtain ⟨c0, c1, c2, c3, c4, cl⟩ := hP.pw.cells
            have p0 := (pcells hP.pw.pk).1
            have pl := lt_some hP.pw.pk
            have HP := hide hP
            have n2 := World.new_ne _ _ c2
            have np := World.new_ne _ _ p0
            clear hP c0 c1 c3 c4
            dsimp only [pk3] at p0
            go_upto_region 7 with fail
            go_cut [6] from 53 to 60 (fun s6 wx => ∃ (oa op : Int) (ob : Nat), s6 = .pointer (some ⟨ob, 0, none⟩) ∧ PG w wx k t a b c pb ib fb ob (pkC (pk3 X Y o)) ia ip fa fp oa op)
            case first =>
              go_region_held3 (fun w' => w'.cell? ⟨w.heap.size, 2, none⟩ = some (.int .i64 a) ∧ w'.cell? ⟨pb, 0, none⟩ = some (.int .i64 X)) (go_keep)
                (first | (go_at_call 14; refine (pick_in a 5 _ ha (by decide) (by decide)).mono ?_; rintro e w' ⟨x, hx, rfl, rfl⟩))
              all_goals (go_wp2_with fail; go_meet; exact ⟨_, _, _, rfl, ⟨(unhide HP).allocD _, by have := unhide HXY; rw [IntWalk.i64_in (1000 * X) (by omega), IntWalk.i64_in (100 + x) (by omega)]; omega, newA _ _ _ rfl, lt_some (unhide HP).hf⟩⟩)
            case rest =>
              obtain ⟨oa, op, ob, rfl, hG⟩ := hcut
              clear HP p0 pl n2 np c2 cl ne1 ne2 ne3 ne4
              have HG := hide hG
              obtain ⟨f0, f1⟩ := en_cells hG.pf.hf
              obtain ⟨i0, i1⟩ := en_cells hG.pf.hi
              obtain ⟨o0, o1⟩ := en_cells hG.ho
              have zp := froz hG.pf.pw.pk
              have ne1 : ib ≠ pb := by have := hG.pf.l1; omega
              have ne2 : fb ≠ pb := by have := hG.pf.l1; have := hG.pf.l2; omega
              have ne3 : ob ≠ pb := by have := hG.pf.l1; have := hG.pf.l2; have := hG.l3; omega
              obtain ⟨p0, p1, p2, p3, p4, p5, p6, p7, p8, p9, p10, p11, p12, p13, p14⟩ := pcells hG.pf.pw.pk
              dsimp only [pk3] at p0 p1 p2 p3 p4 p5 p6 p7 p8 p9 p10 p11 p12 p13 p14
              clear hG
              go_upto_if 66 with fail
              go_cut [] from 67 to 70 (fun wx => ∃ sa sp da dp : Int, ((0 ≤ sa ∧ sa ≤ 3000 ∧ 0 ≤ sp ∧ sp ≤ 104) ∧ (0 ≤ da ∧ da ≤ 3000 ∧ 0 ≤ dp ∧ dp ≤ 104)) ∧ PG w wx k t a b c pb ib fb ob (pkC ⟨X, Y, o, sa, sp, da, dp, false, false, false, false, 0, 0, 0, 0⟩) ia ip fa fp oa op)
              case first =>
                cases o
                · go_wp2_with fail
                  go_meet
                  exact ⟨fa, fp, oa, op, ⟨(unhide HG).pf.bf, (unhide HG).bo⟩, (unhide HG).ends fa fp oa op⟩
                · go_wp2_with fail
                  go_meet
                  exact ⟨ia, ip, fa, fp, ⟨(unhide HG).pf.bi, (unhide HG).pf.bf⟩, ((unhide HG).ends fa fp oa op).ends ia ip fa fp⟩
              case rest =>
                obtain ⟨sa, sp, da, dp, hS, hG⟩ := hcut
                have HS := hide hS
                clear HG f0 f1 i0 i1 o0 o1 zp p0 p1 p2 p3 p4 p5 p6 p7 p8 p9 p10 p11 p12 p13 p14 hS
                have HG := hide hG
                obtain ⟨c0, c1, c2, c3, c4, cl⟩ := hG.pf.pw.cells
                clear c0 c1 c2 c3 hG
                go_upto_region 13 with fail
                go_cut [74] from 71 to 73 (fun s wx => ∃ z : Bool, s = .bool z ∧ wx = wc)
                case first =>
                  go_wp2_with (go_at_call 14; refine (pick_in _ 8 _ hc (by decide) (by decide)).mono ?_; rintro e w' ⟨z, hz, rfl, rfl⟩)
                  go_meet
                  exact ⟨_, rfl, rfl⟩
                case rest =>
                  obtain ⟨z, rfl, rfl⟩ := hcut
                  obtain ⟨f0, f1⟩ := en_cells (unhide HG).pf.hf
                  obtain ⟨i0, i1⟩ := en_cells (unhide HG).pf.hi
                  obtain ⟨o0, o1⟩ := en_cells (unhide HG).ho
                  have zp := froz (unhide HG).pf.pw.pk
                  obtain ⟨p0, p1, p2, p3, p4, p5, p6, p7, p8, p9, p10, p11, p12, p13, p14⟩ := pcells (unhide HG).pf.pw.pk
                  dsimp only at p0 p1 p2 p3 p4 p5 p6 p7 p8 p9 p10 p11 p12 p13 p14
                  go_upto_if 74 with fail
                  go_cut [] from 75 to 91 (fun wx => ∃ (er : Bool) (qa qp ra rp : Int), (er = true ∧ (0 ≤ qa ∧ qa ≤ 3000 ∧ 0 ≤ qp ∧ qp ≤ 104) ∧ (0 ≤ ra ∧ ra ≤ 3000 ∧ 0 ≤ rp ∧ rp ≤ 104) ∨ er = false ∧ qa = 0 ∧ qp = 0 ∧ ra = 0 ∧ rp = 0) ∧ PG w wx k t a b c pb ib fb ob (pkC ⟨X, Y, o, sa, sp, da, dp, false, false, false, er, qa, qp, ra, rp⟩) ia ip fa fp oa op)
                  case first =>
                    cases z
                    · go_wp2_with fail
                      go_meet
                      exact ⟨_, _, _, _, _, .inr ⟨rfl, rfl, rfl, rfl, rfl⟩, unhide HG⟩
                    · cases o
                      · go_wp2_with fail
                        go_meet
                        exact ⟨true, oa, op, fa, fp, .inl ⟨rfl, (unhide HG).bo, (unhide HG).pf.bf⟩, ((unhide HG).erro.quot da dp sa sp).quot oa op fa fp⟩
                      · go_wp2_with fail
                        go_meet
                        exact ⟨true, fa, fp, ia, ip, .inl ⟨rfl, (unhide HG).pf.bf, (unhide HG).pf.bi⟩, ((unhide HG).erro.quot da dp sa sp).quot fa fp ia ip⟩
                  case rest =>
                    obtain ⟨er, qa, qp, ra, rp, hQ, hG⟩ := hcut
                    have HQ := hide hQ
                    clear HG f0 f1 i0 i1 o0 o1 zp p0 p1 p2 p3 p4 p5 p6 p7 p8 p9 p10 p11 p12 p13 p14 hQ c4 cl
                    have HG := hide hG
                    have ne5 : w.heap.size ≠ pb := by have := hG.pf.pw.lt; omega
                    have ne6 : pb ≠ w.heap.size := ne5.symm
                    have ne7 : w.heap.size + 1 ≠ pb := by have := hG.pf.pw.lt; omega
                    have ne8 : pb ≠ w.heap.size + 1 := ne7.symm
                    obtain ⟨c0, c1, c2, c3, c4, cl⟩ := hG.pf.pw.cells
                    have zp := froz hG.pf.pw.pk
                    have zr := froz hG.pf.pw.rs
                    obtain ⟨p0, p1, p2, p3, p4, p5, p6, p7, p8, p9, p10, p11, p12, p13, p14⟩ := pcells hG.pf.pw.pk
                    obtain ⟨r0, r1, r2, r3, r4, r5, r6, r7, r8, r9, r10, r11, r12, r13, r14⟩ := pcells hG.pf.pw.rs
                    dsimp only at p0 p1 p2 p3 p4 p5 p6 p7 p8 p9 p10 p11 p12 p13 p14
                    dsimp only [pk0] at r0 r1 r2 r3 r4 r5 r6 r7 r8 r9 r10 r11 r12 r13 r14
                    clear c0 c1 c2 c3 hG
                    go_upto_region 19 with fail
                    go_cut [99] from 92 to 98 (fun s wx => ∃ z : Bool, z = (Y == 2 && !er) ∧ s = .bool z ∧ wx = wc)
                    case first =>
                      cases hy : (Y == 2)
                      · go_wp2_with fail
                        go_meet
                        exact ⟨_, by simp [hy], rfl, rfl⟩
                      · cases er
                        · go_wp2_with fail
                          go_meet
                          exact ⟨_, by simp [hy], rfl, rfl⟩
                        · go_wp2_with fail
                          go_meet
                          exact ⟨_, by simp [hy], rfl, rfl⟩
                    case rest =>
                      obtain ⟨z, hz, rfl, rfl⟩ := hcut
                      have HZ := hide hz
                      clear hz
                      have K8 := fun W => hide (pick_in (wrap64 (c.tdiv 8)) 2 W (R64_wrap64 _) (by decide) (by decide))
                      have K16 := fun W => hide (pick_in (wrap64 (c.tdiv 16)) 4 W (R64_wrap64 _) (by decide) (by decide))
                      have K64 := fun W => hide (pick_in (wrap64 (c.tdiv 64)) 8 W (R64_wrap64 _) (by decide) (by decide))
                      go_upto_if 99 with fail
                      go_cut [] from 100 to 117 (fun wx => ∃ sy fi rs : Bool, ((Y = 2 ∧ er = false) ∨ (sy = false ∧ fi = false ∧ rs = false)) ∧ PG w wx k t a b c pb ib fb ob (pkC ⟨X, Y, o, sa, sp, da, dp, sy, fi, rs, er, qa, qp, ra, rp⟩) ia ip fa fp oa op)
                      case first =>
                        cases z
                        · go_wp2_with fail
                          go_meet
                          exact ⟨false, false, false, .inr ⟨rfl, rfl, rfl⟩, unhide HG⟩
                        · go_wp2_with fail
                          refine (unhide (K8 _)).mono ?_
                          rintro e w' ⟨z1, hz1, rfl, hw⟩
                          symm at hw
                          subst hw
                          go_wp2_with fail
                          refine (unhide (K16 _)).mono ?_
                          rintro e w' ⟨z2, hz2, rfl, hw⟩
                          symm at hw
                          subst hw
                          go_wp2_with fail
                          refine (unhide (K64 _)).mono ?_
                          rintro e w' ⟨z3, hz3, rfl, hw⟩
                          symm at hw
                          subst hw
                          go_wp2_with fail
                          go_meet
                          refine ⟨(z1 == 0), (z2 == 0), (z3 == 0), .inl ?_, (unhide HG).marks _ _ _⟩
                          have hy := unhide HZ
                          simp at hy
                          exact hy
                      case rest =>
                        obtain ⟨sy, fi, rs, hM, hG⟩ := hcut
                        have HG := hide hG
                        have HM := hide hM
                        clear HG zp zr p0 p1 p2 p3 p4 p5 p6 p7 p8 p9 p10 p11 p12 p13 p14 r0 r1 r2 r3 r4 r5 r6 r7 r8 r9 r10 r11 r12 r13 r14 hM c4 cl
                        have zr := froz hG.pf.pw.rs
                        obtain ⟨p0, p1, p2, p3, p4, p5, p6, p7, p8, p9, p10, p11, p12, p13, p14⟩ := pcells hG.pf.pw.pk
                        obtain ⟨r0, r1, r2, r3, r4, r5, r6, r7, r8, r9, r10, r11, r12, r13, r14⟩ := pcells hG.pf.pw.rs
                        dsimp only at p0 p1 p2 p3 p4 p5 p6 p7 p8 p9 p10 p11 p12 p13 p14
                        dsimp only [pk0] at r0 r1 r2 r3 r4 r5 r6 r7 r8 r9 r10 r11 r12 r13 r14
                        have HG := hide hG.pf.pw.below
                        have hok : PktOk ⟨X, Y, o, sa, sp, da, dp, sy, fi, rs, er, qa, qp, ra, rp⟩ := by
                          have h1 := unhide HXY
                          have h2 := unhide HS
                          refine pktOk _ _ _ _ _ _ _ _ _ _ _ _ _ _ _ h1.1 h1.2 ⟨h2.1.1, h2.1.2.1⟩ h2.1.2.2 ⟨h2.2.1, h2.2.2.1⟩ h2.2.2.2 ?_ (unhide HM)
                          rcases unhide HQ with ⟨e1, e2, e3⟩ | h
                          · exact .inl ⟨e1, ⟨e2.1, e2.2.1⟩, e2.2.2, ⟨e3.1, e3.2.1⟩, e3.2.2⟩
                          · exact .inr h
                        have HO := hide hok
                        clear hG hok
                        go_wp2_with fail
                        refine bodyPost_ret (v := .agg (pkC ⟨X, Y, o, sa, sp, da, dp, sy, fi, rs, er, qa, qp, ra, rp⟩)) (by simp [results, Try.results17, go_sem, pkC, r0, r1, r2, r3, r4, r5, r6, r7, r8, r9, r10, r11, r12, r13, r14]) rfl ⟨_, unhide HO, rfl, ?_⟩
                        iterate 15 refine Below.setCell ?_ (Nat.le_succ _) _
                        exact unhide HG

end Go.Proofs.Ytgpplekabohneaa
