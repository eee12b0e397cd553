/- 'begins', 'step' of 'Boxes'. -/
import Derived.Test.YtgpplekabohneaaXk
namespace Go.Proofs.Ytgpplekabohneaa.B0
open Go.RowKit

attribute [local go_sem ↓] Go.wp_at_zero Go.wp_at_succ

theorem refNew_any (v : Value) (ts : List Ten) (w : World) (h : TenArg w v ts) : Calls Try.prog 55 #[v] w fun e w' => RefEnd w ts e w' := by
  rcases h with (⟨rfl, rfl⟩ | ⟨b, off, cap, rfl, _, hc, hm, hb, hT⟩) | ⟨a, cap, rfl, rfl⟩
  · exact refNew_nil w
  · exact refNew_some b off ts.length cap ts w rfl hc hm hb hT
  · exact refNew_empty _ _ w

theorem run_make4 (n : Nat) (hn : n ≤ 4398046511104) (W : World) : (Instr.makeSlice 74 (.int .i64 ((n : Int) + 4)) (.int .i64 ((n : Int) + 4))).run Try.prog W = .ok (.slice (some ⟨W.heap.size, 0, none⟩) (n + 4) (n + 4)) (W.alloc (.cells (tenCells (List.replicate (n + 4) zT)).toArray 73)) := by
  obtain ⟨w', h, rfl⟩ := run_makeT W (n + 4) (by omega)
  rw [show ((n + 4 : Nat) : Int) = (n : Int) + 4 from by omega] at h
  exact h

theorem new_end {w : World} {ts : List Ten} {e : Ending} {w' : World} (h : NewEnd w ts e w') : Below w.heap.size w w' ∧ ∃ pb : Option Addr, e = .returned (.tuple #[.pointer pb, .int .i64 (newErr ts)]) ∧
    ((newErr ts ≠ 0 ∧ pb = none) ∨ (newErr ts = 0 ∧ ∃ p, pb = some ⟨p, 0, none⟩ ∧ ProgBox w' (fun k => w.heap.size ≤ k) p ts)) := by
  obtain ⟨hb, ⟨h1, rfl⟩ | ⟨h1, p, rfl, h2⟩⟩ := h
  · exact ⟨hb, none, rfl, .inl ⟨h1, rfl⟩⟩
  · exact ⟨hb, some ⟨p, 0, none⟩, by rw [h1], .inr ⟨h1, p, rfl, h2⟩⟩

theorem ref_end {w : World} {ts : List Ten} {e : Ending} {w' : World} (h : RefEnd w ts e w') : Below w.heap.size w w' ∧ ∃ pb : Option Addr, e = .returned (.tuple #[.pointer pb, .int .i64 (newErr ts)]) ∧
    ((newErr ts ≠ 0 ∧ pb = none) ∨ (newErr ts = 0 ∧ ∃ p, pb = some ⟨p, 0, none⟩ ∧ RefBox w' (fun k => w.heap.size ≤ k) p ts)) := by
  obtain ⟨hb, ⟨h1, rfl⟩ | ⟨h1, p, rfl, h2⟩⟩ := h
  · exact ⟨hb, none, rfl, .inl ⟨h1, rfl⟩⟩
  · exact ⟨hb, some ⟨p, 0, none⟩, by rw [h1], .inr ⟨h1, p, rfl, h2⟩⟩

theorem grown_trans {a b c : World} {g : Nat} (h : a.grownBy b (some g)) (k : b.grownBy c (some g)) : a.grownBy c (some g) :=
  ⟨k.os.trans h.os, k.tape.trans h.tape, k.output.trans h.output, Nat.le_trans h.size k.size, fun i hi hne => (k.block i (Nat.lt_of_lt_of_le hi h.size) hne).trans (h.block i hi hne)⟩

theorem grown_set4 (w : World) (g o0 o1 o2 o3 : Nat) (a b c d : Value) : w.grownBy ((((w.setCell ⟨g, o0, none⟩ a).setCell ⟨g, o1, none⟩ b).setCell ⟨g, o2, none⟩ c).setCell ⟨g, o3, none⟩ d) (some g) := by
  have s1 : ∀ (W : World) (o : Nat) (v : Value), W.grownBy (W.setCell ⟨g, o, none⟩ v) (some g) := fun W o v => ⟨rfl, rfl, rfl, by simp [World.setCell], fun k _ hne => Below.heap_setCell _ _ _ _ (fun e => hne (by rw [e]))⟩
  exact grown_trans (grown_trans (grown_trans (s1 _ _ _) (s1 _ _ _)) (s1 _ _ _)) (s1 _ _ _)

set_option maxRecDepth 100000 in
set_option maxHeartbeats 1000000 in
theorem begins_any (w : World) (B wb : Nat) (bs : List (Nat × Nat × List Ten)) (bv mv zv : Value) (ys : List Value) (cs : List Nat) (c : Nat) (h : Inv w B wb bs bv mv zv ys cs c)
    (kd on a b : Int) (tp pp : Option Addr) (n tc pn pc : Nat) (ts : List Ten) (hS : TenArg w (.slice tp n tc) ts) (hn : n = ts.length) (hn2 : n ≤ 4398046511104) :
    Calls Try.prog 33 #[.pointer (some ⟨wb, 0, none⟩), .agg #[.int .i64 kd, .int .i64 on, .int .i64 a, .int .i64 b, .slice tp n tc, .slice pp pn pc]] w fun e w' =>
      e = .returned (.bool true) ∧ Below B w w' ∧ ∃ bs' bv', Inv w' B wb bs' bv' mv zv ys cs c := by
  obtain ⟨hT, hfew⟩ := h
  have hBw : B ≤ w.heap.size := by have := hT.base; have := (Array.getElem?_eq_some_iff.1 hT.blk).1; omega
  have hmk := run_make4 n hn2
  have H := hide hT
  have HN := hide hn
  have hb1 : ∀ X Y, Below w.heap.size w ((w.alloc X).alloc Y) := fun X Y => ((Below.refl _ _).alloc (Nat.le_refl _) X).alloc (by simp) Y
  obtain ⟨v2, w2, hcp, hblk, hgr⟩ := run_copyA ((w.alloc (Obj.cells #[Value.int IntKind.i64 kd, Value.int IntKind.i64 on, Value.int IntKind.i64 a, Value.int IntKind.i64 b, Value.slice tp n tc, Value.slice pp pn pc] 76)).alloc (Obj.cells (tenCells (List.replicate (n + 4) zT)).toArray 73)) 3 (w.heap.size + 1) (n + 4) (.slice tp n tc) ts 4
    (hS.keep (hb1 _ _).size (fun k hk => (hb1 _ _).block k hk)) (by rw [← hn]; exact blkN _ _ _ (by simp))
  rw [← hn] at hcp
  have hb2 : Below w.heap.size w w2 := (hb1 _ _).trans ((Below.refl _ _).grown hgr (by simp; omega) (fun k hk => by cases hk; omega))
  have hob : w2.heap[w.heap.size]? = some (Obj.cells #[Value.int IntKind.i64 kd, Value.int IntKind.i64 on, Value.int IntKind.i64 a, Value.int IntKind.i64 b, Value.slice tp n tc, Value.slice pp pn pc] 76 (0, 0)) :=
    (hgr.block w.heap.size (by simp; omega) (by simp)).trans (blkA (blkN _ _ _ rfl))
  have HS := hide hS
  have HB2 := hide hb2
  have HBK := hide hblk
  have HOB := hide hob
  clear hT hn hS hb1 hblk hgr hb2 hob
  go_enter Try.func33, Try.ntmps33
  go_wp2
  clear hcp hmk
  go_loopg [7] 4 (fun z s wr => ∃ i k : Nat, k ≤ 4 ∧ z = 4 - k ∧ i = n + k ∧ s = .int .i64 i ∧ TenBlock wr (w.heap.size + 1) (ts ++ List.replicate k m7 ++ List.replicate (4 - k) zT) ∧ Below (w.heap.size + 1) w2 wr)
  case atStart => exact ⟨n, 0, by omega, rfl, rfl, rfl, by simpa using unhide HBK, Below.refl _ _⟩
  case round =>
    obtain ⟨i, k, hk, hz, hik, rfl, hblk, hbl⟩ := hrel
    have HZ := hide hz
    have HBL := hide hbl
    have HIK := hide hik
    have HK := hide hblk
    by_cases hk4 : k < 4
    · have hlen : (ts ++ List.replicate k m7 ++ List.replicate (4 - k) zT).length = n + 4 := by have := unhide HN; simp; omega
      have hilt : i < (ts ++ List.replicate k m7 ++ List.replicate (4 - k) zT).length := by omega
      obtain ⟨g0, g1, g2, g3⟩ := hblk.at i hilt
      have fz := hblk.frozen
      simp only [Nat.zero_add] at g0 g1 g2 g3
      have hkn : (i : Int) < (n : Int) + 4 := by omega
      generalize (ts ++ List.replicate k m7 ++ List.replicate (4 - k) zT)[i].tag = y0 at *
      generalize (ts ++ List.replicate k m7 ++ List.replicate (4 - k) zT)[i].outer = y1 at *
      generalize (ts ++ List.replicate k m7 ++ List.replicate (4 - k) zT)[i].low = y2 at *
      generalize (ts ++ List.replicate k m7 ++ List.replicate (4 - k) zT)[i].high = y3 at *
      have HL := hide hilt
      clear hz hbl hblk hlen hik hilt hk4
      go_wp2
      go_roundg (4 - (k + 1))
      case measure => have := unhide HZ; have := unhide HIK; omega
      case rel =>
        have hik := unhide HIK
        have hs := (unhide HK).set (unhide HL) (-7) 0 0 0
        have e := fill_set ts k (by omega)
        rw [← unhide HN, ← hik] at e
        refine ⟨i + 1, k + 1, by omega, rfl, by omega, by go_num, ?_, (unhide HBL).trans (below_set4 (Nat.le_refl _) _ _ _ _ _ _ _ _)⟩
        rw [← e]
        exact hs
    · have hk4' : k = 4 := by omega
      subst hk4'
      have hkn : ¬ (i : Int) < (n : Int) + 4 := by omega
      have HK4 : Hid (TenBlock wr (w.heap.size + 1) (ts ++ List.replicate 4 m7)) := by
        have := hblk
        rw [Nat.sub_self, List.replicate_zero, List.append_nil] at this
        exact this
      clear hz hbl hblk hik hk4 HK
      have hts := (unhide HK4).at.take n
      rw [List.take_append_of_le_length (by have := unhide HN; omega), List.take_of_length_le (by have := unhide HN; omega)] at hts
      have HNEW := hide (new_some (w.heap.size + 1) 0 n (n + 4) ts wr (unhide HN) (by omega) (by unfold maxLen; omega) (unhide HK4).lt hts)
      clear hts
      obtain ⟨wo, hwo⟩ : ∃ wo, wo = wr := ⟨_, rfl⟩
      subst hwo
      go_wp2_with fail
      refine (unhide HNEW).mono ?_
      intro e w3 hne
      obtain ⟨hb3, pb, rfl, hcase⟩ := new_end hne
      have HPB := hide hcase
      have HLOW : Hid (Below (w.heap.size + 1) w2 w3) := (unhide HBL).trans (hb3.mono (by have := (unhide HK4).lt; omega))
      have HBK3 : Hid (TenBlock w3 (w.heap.size + 1) (ts ++ List.replicate 4 m7)) := (hb3.block _ (unhide HK4).lt).trans (unhide HK4)
      have HB3 := hide hb3
      clear hne hcase hb3 HNEW
      generalize hE : newErr ts = E at *
      have HE := hide hE
      clear hE
      go_wp2
      clear HIK
      go_loopg [10, 11] (n + 4) (fun z s0 s wr => s0 = .bool true ∧ ∃ j : Nat, j ≤ n + 4 ∧ z = n + 4 - j ∧ s = .int .i64 j ∧ TenBlock wr (w.heap.size + 1) (freshT j ++ (ts ++ List.replicate 4 m7).drop j) ∧ w3.grownBy wr (some (w.heap.size + 1)))
      case atStart => exact ⟨rfl, 0, by omega, rfl, rfl, unhide HBK3, ⟨rfl, rfl, rfl, Nat.le_refl _, fun _ _ _ => rfl⟩⟩
      case round =>
        obtain ⟨rfl, j, hj, hz, rfl, hblk, hgr⟩ := hrel
        have HZ2 := hide hz
        have HK := hide hblk
        have HG := hide hgr
        have hxl : (ts ++ List.replicate 4 m7).length = n + 4 := by have := unhide HN; simp; omega
        have hwl : w.heap.size + 1 < w3.heap.size := (unhide HBK3).lt
        have hold : ∀ k, k < w.heap.size + 1 → wr.heap[k]? = w2.heap[k]? := fun k hk => (hgr.block k (by omega) (fun e => by injection e with e2; omega)).trans ((unhide HLOW).block k hk)
        have HOLD := hide hold
        by_cases hj4 : j < n + 4
        · have hjx : j < (ts ++ List.replicate 4 m7).length := by omega
          have hjl : j < (freshT j ++ (ts ++ List.replicate 4 m7).drop j).length := by rw [List.length_append, freshT_length, List.length_drop]; omega
          obtain ⟨g0, g1, g2, g3⟩ := hblk.at j hjl
          have fz := hblk.frozen
          rw [over_at _ _ hjx] at g0 g1 g2 g3
          simp only [Nat.zero_add] at g0 g1 g2 g3
          have hjn4 : (j : Int) < (n : Int) + 4 := by omega
          have HJL := hide hjl
          have HJX := hide hjx
          by_cases hjn : j < n
          · have hjt : j < ts.length := by have := unhide HN; omega
            rw [List.getElem_append_left hjt] at g0 g1 g2 g3
            rcases unhide HS with (⟨hnil, hts⟩ | ⟨b0, off, cap, hv, -, hc, hm, hb, hTat⟩) | ⟨a9, cap9, hv9, hts⟩
            · exact absurd hjt (by rw [hts]; simp)
            · obtain ⟨t0, t1, t2, t3⟩ := hTat j hjt
              have htp : tp = some ⟨b0, off, none⟩ := by simp at hv; exact hv.1
              have hob : ∀ o, wr.cell? ⟨b0, o, none⟩ = w.cell? ⟨b0, o, none⟩ := fun o => World.cell?_of_block (a := ⟨b0, o, none⟩) ((hold b0 (by omega)).trans ((unhide HB2).block b0 hb))
              rw [← hob] at t0 t1 t2 t3
              have oc : wr.cell? ⟨w.heap.size, 4, none⟩ = some (.slice (some ⟨b0, off, none⟩) n tc) := by
                have : wr.heap[w.heap.size]? = _ := (hold w.heap.size (by omega)).trans (unhide HOB)
                simp [World.cell?, this, htp]
              have hjn' : (j : Int) < (n : Int) := by omega
              have HTP := hide htp
              generalize ts[j].tag = y0 at *
              generalize ts[j].outer = y1 at *
              generalize ts[j].low = y2 at *
              generalize ts[j].high = y3 at *
              clear hz hblk hgr hold hjx hjl hv hTat htp hob hxl hjt hj4 hjn4
              have hj0 : (0 : Int) ≤ (j : Int) := by omega
              have hjn5 : (j : Int) < ((n + 4 : Nat) : Int) := by omega
              go_wp2
              go_quiet (fail)
              go_wp2
              go_roundg (n + 4 - (j + 1))
              case measure => have := unhide HZ2; omega
              case rel =>
                have hd : TenBlock (wr.drewN nq) (w.heap.size + 1) (freshT j ++ (ts ++ List.replicate 4 m7).drop j) := unhide HK
                have hs := hd.set (unhide HJL) (1 + (j : Int)) (70 + (j : Int)) 5 5
                rw [over_set _ _ (unhide HJX)] at hs
                have hg1 : w3.grownBy (wr.drewN nq) (some (w.heap.size + 1)) := grown_trans (unhide HG) ⟨rfl, rfl, rfl, by simp, fun _ _ _ => rfl⟩
                exact ⟨rfl, j + 1, by omega, rfl, by go_num, hs, grown_trans hg1 (grown_set4 (wr.drewN nq) _ _ _ _ _ _ _ _ _)⟩
            · exact absurd hjt (by rw [hts]; simp)
          · have hjr : (ts ++ List.replicate 4 m7)[j]'hjx = m7 := by
              rw [List.getElem_append_right (by have := unhide HN; omega), List.getElem_replicate]
            rw [hjr] at g0 g1 g2 g3
            simp only [m7] at g0 g1 g2 g3
            have hjn' : ¬ (j : Int) < (n : Int) := by omega
            clear hz hblk hgr hold hjx hjl hxl hj4 hjr
            have hj0 : (0 : Int) ≤ (j : Int) := by omega
            have hjn5 : (j : Int) < ((n + 4 : Nat) : Int) := by omega
            go_wp2
            go_roundg (n + 4 - (j + 1))
            case measure => have := unhide HZ2; omega
            case rel =>
              have hs := (unhide HK).set (unhide HJL) (1 + (j : Int)) (70 + (j : Int)) 5 5
              rw [over_set _ _ (unhide HJX)] at hs
              exact ⟨rfl, j + 1, by omega, rfl, by go_num, hs, grown_trans (unhide HG) (grown_set4 wr _ _ _ _ _ _ _ _ _)⟩
        · have hje : j = n + 4 := by omega
          have hfr : TenBlock wr (w.heap.size + 1) (freshT (n + 4)) := by
            have := hblk
            rw [hje, List.drop_eq_nil_of_le (by omega), List.append_nil] at this
            exact this
          have HFR := hide hfr
          have hjn4 : ¬ (j : Int) < (n : Int) + 4 := by omega
          have hS4 : TenArg wr (.slice tp n tc) ts := by
            have hsz : w2.heap.size ≤ wr.heap.size := Nat.le_trans (unhide HLOW).size hgr.size
            have hs0 : w.heap.size ≤ w2.heap.size := (unhide HB2).size
            exact (unhide HS).keep (by omega) (fun k hk => (hold k (by omega)).trans ((unhide HB2).block k hk))
          have HREF := hide (refNew_any _ ts wr hS4)
          have oc : wr.cell? ⟨w.heap.size, 4, none⟩ = some (.slice tp n tc) := by
            have : wr.heap[w.heap.size]? = _ := (hold w.heap.size (by omega)).trans (unhide HOB)
            simp [World.cell?, this]
          clear hz hblk hgr hold hxl hj4 hje hfr hS4 hwl
          obtain ⟨w4, hw4⟩ : ∃ w4, w4 = wr := ⟨_, rfl⟩
          subst hw4
          go_wp2_with fail
          refine (unhide HREF).mono ?_
          intro e w5 hre
          have hr := ref_end hre
          rw [unhide HE] at hr
          obtain ⟨hb5, qb, rfl, hcase2⟩ := hr
          have hw4 : Below w.heap.size w w4 := (unhide HB2).trans (((unhide HLOW).mono (by omega)).trans ⟨(unhide HG).os, (unhide HG).tape, (unhide HG).output, (unhide HG).size, fun k hk => (unhide HG).block k (by have := (unhide HBK3).lt; omega) (fun e => by injection e with e2; omega)⟩)
          have hw5 : Below w.heap.size w w5 := hw4.trans (hb5.mono hw4.size)
          have HT5 := hide ((unhide H).below hw5)
          have HW5 := hide hw5
          have HFRX : Hid (TenBlock w5 (w.heap.size + 1) (freshT (n + 4))) := (hb5.block _ (unhide HFR).lt).trans (unhide HFR)
          have hs45 := hb5.size
          have hs34 := (unhide HG).size
          have hs04 := hw4.size
          have HB5 := hide hb5
          have HQB := hide hcase2
          clear hre hcase2 hb5 hw4 hw5 HREF oc
          rcases unhide HPB with ⟨hE0, rfl⟩ | ⟨hE0, p, rfl, hpb⟩
          · rcases unhide HQB with ⟨-, rfl⟩ | ⟨hE1, -⟩
            · clear hE0 HQB HPB hs45 hs34 hs04
              have hft := (unhide HFRX).at.take n
              rw [freshT_take n (n + 4) (by omega)] at hft
              have HN1 := hide (new_some (w.heap.size + 1) 0 n (n + 4) (freshT n) w5 (freshT_length n).symm (by omega) (by unfold maxLen; omega) (unhide HFRX).lt hft)
              clear hft
              go_wp2_with fail
              refine (unhide HN1).mono ?_
              intro e1 w6 hne1
              obtain ⟨hb6, pc1, rfl, hc1⟩ := new_end hne1
              have HC1 := hide hc1
              have HFR6 : Hid (TenBlock w6 (w.heap.size + 1) (freshT (n + 4))) := (hb6.block _ (unhide HFRX).lt).trans (unhide HFRX)
              have HB6 := hide hb6
              clear hne1 hc1 hb6 HN1
              have hft := (unhide HFR6).at.take n
              rw [freshT_take n (n + 4) (by omega)] at hft
              have HN2 := hide (refNew_some (w.heap.size + 1) 0 n (n + 4) (freshT n) w6 (freshT_length n).symm (by omega) (by unfold maxLen; omega) (unhide HFR6).lt hft)
              clear hft
              go_wp2_with fail
              refine (unhide HN2).mono ?_
              intro e2 w7 hre2
              obtain ⟨hb7, pc2, rfl, hc2⟩ := ref_end hre2
              have HB7 : Hid (Below w5.heap.size w5 w7) := (unhide HB6).trans (hb7.mono (unhide HB6).size)
              clear hre2 hc2 hb7 HN2
              generalize newErr (freshT n) = F at *
              rcases unhide HC1 with ⟨hF, rfl⟩ | ⟨rfl, p1, rfl, -⟩
              · have hF2 : (F != 0) = true := by simpa using hF
                clear hF HC1
                go_wp2
                go_ret
                exact ⟨rfl, ((unhide HW5).mono hBw).trans ((unhide HB7).mono (by have := (unhide HW5).size; omega)), ⟨bs, bv, (unhide HT5).below (unhide HB7), hfew⟩⟩
              · clear HC1
                go_wp2
                go_ret
                exact ⟨rfl, ((unhide HW5).mono hBw).trans ((unhide HB7).mono (by have := (unhide HW5).size; omega)), ⟨bs, bv, (unhide HT5).below (unhide HB7), hfew⟩⟩
            · exact absurd hE1 hE0
          · rcases unhide HQB with ⟨hE1, -⟩ | ⟨-, q, rfl, hqb⟩
            · exact absurd hE0 hE1
            · have hgo : w.heap.size + 1 < wo.heap.size := (unhide HK4).lt
              have hs3 : wo.heap.size ≤ w3.heap.size := (unhide HB3).size
              have hP5 : ProgBox w5 (Free wb bv mv zv nilS) p ts := by
                refine hpb.keep (by omega) (fun k hk _ => (unhide H).later (by have hk' : wo.heap.size ≤ k := hk; omega)) (fun k hk hk3 => ?_)
                have hk' : wo.heap.size ≤ k := hk
                exact ((unhide HB5).block k (by omega)).trans ((unhide HG).block k hk3 (fun e => by injection e with e2; omega))
              have hQ5 : RefBox w5 (Free wb bv mv zv nilS) q ts := hqb.keep (Nat.le_refl _) (fun k hk _ => (unhide H).later (by have hk' : w4.heap.size ≤ k := hk; omega)) (fun _ _ _ => rfl)
              have HP5 := hide hP5
              have HQ5 := hide hQ5
              obtain ⟨c0, -, -, -, hfz⟩ := (unhide HT5).cells
              have f0 := hfz 0
              have hbl : ∃ bp bc, bv = .slice bp bs.length bc := by
                rcases (unhide HT5).bown.2 with ⟨h1, h2⟩ | ⟨g, cap, cur, h1, _⟩
                · exact ⟨none, 0, by rw [h1, h2]⟩
                · exact ⟨some ⟨g, 0, none⟩, cap, h1⟩
              clear hE0 HQB HPB hpb hqb hP5 hQ5 hfz hs45 hs34 hs04 hgo hs3
              by_cases h8 : bs.length < 8
              · have h8' : (bs.length : Int) < 8 := by omega
                obtain ⟨bp, bc, hbv⟩ := hbl
                have hwbl := (Array.getElem?_eq_some_iff.1 (unhide HT5).blk).1
                have hB5 : B ≤ w5.heap.size := by have := (unhide HW5).size; omega
                have hgx : w.heap.size + 1 < w5.heap.size := (unhide HFRX).lt
                have HBO := hide ((unhide HT5).bown.alloc (.cells #[.pointer (some ⟨p, 0, none⟩), .pointer (some ⟨q, 0, none⟩)] 94))
                have HWB := hide (unhide HT5).wbv
                have hbv0 := hbv
                rw [hbv] at c0 HBO
                have HBV := hide hbv0
                obtain ⟨i0, hi, hz0, hz1, hz2⟩ := info_parts info94
                have HI := hide (And.intro hi (And.intro hz0 (And.intro hz1 hz2)))
                have hb8 : bs.length + 1 ≤ 8 := by omega
                clear hbv hbv0 hi hz0 hz1 hz2
                go_wp2_with
                  ((at_builtin; refine wpList_append_x _ rfl _ _ _ rfl B 94 i0 _ 2 16 Try.underlying64 (unhide HI).1 (unhide HI).2.1 (unhide HI).2.2.1 (unhide HI).2.2.2 rfl (by omega) (.slice bp bs.length bc) bs.length (boxCells bs) rfl (unhide HBO) ⟨w5.heap.size, 0, none⟩ 1 1 [.pointer (some ⟨p, 0, none⟩), .pointer (some ⟨q, 0, none⟩)] rfl rfl (World.news_of_block (by exact blkN w5 _ _ rfl)) (by simp [Value.oneCell']) (by omega) (by unfold maxLen; omega) (by omega) (by simp; omega) ?_; intro g8 cap8 w8 hown8 hgr8;
                    rw [← unhide HBV] at hgr8;
                    have q8 : w8.heap[wb]? = w5.heap[wb]? := (kept_x hgr8 (by simp; omega) (unhide HWB)).trans (Below.heap_alloc w5 _ wb hwbl);
                    have c08 := (World.cell?_of_block (a := ⟨wb, 0, none⟩) q8).trans c0;
                    have f08 := (World.frozen?_of_block (a := ⟨wb, 0, none⟩) q8).trans f0;
                    have HO8 := hide hown8; have HG8 := hide hgr8; clear q8 hown8 hgr8))
                obtain ⟨hT9, hb9⟩ := ((unhide HT5).below ((Below.refl _ _).alloc (Nat.le_refl _) (.cells #[.pointer (some ⟨p, 0, none⟩), .pointer (some ⟨q, 0, none⟩)] 94))).stepB p q ts
                  ((unhide HP5).keep (by simp) (fun _ h _ => h) (fun k _ hk => Below.heap_alloc w5 _ k hk)) ((unhide HQ5).keep (by simp) (fun _ h _ => h) (fun k _ hk => Below.heap_alloc w5 _ k hk)) h8 (unhide HO8) (unhide HG8)
                have hgb : bv.ownBlock ≠ some (w.heap.size + 1) := fun e => by have := ((unhide H).bown.lt _ e).2; omega
                have hgw : w.heap.size + 1 ≠ wb := by have := (Array.getElem?_eq_some_iff.1 (unhide H).blk).1; omega
                have HFR9 : Hid (TenBlock (w8.setCell ⟨wb, 0, none⟩ (Value.slice (some { block := g8, off := 0 }) (bs.length + 1) cap8)) (w.heap.size + 1) (freshT (n + 4))) :=
                  (Below.heap_setCell w8 _ _ _ hgw).trans ((kept_x (unhide HG8) (by simp; omega) hgb).trans (blkA (unhide HFRX)))
                have HBW9 := hide ((((unhide HW5).mono hBw).alloc hB5 (.cells #[.pointer (some ⟨p, 0, none⟩), .pointer (some ⟨q, 0, none⟩)] 94)).trans hb9)
                clear hb9 hgb hgw c0 f0 c08 f08 HO8 HG8 HI HBO HWB HBV HP5 HQ5 HFRX
                generalize w8.setCell ⟨wb, 0, none⟩ (Value.slice (some { block := g8, off := 0 }) (bs.length + 1) cap8) = w9 at *
                have hB9 : B ≤ w9.heap.size := by have := (Array.getElem?_eq_some_iff.1 hT9.blk).1; have := hT9.base; omega
                have HT9 := hide hT9
                clear hT9
                have hft := (unhide HFR9).at.take n
                rw [freshT_take n (n + 4) (by omega)] at hft
                have HN1 := hide (new_some (w.heap.size + 1) 0 n (n + 4) (freshT n) w9 (freshT_length n).symm (by omega) (by unfold maxLen; omega) (unhide HFR9).lt hft)
                clear hft
                refine (unhide HN1).mono ?_
                intro e1 w6 hne1
                obtain ⟨hb6, pc1, rfl, hc1⟩ := new_end hne1
                have HC1 := hide hc1
                have HFR6 : Hid (TenBlock w6 (w.heap.size + 1) (freshT (n + 4))) := (hb6.block _ (unhide HFR9).lt).trans (unhide HFR9)
                have HB6 := hide hb6
                clear hne1 hc1 hb6 HN1
                have hft := (unhide HFR6).at.take n
                rw [freshT_take n (n + 4) (by omega)] at hft
                have HN2 := hide (refNew_some (w.heap.size + 1) 0 n (n + 4) (freshT n) w6 (freshT_length n).symm (by omega) (by unfold maxLen; omega) (unhide HFR6).lt hft)
                clear hft
                go_wp2_with fail
                refine (unhide HN2).mono ?_
                intro e2 w7 hre2
                obtain ⟨hb7, pc2, rfl, hc2⟩ := ref_end hre2
                have HB7 : Hid (Below w9.heap.size w9 w7) := (unhide HB6).trans (hb7.mono (unhide HB6).size)
                clear hre2 hc2 hb7 HN2
                generalize newErr (freshT n) = F at *
                rcases unhide HC1 with ⟨hF, rfl⟩ | ⟨rfl, p1, rfl, -⟩
                · have hF2 : (F != 0) = true := by simpa using hF
                  clear hF HC1
                  go_wp2
                  go_ret
                  exact ⟨rfl, (unhide HBW9).trans ((unhide HB7).mono hB9), ⟨_, _, (unhide HT9).below (unhide HB7), hfew⟩⟩
                · clear HC1
                  go_wp2
                  go_ret
                  exact ⟨rfl, (unhide HBW9).trans ((unhide HB7).mono hB9), ⟨_, _, (unhide HT9).below (unhide HB7), hfew⟩⟩
              · have h8' : ¬ (bs.length : Int) < 8 := by omega
                obtain ⟨bp, bc, hbv⟩ := hbl
                rw [hbv] at c0
                clear hbv h8
                have hft := (unhide HFRX).at.take n
                rw [freshT_take n (n + 4) (by omega)] at hft
                have HN1 := hide (new_some (w.heap.size + 1) 0 n (n + 4) (freshT n) w5 (freshT_length n).symm (by omega) (by unfold maxLen; omega) (unhide HFRX).lt hft)
                clear hft
                go_wp2_with fail
                refine (unhide HN1).mono ?_
                intro e1 w6 hne1
                obtain ⟨hb6, pc1, rfl, hc1⟩ := new_end hne1
                have HC1 := hide hc1
                have HFR6 : Hid (TenBlock w6 (w.heap.size + 1) (freshT (n + 4))) := (hb6.block _ (unhide HFRX).lt).trans (unhide HFRX)
                have HB6 := hide hb6
                clear hne1 hc1 hb6 HN1
                have hft := (unhide HFR6).at.take n
                rw [freshT_take n (n + 4) (by omega)] at hft
                have HN2 := hide (refNew_some (w.heap.size + 1) 0 n (n + 4) (freshT n) w6 (freshT_length n).symm (by omega) (by unfold maxLen; omega) (unhide HFR6).lt hft)
                clear hft
                go_wp2_with fail
                refine (unhide HN2).mono ?_
                intro e2 w7 hre2
                obtain ⟨hb7, pc2, rfl, hc2⟩ := ref_end hre2
                have HB7 : Hid (Below w5.heap.size w5 w7) := (unhide HB6).trans (hb7.mono (unhide HB6).size)
                clear hre2 hc2 hb7 HN2
                generalize newErr (freshT n) = F at *
                rcases unhide HC1 with ⟨hF, rfl⟩ | ⟨rfl, p1, rfl, -⟩
                · have hF2 : (F != 0) = true := by simpa using hF
                  clear hF HC1
                  go_wp2
                  go_ret
                  exact ⟨rfl, ((unhide HW5).mono hBw).trans ((unhide HB7).mono (by have := (unhide HW5).size; omega)), ⟨bs, bv, (unhide HT5).below (unhide HB7), hfew⟩⟩
                · clear HC1
                  go_wp2
                  go_ret
                  exact ⟨rfl, ((unhide HW5).mono hBw).trans ((unhide HB7).mono (by have := (unhide HW5).size; omega)), ⟨bs, bv, (unhide HT5).below (unhide HB7), hfew⟩⟩
end Go.Proofs.Ytgpplekabohneaa.B0

namespace Go.Proofs.Ytgpplekabohneaa.B0
open Go.RowKit

attribute [local go_sem ↓] Go.wp_at_zero Go.wp_at_succ

/-- between two steps, whatever is in it -/
def Good (w : World) (B wb c : Nat) : Prop := ∃ bs bv mv zv ys cs, Inv w B wb bs bv mv zv ys cs c

theorem Good.below {w w' : World} {B wb c : Nat} (h : Good w B wb c) (hb : Below w.heap.size w w') : Good w' B wb c := by
  obtain ⟨bs, bv, mv, zv, ys, cs, h⟩ := h
  exact ⟨bs, bv, mv, zv, ys, cs, h.below hb⟩

def opV (kd on a b : Int) (tv pv : Value) : Value := .agg #[.int .i64 kd, .int .i64 on, .int .i64 a, .int .i64 b, tv, pv]

/-- which of n things the raw number c speaks of -/
def pk (c : Int) (n : Nat) : Nat := if c < 0 then (-(c + 1)).toNat % n else c.toNat % n

theorem pk_lt (c : Int) (n : Nat) (hn : 0 < n) : pk c n < n := by
  unfold pk
  split <;> exact Nat.mod_lt _ hn

theorem pick_eq (c : Int) (n : Nat) (w : World) (hc : -9223372036854775808 ≤ c) (hc' : c ≤ 9223372036854775807) (hn : 0 < n) (hn' : n ≤ 8) :
    Calls Try.prog 34 #[.int .i64 c, .int .i64 n] w fun e w' => e = .returned (.int .i64 (pk c n)) ∧ w' = w := by
  by_cases h1 : c < 0
  · have hq : Hid (-((c + 1).tmod n) = (pk c n : Int)) := by
      show -((c + 1).tmod n) = (pk c n : Int)
      unfold pk
      rw [if_pos h1]
      obtain ⟨m, hm⟩ := Int.eq_ofNat_of_zero_le (show 0 ≤ -(c + 1) by omega)
      have e : c + 1 = -(m : Int) := by omega
      rw [e, Int.neg_tmod, Int.neg_neg, Int.tmod_eq_emod_of_nonneg (by omega)]
      simp
    go_enter Try.func34, Try.ntmps34
    go_wp2
    go_ret
    exact ⟨by rw [hq.out]; rfl, rfl⟩
  · have hq : Hid (c % (n : Int) = (pk c n : Int)) := by
      show c % (n : Int) = (pk c n : Int)
      unfold pk
      rw [if_neg h1]
      obtain ⟨m, hm⟩ := Int.eq_ofNat_of_zero_le (show 0 ≤ c by omega)
      rw [hm]
      simp
    go_enter Try.func34, Try.ntmps34
    go_wp2
    go_ret
    exact ⟨by rw [hq.out]; rfl, rfl⟩

theorem boxCells_at : ∀ (bs : List (Nat × Nat × List Ten)) (i : Nat) (h : i < bs.length), (boxCells bs)[i * 2]? = some (.pointer (some ⟨bs[i].1, 0, none⟩)) ∧ (boxCells bs)[i * 2 + 1]? = some (.pointer (some ⟨bs[i].2.1, 0, none⟩))
  | x :: r, 0, _ => ⟨rfl, rfl⟩
  | x :: r, i + 1, h => by
    have := boxCells_at r i (by simpa using h)
    have e : boxCells (x :: r) = .pointer (some ⟨x.1, 0, none⟩) :: .pointer (some ⟨x.2.1, 0, none⟩) :: boxCells r := rfl
    rw [e, show (i + 1) * 2 = i * 2 + 1 + 1 by omega]
    simpa using this

set_option maxRecDepth 100000 in
set_option maxHeartbeats 1000000 in
/-- a step of the kind 1 -/
theorem step_new (w : World) (B wb c : Nat) (h : Good w B wb c) (on a b : Int) (tp pp : Option Addr) (n tc pn pc : Nat) (ts : List Ten) (hS : TenArg w (.slice tp n tc) ts) (hn : n = ts.length) (hn2 : n ≤ 4398046511104) :
    Calls Try.prog 24 #[.pointer (some ⟨wb, 0, none⟩), .agg #[.int .i64 1, .int .i64 on, .int .i64 a, .int .i64 b, .slice tp n tc, .slice pp pn pc]] w fun e w' =>
      e = .returned (.bool true) ∧ Below B w w' ∧ Good w' B wb c := by
  obtain ⟨bs, bv, mv, zv, ys, cs, hI⟩ := h
  have hBw : B ≤ w.heap.size := by have := hI.1.base; have := (Array.getElem?_eq_some_iff.1 hI.1.blk).1; omega
  have hb1 : ∀ X, Below w.heap.size w (w.alloc X) := fun X => (Below.refl _ _).alloc (Nat.le_refl _) X
  have HC := hide (fun X => begins_any (w.alloc X) B wb bs bv mv zv ys cs c (hI.below (hb1 X)) 1 on a b tp pp n tc pn pc ts (hS.keep (hb1 X).size (fun k hk => (hb1 X).block k hk)) hn hn2)
  have HB1 := hide hb1
  clear hI hS hn hb1
  go_enter Try.func24, Try.ntmps24
  go_wp2_with fail
  refine (unhide HC _).mono ?_
  rintro e w' ⟨rfl, hb, bs', bv', hinv⟩
  have HB := hide hb
  have HI := hide hinv
  clear hb hinv HC
  go_wp2
  go_ret
  exact ⟨rfl, ((unhide HB1 _).mono hBw).trans (unhide HB), _, _, _, _, _, _, unhide HI⟩

set_option maxRecDepth 100000 in
set_option maxHeartbeats 1000000 in
/-- a step that is none of New -/
theorem step_other (w : World) (B wb c : Nat) (h : Good w B wb c) (hc : c ≤ 1760000000000) (kd on a b : Int) (hon : -9223372036854775808 ≤ on ∧ on ≤ 9223372036854775807) (tv pv : Option Addr) (tn tc pn pc : Nat) (hk1 : (kd == 1) = false) (hk3 : kd ≤ 3) :
    Calls Try.prog 24 #[.pointer (some ⟨wb, 0, none⟩), .agg #[.int .i64 kd, .int .i64 on, .int .i64 a, .int .i64 b, .slice tv tn tc, .slice pv pn pc]] w fun e w' =>
      e = .returned (.bool true) ∧ Below B w w' ∧ ∃ c', c' ≤ c + 1 ∧ Good w' B wb c' := by
  obtain ⟨bs, bv, mv, zv, ys, cs, hI⟩ := h
  have hBw : B ≤ w.heap.size := by have := hI.1.base; have := (Array.getElem?_eq_some_iff.1 hI.1.blk).1; omega
  obtain ⟨c0, -, -, -, -⟩ := hI.1.cells
  have HI := hide hI
  by_cases hb0 : bs.length = 0
  · have hbv : ∃ bp bc, bv = .slice bp 0 bc := by
      rcases hI.1.bown.2 with ⟨h1, _⟩ | ⟨g, cap, cur, h1, _⟩
      · exact ⟨none, 0, h1⟩
      · exact ⟨some ⟨g, 0, none⟩, cap, by rw [h1, hb0]⟩
    obtain ⟨bp, bc, hbv⟩ := hbv
    rw [hbv] at c0
    have ca : ∀ X, (w.alloc X).cell? ⟨wb, 0, none⟩ = some (.slice bp 0 bc) := fun X => cellA c0
    clear hI hbv hb0
    go_enter Try.func24, Try.ntmps24
    go_wp2
    go_ret
    exact ⟨rfl, (Below.refl _ _).alloc hBw _, c, by omega, _, _, _, _, _, _, (unhide HI).below ((Below.refl _ _).alloc (Nat.le_refl _) _)⟩
  · have hb8 := hI.1.nb
    obtain ⟨gb, bc, hbv, hbc, hbm, hbcell⟩ : ∃ gb bc, bv = .slice (some ⟨gb, 0, none⟩) bs.length bc ∧ bs.length ≤ bc ∧ bc ≤ maxLen ∧ ∀ (j : Nat) (u : Value), (boxCells bs)[j]? = some u → w.cell? ⟨gb, j, none⟩ = some u := by
      rcases hI.1.bown.2 with ⟨_, h2⟩ | ⟨g, cap, cur, h1, _, _, h4, h5, _⟩
      · exact absurd h2 hb0
      · refine ⟨g, cap, h1, h4, h5, fun j u hu => ?_⟩
        have := hI.1.bown.cells (g := g) (by rw [h1]; rfl) j u hu
        have hadd : (⟨g, 0, none⟩ : Addr).add j = ⟨g, j, none⟩ := by unfold Addr.add; split <;> simp_all
        rwa [hadd] at this
    rw [hbv] at c0
    have ca : ∀ X, (w.alloc X).cell? ⟨wb, 0, none⟩ = some (.slice (some ⟨gb, 0, none⟩) bs.length bc) := fun X => cellA c0
    have HBC := hide hbcell
    have hb0' : ((bs.length : Int) == 0) = false := by rw [beq_eq_false_iff_ne]; omega
    unfold maxLen at hbm
    clear hI hbv hbcell
    go_enter Try.func24, Try.ntmps24
    go_wp2
    have hI1 := (unhide HI).below ((Below.refl w.heap.size w).alloc (Nat.le_refl _) (Obj.cells #[Value.int IntKind.i64 kd, Value.int IntKind.i64 on, Value.int IntKind.i64 a, Value.int IntKind.i64 b, Value.slice tv tn tc, Value.slice pv pn pc] 76))
    have hB1 : Below B w (w.alloc (Obj.cells #[Value.int IntKind.i64 kd, Value.int IntKind.i64 on, Value.int IntKind.i64 a, Value.int IntKind.i64 b, Value.slice tv tn tc, Value.slice pv pn pc] 76)) := (Below.refl B w).alloc hBw _
    have a0 := ca (Obj.cells #[Value.int IntKind.i64 kd, Value.int IntKind.i64 on, Value.int IntKind.i64 a, Value.int IntKind.i64 b, Value.slice tv tn tc, Value.slice pv pn pc] 76)
    have ob : (w.alloc (Obj.cells #[Value.int IntKind.i64 kd, Value.int IntKind.i64 on, Value.int IntKind.i64 a, Value.int IntKind.i64 b, Value.slice tv tn tc, Value.slice pv pn pc] 76)).heap[w.heap.size]? = some (Obj.cells #[Value.int IntKind.i64 kd, Value.int IntKind.i64 on, Value.int IntKind.i64 a, Value.int IntKind.i64 b, Value.slice tv tn tc, Value.slice pv pn pc] 76 (0, 0)) := blkN _ _ _ rfl
    have hj : pk on bs.length < bs.length := pk_lt on bs.length (by omega)
    have hPK := hide (fun W => pick_eq on bs.length W hon.1 hon.2 (by omega) hb8)
    have hp0 : (w.alloc (Obj.cells #[Value.int IntKind.i64 kd, Value.int IntKind.i64 on, Value.int IntKind.i64 a, Value.int IntKind.i64 b, Value.slice tv tn tc, Value.slice pv pn pc] 76)).cell? ⟨gb, pk on bs.length * 2, none⟩ = some (.pointer (some ⟨bs[pk on bs.length].1, 0, none⟩)) := cellA (unhide HBC _ _ (boxCells_at bs _ hj).1)
    have hp1 : (w.alloc (Obj.cells #[Value.int IntKind.i64 kd, Value.int IntKind.i64 on, Value.int IntKind.i64 a, Value.int IntKind.i64 b, Value.slice tv tn tc, Value.slice pv pn pc] 76)).cell? ⟨gb, pk on bs.length * 2 + 1, none⟩ = some (.pointer (some ⟨bs[pk on bs.length].2.1, 0, none⟩)) := cellA (unhide HBC _ _ (boxCells_at bs _ hj).2)
    have hmem : bs[pk on bs.length] ∈ bs := List.getElem_mem hj
    generalize w.alloc (Obj.cells #[Value.int IntKind.i64 kd, Value.int IntKind.i64 on, Value.int IntKind.i64 a, Value.int IntKind.i64 b, Value.slice tv tn tc, Value.slice pv pn pc] 76) = w1 at *
    generalize bs[pk on bs.length] = x at *
    obtain ⟨p, q, ts⟩ := x
    simp only at hp0 hp1
    generalize pk on bs.length = j at *
    have hj2 : (j : Int) < (bs.length : Int) := by omega
    have hj0 : (0 : Int) ≤ (j : Int) := by omega
    have o0 : w1.cell? ⟨w.heap.size, 0, none⟩ = some (.int .i64 kd) := by simp [World.cell?, ob]
    have o1 : w1.cell? ⟨w.heap.size, 1, none⟩ = some (.int .i64 on) := by simp [World.cell?, ob]
    have o2 : w1.cell? ⟨w.heap.size, 2, none⟩ = some (.int .i64 a) := by simp [World.cell?, ob]
    have n1 := World.new_ne w1 _ a0
    have n2 := World.new_ne w1 _ o1
    have n3 := World.new_ne w1 _ hp0
    have n4 := World.new_ne w1 _ hp1
    have HI1 := hide hI1
    have HB1 := hide hB1
    have HMEM := hide hmem
    clear hI1 hB1 ob ca c0 HBC HI hmem
    go_region_held3 (fun w' => w'.cell? ⟨wb, 0, none⟩ = some (.slice (some ⟨gb, 0, none⟩) bs.length bc) ∧ w'.cell? ⟨w.heap.size, 1, none⟩ = some (.int .i64 on) ∧ w'.cell? ⟨gb, j * 2, none⟩ = some (.pointer (some ⟨p, 0, none⟩)) ∧ w'.cell? ⟨gb, j * 2 + 1, none⟩ = some (.pointer (some ⟨q, 0, none⟩))) (go_keep)
      ((go_at_call 34; refine (unhide hPK _).mono ?_; rintro e w2 ⟨rfl, rfl⟩))
    all_goals
      have hbx : Below w1.heap.size w1 (w1.alloc (Obj.cells #[Value.pointer (some { block := p, off := 0 }), Value.pointer (some { block := q, off := 0 })] 94)).drew := ((Below.refl _ _).alloc (Nat.le_refl _) _).drew
      have hI3 := (unhide HI1).below hbx
      have hB1w : B ≤ w1.heap.size := by have := hI3.1.base; have := (Array.getElem?_eq_some_iff.1 (unhide HI1).1.blk).1; omega
      have HB3 := hide ((unhide HB1).trans (hbx.mono hB1w))
      have e0 := (hbx.cell (p := ⟨w.heap.size, 0, none⟩) (World.block_lt_of_cell? _ _ o0)).trans o0
      have e2 := (hbx.cell (p := ⟨w.heap.size, 2, none⟩) (World.block_lt_of_cell? _ _ o2)).trans o2
      have x0 : (w1.alloc (Obj.cells #[Value.pointer (some { block := p, off := 0 }), Value.pointer (some { block := q, off := 0 })] 94)).drew.cell? ⟨w1.heap.size, 0, none⟩ = some (.pointer (some ⟨p, 0, none⟩)) := by simp
      have x1 : (w1.alloc (Obj.cells #[Value.pointer (some { block := p, off := 0 }), Value.pointer (some { block := q, off := 0 })] 94)).drew.cell? ⟨w1.heap.size, 1, none⟩ = some (.pointer (some ⟨q, 0, none⟩)) := by simp
      clear hbx hB1w o0 o1 o2 n1 n2 n3 n4 a0 hp0 hp1 hPK HI1 HB1
      generalize (w1.alloc (Obj.cells #[Value.pointer (some { block := p, off := 0 }), Value.pointer (some { block := q, off := 0 })] 94)).drew = w3 at *
      have HI3 := hide hI3
      have hk4 : (kd == 4) = false := by rw [beq_eq_false_iff_ne]; omega
      have hk5 : (kd == 5) = false := by rw [beq_eq_false_iff_ne]; omega
      have hk6 : (kd == 6) = false := by rw [beq_eq_false_iff_ne]; omega
      by_cases hk2 : kd = 2
      · subst hk2
        have HC := hide (tells_any w3 B wb bs bv mv zv ys cs c hI3 hc p q ts (unhide HMEM) a)
        clear hI3 hk1 hk3 hk4 hk5 hk6
        go_wp2_with fail
        refine (unhide HC).mono ?_
        rintro e w4 ⟨rfl, hb4, mv', zv', ys', cs', hinv⟩
        have HB4 := hide hb4
        have HI4 := hide hinv
        clear hb4 hinv HC
        go_wp2
        go_ret
        exact ⟨rfl, (unhide HB3).trans (unhide HB4), c + 1, by omega, _, _, _, _, _, _, unhide HI4⟩
      · have hk2' : (kd == 2) = false := by rw [beq_eq_false_iff_ne]; exact hk2
        clear hk2
        by_cases hkt : kd = 3
        · subst hkt
          obtain ⟨-, -, -, v, hq, -⟩ := hI3.1.rboxes _ (unhide HMEM)
          have HC := hide (tick_any p _ _ a w3 (hI3.1.pboxes _ (unhide HMEM)))
          have HQ := hide hq
          clear hI3 hk1 hk3 hk4 hk5 hk6 hk2' hq
          go_wp2_with fail
          refine (unhide HC).mono ?_
          rintro e w4 ⟨rfl, hb4⟩
          have e24 := (hb4.cell (p := ⟨w.heap.size, 2, none⟩) (World.block_lt_of_cell? _ _ e2)).trans e2
          have x14 := (hb4.cell (p := ⟨w1.heap.size, 1, none⟩) (World.block_lt_of_cell? _ _ x1)).trans x1
          have HR := hide (tickRef_any q v a w4 ((hb4.block q (Array.getElem?_eq_some_iff.1 (unhide HQ)).1).trans (unhide HQ)))
          have HI4 := hide ((unhide HI3).below hb4)
          have HB4 := hide ((unhide HB3).trans (hb4.mono (by have := (unhide HI3).1.base; have := (Array.getElem?_eq_some_iff.1 (unhide HI3).1.blk).1; omega)))
          clear HC hb4 e0 e2 x0 x1 HQ
          go_wp2_with fail
          refine (unhide HR).mono ?_
          rintro e w5 ⟨rfl, hb5⟩
          have HB5 := hide hb5
          clear hb5 HR
          generalize tickB a = tb at *
          go_wp2
          go_ret
          exact ⟨by simp, (unhide HB4).trans ((unhide HB5).mono (by have := (unhide HI4).1.base; have := (Array.getElem?_eq_some_iff.1 (unhide HI4).1.blk).1; omega)), c, by omega, _, _, _, _, _, _, (unhide HI4).below (unhide HB5)⟩
        · have hk3' : (kd == 3) = false := by rw [beq_eq_false_iff_ne]; exact hkt
          clear hI3 hkt
          go_wp2
          go_ret
          exact ⟨rfl, unhide HB3, c, by omega, _, _, _, _, _, _, unhide HI3⟩

end Go.Proofs.Ytgpplekabohneaa.B0
