/- The program's table; 'ints' of the statement; lists that came out. -/
import Derived.Test.YtgpplekabohneaaRy
import Derived.Test.YtgpplekabohneaaXc
namespace Go.Proofs.Ytgpplekabohneaa
open Go.RowKit

def TabD (W : World) (base : Nat) (lv : Value) (ms : List Mp) : Prop :=
  ∃ R : List (Mp × Value), R.map (·.1) = ms ∧ W.ownsRow base 52 7 lv ms.length (R.flatMap fun y => rowC y.1 y.2) ∧ (∀ y ∈ R, W.ownsRow base 3 1 y.2 y.1.peers.length (intsV y.1.peers)) ∧ R.Pairwise fun y z => ∀ k, y.2.ownBlock = some k → z.2.ownBlock ≠ some k

theorem TabD.snoc {W W1 W3 : World} {base g2 cap2 : Nat} {lv sv' : Value} {ms : List Mp} {m : Mp} {R : List (Mp × Value)} {o : Obj} (hR : R.map (·.1) = ms) (hL : W.ownsRow base 52 7 lv ms.length (R.flatMap fun y => rowC y.1 y.2)) (hP : ∀ y ∈ R, W.ownsRow base 3 1 y.2 y.1.peers.length (intsV y.1.peers)) (hD : R.Pairwise fun y z => ∀ k, y.2.ownBlock = some k → z.2.ownBlock ≠ some k)
    (hbase : base ≤ W.heap.size) (hb1 : Below W.heap.size W W1) (hsv : W1.ownsRow W.heap.size 3 1 sv' m.peers.length (intsV m.peers)) (hO3 : W3.ownsRow base 52 7 (.slice (some ⟨g2, 0, none⟩) (ms.length + 1) cap2) (ms.length + 1) ((R.flatMap fun y => rowC y.1 y.2) ++ rowC m sv'))
    (hG3 : (lv.ownBlock = some g2 ∧ (W1.alloc o).grownBy W3 (some g2)) ∨ (g2 = (W1.alloc o).heap.size ∧ (W1.alloc o).grownBy W3 none)) :
    TabD W3 base (.slice (some ⟨g2, 0, none⟩) (ms.length + 1) cap2) (ms ++ [m]) := by
  have hF1 : Fr (fun _ => False) W W1 := Fr.of_below hb1
  have hF3 : Fr (fun k => lv.ownBlock = some k) W1 W3 := by
    rcases hG3 with ⟨h1, h2⟩ | ⟨_, h2⟩
    · exact ((Fr.refl _ W1).alloc o).trans (Fr.of_grown h2 (fun k hk _ => by cases hk; exact h1))
    · exact ((Fr.refl _ W1).alloc o).trans (Fr.of_grown h2 (fun k hk _ => by cases hk))
  have hL1 := row_keepB hL (Nat.le_refl _) hF1 (fun _ _ _ f => f)
  refine ⟨R ++ [(m, sv')], by simp [hR], ?_, ?_, ?_⟩
  · rw [List.length_append, List.flatMap_append]
    simpa using hO3
  · intro y hy
    rcases List.mem_append.1 hy with hy | hy
    · have h1 := row_keepB (hP y hy) (Nat.le_refl _) hF1 (fun _ _ _ f => f)
      exact row_keepB h1 (Nat.le_refl _) hF3 (fun k hk _ hk' => row_kind h1 hL1 (by decide) hk hk')
    · rw [List.mem_singleton.1 hy]
      exact row_keepB hsv hbase hF3 (fun k hk _ hk' => row_kind hsv hL1 (by decide) hk hk')
  · rw [List.pairwise_append]
    refine ⟨hD, by simp, fun y hy z hz k hk hk' => ?_⟩
    rw [List.mem_singleton.1 hz] at hk'
    have h1 := ((hP y hy).lt k hk).2
    have h2 := (hsv.lt k hk').1
    omega

set_option maxHeartbeats 4000000 in
set_option maxRecDepth 100000 in
theorem table_tenD {w : World} {S : Nat → Prop} {g hp hi : Nat} {T : Tn} {L : List Cl} (h : TenR w S g hp hi T L) :
    Calls Try.prog 30 #[.pointer (some ⟨g, 0, none⟩)] w fun e w' => ∃ lv, e = .returned lv ∧ TabD w' w.heap.size lv (tableF T) ∧ Below w.heap.size w w' := by
  obtain ⟨i0, hi0, hz0, hz1, hz2⟩ := info_parts info52
  obtain ⟨es, c, a1, a2, _⟩ := h.mp
  have hes : es.size ≤ 192 := by
    have h1 := good_few h.good
    have h2 := congrArg List.length a2
    have h3 := congrArg List.length h.maps
    simp at h2 h3
    omega
  have hlen := fun ty => run_lenMap w hp c es a1 hes ty
  have hmk := run_make (P := Try.prog) w 43 52 i0 mapZ Try.underlying43 hi0 hz0 .i64 .i64 0 es.size (Int.le_refl _) (by omega) (by rw [hz2]; omega) (by omega)
  have HI := hide (And.intro hi0 (And.intro hz0 (And.intro hz1 hz2)))
  obtain ⟨l1, -, c1, c2, c3, -⟩ := h.cells
  have hlo := h.good.low
  have hhi := h.good.high
  have hle := h.good.le
  have HT := hide h
  clear h a2 hi0 hz0 hz2
  rw [hz1] at hmk
  simp only [Int.toNat_zero, Int.toNat_natCast] at hmk
  have HST : Hid (TabD (w.alloc (.cells (madeCells mapZ.cells (es.size * 7)) 52)) w.heap.size (.slice (some ⟨w.heap.size, 0, none⟩) 0 es.size) (upTo T 0)) := by
    refine ⟨[], rfl, ?_, by simp, List.Pairwise.nil⟩
    have := World.ownsRow_made (e := 52) (size := 7) (base := w.heap.size) w (madeCells mapZ.cells (es.size * 7)) es.size (Nat.le_refl _) (by unfold maxLen; omega) (by simp [madeCells])
    simpa [upTo] using this
  generalize hWm : w.alloc (.cells (madeCells mapZ.cells (es.size * 7)) 52) = wm at *
  have hbm : Below w.heap.size w wm := by rw [← hWm]; exact (Below.refl _ _).alloc (Nat.le_refl _) _
  have HBM := hide hbm
  clear hWm hbm hz1 a1
  go_enter Try.func30, Try.ntmps30
  go_wp2
  go_loopg [3, 4] 3 (fun k l p wr => ∃ j : Nat, j ≤ 3 ∧ k = 3 - j ∧ p = .int .i64 ((j : Int) + 1) ∧ TabD wr w.heap.size l (upTo T j) ∧ Below w.heap.size w wr)
  case atStart => exact ⟨0, by omega, by omega, rfl, unhide HST, unhide HBM⟩
  case round =>
    obtain ⟨j, hj, hk, rfl, hTab, hbl⟩ := hrel
    have HK := hide hk
    have HTab := hide hTab
    have HBl := hide hbl
    have hlo1 := (hbl.cell (p := ⟨g, 1, none⟩) l1).trans c1
    clear hk hTab hbl HST HBM
    by_cases hlt : j < 3
    · have hjl : (upTo T j).length ≤ j * 64 := upTo_len (unhide HT).good j
      generalize wr = wo at *
      have hj3 : decide ((j : Int) + 1 ≤ 3) = true := by simp; omega
      go_wp2
      go_loopg [3, 5] (T.high + 1 - T.low).toNat (fun k l q wr => ∃ x : Int, T.low ≤ x ∧ x ≤ T.high + 1 ∧ k = (T.high + 1 - x).toNat ∧ q = .int .i64 x ∧ TabD wr w.heap.size l (upTo T j ++ rowF T.maps ((j : Int) + 1) (x - T.low).toNat T.low) ∧ Below w.heap.size w wr)
      case atStart => exact ⟨T.low, by omega, by omega, rfl, rfl, by simpa [rowF] using unhide HTab, unhide HBl⟩
      case round =>
        obtain ⟨x, hx1, hx2, hk2, rfl, hTab2, hbl2⟩ := hrel
        have hc2 := (hbl2.cell (p := ⟨g, 2, none⟩) l1).trans c2
        have hc3 := (hbl2.cell (p := ⟨g, 3, none⟩) l1).trans c3
        have hszr := hbl2.size
        have hsp := (unhide HT).good.span
        have HTab2 := hide hTab2
        have HB2 := hide hbl2
        have HK2 := hide hk2
        clear hTab2 hbl2 hk2
        by_cases hxh : x ≤ T.high
        · have hsn := rowF_snoc T.maps ((j : Int) + 1) (x - T.low).toNat T.low
          have hsx : T.low + ((x - T.low).toNat : Int) = x := by omega
          have hsy : (x + 1 - T.low).toNat = (x - T.low).toNat + 1 := by omega
          rw [hsx] at hsn
          cases hf : T.maps.find? (isP ((j : Int) + 1) x) with
          | none =>
            rw [hf, List.append_nil] at hsn
            have HSN := hide hsn
            have HSY := hide hsy
            have hl := ((unhide HT).new (unhide HB2)).lookP_none hf
            clear hsn hsx hsy hf
            go_wp2
            go_roundg (T.high + 1 - (x + 1)).toNat
            case measure => have := unhide HK2; omega
            case rel => exact ⟨x + 1, by omega, by omega, rfl, rfl, by rw [unhide HSY, unhide HSN]; exact unhide HTab2, unhide HB2⟩
          | some m =>
            rw [hf] at hsn
            obtain ⟨y, hy, rfl⟩ := (unhide HT).ofFind hf
            have HSN := hide hsn
            have HSY := hide hsy
            have hl := ((unhide HT).new (unhide HB2)).lookP_some hy hf
            have hok := (unhide HT).good.ok y.m (List.mem_of_find?_eq_some hf)
            have HTO := hide (told_any y.g y.sv y.m wr (((unhide HT).new (unhide HB2)).mem y hy).1 hok.2.2.2.2.1)
            obtain ⟨R, hR, hL, hP, hD⟩ := unhide HTab2
            have hrl := rowF_len T.maps ((j : Int) + 1) (x - T.low).toNat T.low
            have hnl : (upTo T j ++ rowF T.maps ((j : Int) + 1) (x - T.low).toNat T.low).length ≤ 192 := by
              rw [List.length_append]
              omega
            generalize hms : upTo T j ++ rowF T.maps ((j : Int) + 1) (x - T.low).toNat T.low = ms at *
            generalize hnn : ms.length = nn at *
            have HX := hide (And.intro hR (And.intro hL (And.intro hP (And.intro hms (And.intro hnn hD)))))
            clear hsn hsx hsy hf hy hok hR hL hP hrl hms hnn hD
            go_wp2_with fail
            refine (unhide HTO).mono ?_
            rintro e w1 ⟨sv', rfl, hsv, hb1⟩
            obtain ⟨ao, sl, sc, rfl⟩ := row_slice hsv
            have hs1 := hb1.size
            have HX1 := hide (And.intro hsv hb1)
            clear hsv hb1 HTO
            go_wp2_with (at_builtin; refine wpList_append_x _ rfl _ _ 43 rfl w.heap.size 52 i0 _ 7 72 Try.underlying43 (unhide HI).1 (unhide HI).2.1 (unhide HI).2.2.1 (unhide HI).2.2.2 rfl (by decide) _ nn (R.flatMap fun y => rowC y.1 y.2) rfl (row_keepB (unhide HX).2.1 (Nat.le_refl _) ((Fr.of_below (X := fun _ => False) (unhide HX1).2).alloc _) (fun _ _ _ f => f)) ⟨w1.heap.size, 0, none⟩ 1 1 (rowC y.m (.slice ao sl sc)) rfl rfl (World.news_of_block (by exact blkN w1 _ _ rfl)) (by simp [rowC, Value.oneCell']) (by omega) (by unfold maxLen; omega) (by omega) (by simp; omega) ?_; intro g2 cap2 w3 hO3 hG3; have HO3 := hide (And.intro hO3 hG3); clear hO3 hG3)
            go_roundg (T.high + 1 - (x + 1)).toNat
            case measure => have := unhide HK2; omega
            case rel =>
              obtain ⟨hR, hL, hP, hms, hnn, hD⟩ := unhide HX
              obtain ⟨hsv, hb1⟩ := unhide HX1
              obtain ⟨hO3, hG3⟩ := unhide HO3
              refine ⟨x + 1, by omega, by omega, rfl, rfl, ?_, ?_⟩
              · rw [unhide HSY, unhide HSN, ← List.append_assoc, hms]
                subst hnn
                exact TabD.snoc hR hL hP hD hszr hb1 hsv hO3 hG3
              · have hb' : Below w.heap.size w (w1.alloc (.cells (rowC y.m (.slice ao sl sc)).toArray 52)) := ((unhide HB2).trans (hb1.mono hszr)).alloc (by omega) _
                rcases hG3 with ⟨h5, h6⟩ | ⟨h5, h6⟩
                · exact hb'.grown h6 (by simp; omega) (fun k hk => by cases hk; exact (hL.lt _ h5).1)
                · exact hb'.grown h6 (by simp; omega) (fun k hk => by cases hk)
        · have hxe : x = T.high + 1 := by omega
          subst hxe
          go_wp2
          go_roundg (3 - (j + 1))
          case measure => have := unhide HK; omega
          case rel => exact ⟨j + 1, by omega, rfl, by go_num, by rw [upTo]; have := unhide HTab2; exact this, unhide HB2⟩
    · have hj3 : j = 3 := by omega
      subst hj3
      go_wp2
      go_ret
      have hT := unhide HTab
      rw [upTo_three] at hT
      exact ⟨_, rfl, hT, unhide HBl⟩


set_option maxHeartbeats 1000000 in
theorem Table_someD {w : World} {b r : Nat} {C : List BC} (h : BoxC w b r C) {x : BC} (hx : x ∈ C) :
    Calls Try.prog 19 #[.pointer (some ⟨b, 0, none⟩), .int .i64 x.tag] w fun e w' => ∃ lv, e = .returned (.tuple #[lv, .int .i64 0]) ∧ TabD w' w.heap.size lv (tableF x.T) ∧ Below w.heap.size w w' := by
  have hlook := h.look_some hx
  obtain ⟨l1, c0⟩ := h.cell
  have HT := hide (table_tenD (h.ten x hx).1)
  clear h hx
  go_enter Try.func19, Try.ntmps19
  go_wp2_with fail
  refine (unhide HT).mono ?_
  rintro e w1 ⟨lv, rfl, hT, hb⟩
  have HX := hide (And.intro hT hb)
  clear hT hb HT
  go_wp2
  go_ret2
  exact ⟨lv, rfl, (unhide HX).1, (unhide HX).2⟩

end Go.Proofs.Ytgpplekabohneaa

namespace Go.Proofs.Ytgpplekabohneaa
open Go.RowKit

theorem neg_wrap (c : Nat) (hc : c ≤ 1000000000) : IntKind.i64.wrap (-((c : Int) + 1)) = -((c : Int) + 1) := by rw [IntKind.wrap_i64]; omega

theorem room4 {a c k : Nat} (h : a ≤ 4 * c) (hc : c ≤ 900000000) (hk : k ≤ 4) : a + k + 1 ≤ maxLen ∧ (a + k + 1) * 24 ≤ 140737488355328 ∧ (a + k + 1) * 8 ≤ 140737488355328 := by
  unfold maxLen
  omega

theorem mkV_eq (c : Nat) : (Value.int .i64 (-((c : Int) + 1))) = mkV (c + 1) := by
  unfold mkV
  rw [show ((c + 1 : Nat) : Int) = (c : Int) + 1 from by omega]

set_option maxHeartbeats 4000000 in
set_option maxRecDepth 100000 in
theorem wints_any {w : World} {B : Nat} {col : Nat → Nat} {wb : Nat} {rv : Nat → Value} {ln : Nat → Nat} {xs : Nat → List Value} {c : Nat} (h : WR w B col wb rv ln xs c) (hc : c ≤ 900000000) (h4 : ln 4 ≤ 4 * c) (h5 : ln 5 ≤ 4 * c) {lv : Value} {n : Nat} {zs : List Value} (hO : w.ownsRow B 3 1 lv n zs) (hn : n ≤ 1000) (hfree : ∀ k, lv.ownBlock = some k → col k = 0) :
    Calls Try.prog 94 #[.pointer (some ⟨wb, 0, none⟩), lv] w fun e w' => e = .returned (.tuple #[]) ∧ IntsOut w B col wb ln xs (c + 1) lv w' := by
  obtain ⟨ao, cap, rfl, k1, k2, -⟩ := row1_cells hO
  obtain ⟨-, -, -, -, -, -, -, -, c10, fz⟩ := h.cells
  have f10 := fz 10
  obtain ⟨hwb, hBw⟩ := h.bound
  have HH := hide h
  have HO := hide hO
  have HFR := hide hfree
  have hzl : zs.length = n := by have := hO.1; omega
  have HZL := hide hzl
  have H4 := hide h4
  have H5 := hide h5
  have HC0 := hide hc
  have hcc : (c : Int) + 1 ≤ 1000000000 := by omega
  have hwrap := neg_wrap c (by omega)
  unfold maxLen at k2
  obtain ⟨i3, hi3, hy0, hy1, hy2⟩ := info_parts info3
  have HI3 := hide (And.intro hi3 (And.intro hy0 (And.intro hy1 hy2)))
  obtain ⟨i5, hi5, hz0, hz1, hz2⟩ := info_parts info50
  have HI5 := hide (And.intro hi5 (And.intro hz0 (And.intro hz1 hz2)))
  clear h hO hfree fz h4 h5 hc hi3 hy0 hy1 hy2 hi5 hz0 hz1 hz2 hzl
  go_enter Try.func94, Try.ntmps94
  go_wp2_with fail
  obtain ⟨hC, hTC⟩ := (unhide HH).count (c + 1)
  rw [show ((c + 1 : Nat) : Int) = (c : Int) + 1 from by omega] at hC hTC
  have hFC : Fr (fun k => col k ≠ 0 ∨ (Value.slice ao n cap).ownBlock = some k) w (w.setCell ⟨wb, 10, none⟩ (.int .i64 ((c : Int) + 1))) := (Fr.refl _ _).setCell _ (fun _ => .inl (by show col wb ≠ 0; rw [(unhide HH).cw]; decide))
  have hOC : (w.setCell ⟨wb, 10, none⟩ (.int .i64 ((c : Int) + 1))).ownsRow B 3 1 (.slice ao n cap) n zs := rowOfBlock (unhide HO) (fun k hk => Below.heap_setCell _ _ _ _ (fun e => by
    have h1 := unhide HFR k hk
    have e' : k = wb := e
    have h2 := (unhide HH).cw
    rw [e', h2] at h1
    cases h1))
  generalize w.setCell ⟨wb, 10, none⟩ (.int .i64 ((c : Int) + 1)) = w1 at *
  have H1 := hide (And.intro hC (And.intro hTC (And.intro hFC hOC)))
  clear hC hTC hFC hOC c10 f10
  go_loopg [4] n (fun k i wr => ∃ j : Nat, j ≤ n ∧ k = n - j ∧ i = .int .i64 j ∧ WR wr B col wb rv ln xs (c + 1) ∧ wr.ownsRow B 3 1 (.slice ao n cap) n (List.replicate j (mkV (c + 1)) ++ zs.drop j) ∧ Turn (fun x => x = 1) B w wr col col ∧ Fr (fun k => col k ≠ 0 ∨ (Value.slice ao n cap).ownBlock = some k) w wr)
  case atStart => exact ⟨0, Nat.zero_le _, by omega, rfl, (unhide H1).1, by simpa using (unhide H1).2.2.2, (unhide H1).2.1, (unhide H1).2.2.1⟩
  case round =>
    obtain ⟨j, hj, hk, rfl, hW, hOj, hTj, hFj⟩ := hrel
    obtain ⟨-, -, -, -, -, -, -, -, c10, fz⟩ := hW.cells
    rw [show ((c + 1 : Nat) : Int) = (c : Int) + 1 from by omega] at c10
    have hwr := hW.bound.1
    have HK := hide hk
    have HW := hide (And.intro hW (And.intro hOj (And.intro hTj hFj)))
    clear hk hTj hFj hW
    by_cases hlt : j < n
    · obtain ⟨ao', cap', hl, -, -, k3⟩ := row1_cells hOj
      simp only [Value.slice.injEq] at hl
      obtain ⟨rfl, -, rfl⟩ := hl
      obtain ⟨g, rfl, hg, hcell⟩ := k3 (by omega)
      obtain ⟨u, hu⟩ : ∃ u, (List.replicate j (mkV (c + 1)) ++ zs.drop j)[j]? = some u := ⟨_, List.getElem?_eq_getElem (by simp; have := unhide HZL; omega)⟩
      have cj := hcell j u hu
      have hgf : wr.frozen? ⟨g, j, none⟩ = false := by
        rcases hOj.2 with ⟨h1, _⟩ | ⟨b, cap', cur, h1, _, hb, _⟩
        · cases h1
        · simp only [Value.slice.injEq, Option.some.injEq, Addr.mk.injEq] at h1
          obtain ⟨⟨rfl, -, -⟩, -, -⟩ := h1
          simp [World.frozen?, hb]
      clear hcell hu hOj k3
      go_wp2_with fail
      go_roundg (n - (j + 1))
      case measure => have := unhide HK; omega
      case rel =>
        obtain ⟨hW, hOj, hTj, hFj⟩ := unhide HW
        have hgc : col g = 0 := unhide HFR g rfl
        have hFs : Fr (fun k => col k = 0) wr (wr.setCell ⟨g, j, none⟩ (.int .i64 (-((c : Int) + 1)))) := (Fr.refl _ _).setCell _ (fun _ => hgc)
        have hcb : ∀ k, col k ≠ 0 → k < wr.heap.size := fun k hk => (hW.cb k hk).2
        have hmk := mkV_eq c
        have hset := rowSet hOj j (.int .i64 (-((c : Int) + 1)))
        rw [hmk] at hset hFs ⊢
        rw [rep_set _ _ _ (by have := unhide HZL; omega)] at hset
        refine ⟨j + 1, by omega, rfl, by go_num, hW.turn (C := fun _ => False) (Turn.free hcb hFs) (fun _ _ _ f => f), hset, hTj.trans (Turn.free hcb hFs), hFj.trans' (X := fun k => col k ≠ 0 ∨ (Value.slice (some ⟨g, 0, none⟩) n cap).ownBlock = some k) (Y := fun k => k = g) ((Fr.refl _ _).setG) (fun k hk _ => .inr (by rw [hk]; rfl))⟩
    · have hjn : j = n := by omega
      have HS : Hid (IS w B col wb ln xs (c + 1) (.slice ao n cap) col rv 0 0 [] (.slice ao n cap) n wr) := by
        obtain ⟨hW, hOj, hTj, hFj⟩ := unhide HW
        rw [hjn, List.drop_of_length_le (by have := unhide HZL; omega), List.append_nil] at hOj
        refine ⟨?_, by simp, hOj, fun q hq => ⟨unhide HFR q hq, .inr hq⟩, hTj.mono (fun x hx => .inl hx), hFj, fun q _ h0 => h0⟩
        have e1 : up (up ln 4 (ln 4 + 0)) 5 (ln 5 + 0) = ln := by
          funext q
          unfold up
          split
          · rename_i e
            rw [e]
            rfl
          · split
            · rename_i e
              rw [e]
              rfl
            · rfl
        have e2 : up (up xs 4 (xs 4 ++ [])) 5 (xs 5 ++ List.replicate 0 (mkV (c + 1))) = xs := by
          funext q
          unfold up
          split
          · rename_i e
            rw [e]
            simp
          · split
            · rename_i e
              rw [e]
              simp
            · rfl
        rw [e1, e2]
        exact hW
      clear HW hOj hjn c10 fz
      go_wp2_with fail
      go_loopg [1, 5] 4 (fun z l i wx => ∃ k : Nat, k ≤ 4 ∧ z = 4 - k ∧ i = .int .i64 k ∧ ∃ col1 rv1 ws, ws.length = k ∧ IS w B col wb ln xs (c + 1) (.slice ao n cap) col1 rv1 k k ws l (n + k) wx)
      case atStart => exact ⟨0, by omega, rfl, rfl, col, rv, [], rfl, unhide HS⟩
      case round =>
        obtain ⟨k, hk4, hz, rfl, col1, rv1, ws, hws, hI⟩ := hrel
        obtain ⟨ra, rc, hrv4, -, -, -⟩ := row1_cells hI.row4.1
        obtain ⟨la, lc, rfl, -, -, -⟩ := row1_cells hI.own
        obtain ⟨-, -, c2, c3, -, -, -, -, c10, fz⟩ := hI.wl.cells
        rw [show ((c + 1 : Nat) : Int) = (c : Int) + 1 from by omega] at c10
        rw [hrv4] at c2
        have f2 := fz 2
        have hwbx := hI.wl.bound.1
        have hBx : B ≤ wr.heap.size := by have := hI.wl.bound; omega
        have HZ := hide hz
        have HI := hide hI
        have HR4 := hide hI.row4.2
        have HM4 := hide (hI.row4.1.alloc (.cells #[.slice la (n + k) lc] 50))
        have HWS := hide hws
        have HA4 := hide (room4 (unhide H4) (unhide HC0) hk4)
        have HA5 := hide (room4 (unhide H5) (unhide HC0) hk4)
        rw [hrv4] at HM4 HR4
        have HRV := hide hrv4
        have HAL : Hid (n + k + 1 ≤ maxLen ∧ (n + k + 1) * 8 ≤ 140737488355328 ∧ B ≤ w.heap.size) := by
          unfold maxLen
          exact ⟨by omega, by omega, by omega⟩
        clear hz hI hws HS fz c3 hrv4 hcc k1 k2 hn hj hlt hwr hwb hBw hwrap
        by_cases hk : k < 4
        · go_wp2_with
            ((at_builtin; refine wpList_append_x _ rfl _ _ 65 rfl B 50 i5 _ 1 24 Try.underlying65 (unhide HI5).1 (unhide HI5).2.1 (unhide HI5).2.2.1 (unhide HI5).2.2.2 rfl (by decide) (.slice ra (ln 4 + k) rc) (ln 4 + k) (xs 4 ++ ws) rfl (unhide HM4) ⟨wr.heap.size, 0, none⟩ 1 1 [.slice la (n + k) lc] rfl rfl (World.news_of_block (by exact blkN wr _ _ rfl)) (by simp [Value.oneCell']) (by omega) (unhide HA4).1 (unhide HA4).2.1 (by simp; omega) ?_; intro g5 cap5 w5 hown5 hgr5;
              have q5 : w5.heap[wb]? = wr.heap[wb]? := (kept_g hgr5 (by simp; omega) (unhide HR4)).trans (Below.heap_alloc wr _ wb hwbx);
              have c25 := (World.cell?_of_block (a := ⟨wb, 2, none⟩) q5).trans c2;
              have f25 := (World.frozen?_of_block (a := ⟨wb, 2, none⟩) q5).trans f2;
              have HO5 := hide hown5; have HG5 := hide hgr5; clear q5 hown5 hgr5))
          have hI6 := ((unhide HI).below ((Below.refl _ _).alloc (Nat.le_refl _) (.cells #[.slice la (n + k) lc] 50))).app4 (unhide HO5) (by rw [unhide HRV]; exact unhide HG5)
          clear c2 f2 c25 f25 HM4 HR4 HO5 HG5 HI HRV c10 hwbx hBx
          generalize w5.setCell ⟨wb, 2, none⟩ (.slice (some ⟨g5, 0, none⟩) (ln 4 + k + 1) cap5) = w6 at *
          generalize paint col1 g5 4 = col2 at *
          generalize up rv1 4 (.slice (some ⟨g5, 0, none⟩) (ln 4 + k + 1) cap5) = rv2 at *
          obtain ⟨ra5, rc5, hrv5, -, -, -⟩ := row1_cells hI6.row5.1
          obtain ⟨-, -, -, c3, -, -, -, -, c10, fz⟩ := hI6.wl.cells
          rw [show ((c + 1 : Nat) : Int) = (c : Int) + 1 from by omega] at c10
          rw [hrv5] at c3
          have f3 := fz 3
          have hwb6 := hI6.wl.bound.1
          have hB6 : B ≤ w6.heap.size := by have := hI6.wl.bound; omega
          have ca3 : ∀ X, (w6.alloc X).cell? ⟨wb, 3, none⟩ = some (.slice ra5 (ln 5 + k) rc5) := fun X => cellA c3
          have ca10 : ∀ X, (w6.alloc X).cell? ⟨wb, 10, none⟩ = some (.int .i64 ((c : Int) + 1)) := fun X => cellA c10
          have HR5 := hide hI6.row5.2
          have HM5 := hide (hI6.row5.1.alloc (.cells #[.int .i64 (-((c : Int) + 1))] 3))
          have HI6 := hide hI6
          rw [hrv5] at HR5 HM5
          have HRV5 := hide hrv5
          have hwrap := neg_wrap c (Nat.le_trans (unhide HC0) (by decide))
          clear fz hI6 hrv5
          go_region_law
            ((refine step_append_x _ (by rfl) _ _ _ (by rfl) B 3 i3 _ 1 8 Try.underlying50 (unhide HI3).1 (unhide HI3).2.1 (unhide HI3).2.2.1 (unhide HI3).2.2.2 rfl (by omega) (.slice ra5 (ln 5 + k) rc5) (ln 5 + k) _ (by rfl) (by exact unhide HM5) ⟨w6.heap.size, 0, none⟩ 1 1 [.int .i64 (-((c : Int) + 1))] (by rfl) (by rfl) (World.news_of_block (by exact blkN w6 _ _ rfl)) (by simp [Value.oneCell']) (by omega) (unhide HA5).1 (unhide HA5).2.2 (by simp; omega) ?_; intro g7 cap7 w7 hown7 hgr7;
              have q7 : w7.heap[wb]? = w6.heap[wb]? := (kept_g hgr7 (by simp; omega) (unhide HR5)).trans (Below.heap_alloc w6 _ wb hwb6);
              have c37 := (World.cell?_of_block (a := ⟨wb, 3, none⟩) q7).trans c3;
              have f37 := (World.frozen?_of_block (a := ⟨wb, 3, none⟩) q7).trans f3;
              have HO7 := hide hown7; have HG7 := hide hgr7; clear q7 hown7 hgr7))
          all_goals
            have hO7 := unhide HO7
            rw [mkV_eq] at hO7
            have hI8 := ((unhide HI6).below (((Below.refl _ _).alloc (Nat.le_refl _) (.cells #[.int .i64 (-((c : Int) + 1))] 3)).drew)).app5 hO7 (by rw [unhide HRV5]; exact unhide HG7)
            clear c3 f3 c37 f37 HM5 HR5 HO7 HG7 HI6 HRV5 c10 hwb6 hB6 ca3 ca10 hO7
            generalize w7.setCell ⟨wb, 3, none⟩ (.slice (some ⟨g7, 0, none⟩) (ln 5 + k + 1) cap7) = w8 at *
            generalize paint col2 g7 5 = col3 at *
            generalize up rv2 5 (.slice (some ⟨g7, 0, none⟩) (ln 5 + k + 1) cap7) = rv3 at *
            obtain ⟨-, -, -, -, -, -, -, -, c10, -⟩ := hI8.wl.cells
            rw [show ((c + 1 : Nat) : Int) = (c : Int) + 1 from by omega] at c10
            have hB8 : B ≤ w8.heap.size := by have := hI8.wl.bound; omega
            have HM8 := hide (hI8.own.alloc (.cells #[.int .i64 (-((c : Int) + 1))] 3))
            have HI8 := hide hI8
            have hs8 := hI8.turn.size
            clear hI8
            go_upto_region 7 with
              ((at_builtin; refine wpList_append_x _ rfl _ _ 50 rfl B 3 i3 _ 1 8 Try.underlying50 (unhide HI3).1 (unhide HI3).2.1 (unhide HI3).2.2.1 (unhide HI3).2.2.2 rfl (by decide) (.slice la (n + k) lc) (n + k) _ rfl (unhide HM8) ⟨w8.heap.size, 0, none⟩ 1 1 [.int .i64 (-((c : Int) + 1))] rfl rfl (World.news_of_block (by exact blkN w8 _ _ rfl)) (by simp [Value.oneCell']) (by omega) (unhide HAL).1 (unhide HAL).2.1 (by simp; omega) ?_; intro g9 cap9 w9 hown9 hgr9;
                have HO9 := hide hown9; have HG9 := hide hgr9; clear hown9 hgr9))
            clear hwrap
            go_wp2_with fail
            go_roundg (4 - (k + 1))
            case measure => have := unhide HZ; omega
            case rel =>
              have hO9 := unhide HO9
              rw [mkV_eq] at hO9
              exact ⟨k + 1, by omega, rfl, by go_num, col3, rv3, ws ++ [.slice la (n + k) lc], by rw [List.length_append, unhide HWS]; rfl, ((unhide HI8).below ((Below.refl _ _).alloc (Nat.le_refl _) (.cells #[.int .i64 (-((c : Int) + 1))] 3))).grow hO9 (unhide HG9) (by simp; omega)⟩
        · have hke : k = 4 := by omega
          have HID : Hid (IntsOut w B col wb ln xs (c + 1) (.slice ao n cap) wr) := by
            have h1 := unhide HI
            subst hke
            exact h1.done (unhide HWS) (unhide HAL).2.2 (fun q hq => ((unhide HO).lt q hq).1)
          clear HI HWS HM4 HR4 HRV hke c2 f2 c10
          go_wp2_with fail
          go_end0
          exact ⟨rfl, unhide HID⟩

end Go.Proofs.Ytgpplekabohneaa

namespace Go.Proofs.Ytgpplekabohneaa
open Go.RowKit

def ckV (c : Nat) : Value := .int .i64 c

/-- n mappings, each with the mark c -/
def marksM (c : Nat) : Nat → List Value
  | 0 => []
  | n + 1 => marksM c n ++ markC c

theorem marksM_length (c n : Nat) : (marksM c n).length = n * 7 := by
  induction n with
  | zero => rfl
  | succ n ih => simp [marksM, ih, markC]; omega

theorem marksM_at (c : Nat) : ∀ (n i o : Nat) (v : Value), i < n → (markC c)[o]? = some v → (marksM c n)[i * 7 + o]? = some v
  | n + 1, i, o, v, hi, hv => by
    have ho : o < 7 := by
      have := (List.getElem?_eq_some_iff.1 hv).1
      simpa [markC] using this
    by_cases h : i < n
    · rw [marksM, List.getElem?_append_left (by rw [marksM_length]; omega)]
      exact marksM_at c n i o v h hv
    · have e : i = n := by omega
      subst e
      rw [marksM, List.getElem?_append_right (by rw [marksM_length]; omega), marksM_length]
      rw [show i * 7 + o - i * 7 = o by omega]
      exact hv

/-- a row, its cells -/
theorem rowN_cells {w : World} {base e sz n : Nat} {v : Value} {xs : List Value} (h : w.ownsRow base e sz v n xs) :
    ∃ ao cap, v = .slice ao n cap ∧ n ≤ cap ∧ cap ≤ maxLen ∧ (0 < n → ∃ g, ao = some ⟨g, 0, none⟩ ∧ g < w.heap.size ∧ ∀ (j : Nat) (u : Value), xs[j]? = some u → w.cell? ⟨g, j, none⟩ = some u) := by
  rcases h.2 with ⟨h1, h0⟩ | ⟨g, cap, cur, rfl, hbg, hg, hnc, hcm, hcs, htake⟩
  · exact ⟨none, 0, by rw [h1, h0], by omega, by unfold maxLen; omega, fun h => absurd h (by omega)⟩
  · refine ⟨_, cap, rfl, hnc, hcm, fun _ => ⟨g, rfl, (Array.getElem?_eq_some_iff.1 hg).1, fun j u hu => ?_⟩⟩
    have := h.cells (g := g) rfl j u hu
    rwa [Go.WideShapes.add_plain, Nat.zero_add] at this

theorem markM_row {w : World} {B : Nat} {T : Nat → Prop} {l : Value} {n a : Nat} (h : w.ownsRow B 52 7 l n (marksM a n)) (hT : ∀ k, l.ownBlock = some k → T k) : MarkM w T l a ∧ lenV l = n := by
  obtain ⟨ao, cap, rfl, h1, h2, h3⟩ := rowN_cells h
  refine ⟨⟨ao, n, cap, rfl, h1, h2, fun h0 => ?_⟩, rfl⟩
  obtain ⟨g, rfl, hg, hc⟩ := h3 h0
  exact ⟨g, rfl, hg, hT g rfl, fun i o u hi hu => hc _ _ (marksM_at a n i o u hi hu)⟩

/-- a list that shares its block with one that grows keeps its marks -/
theorem markM_app {W w9 : World} {B : Nat} {T : Nat → Prop} {l l' v : Value} {N a g cap : Nat} (hl : l' = .slice (some ⟨g, 0, none⟩) (N + 1) cap) (hnew : w9.ownsRow B 52 7 l' (N + 1) (marksM a (N + 1)))
    (hgr : (l.ownBlock = some g ∧ W.grownBy w9 (some g)) ∨ (g = W.heap.size ∧ W.grownBy w9 none)) (h : MarkM W T v a) (hlen : lenV v ≤ N) : MarkM w9 T v a := by
  obtain ⟨ao, n, c, rfl, h1, h2, h3⟩ := h
  have hn : n ≤ N := hlen
  refine ⟨ao, n, c, rfl, h1, h2, fun h0 => ?_⟩
  obtain ⟨b, rfl, hb, ht, hc⟩ := h3 h0
  refine ⟨b, rfl, Nat.lt_of_lt_of_le hb (size_g hgr), ht, fun i o u hi hu => ?_⟩
  by_cases e : l.ownBlock = some b
  · rcases hgr with ⟨h5, _⟩ | ⟨_, h6⟩
    · have hgb : g = b := by rw [h5] at e; exact Option.some.inj e
      subst hgb
      obtain ⟨ao', cap', hl', _, _, k3⟩ := rowN_cells hnew
      obtain ⟨g', e', _, k4⟩ := k3 (by omega)
      rw [hl] at hl'
      simp only [Value.slice.injEq] at hl'
      rw [e'] at hl'
      have : g = g' := by
        have := hl'.1
        simpa using this
      subst this
      exact k4 _ _ (marksM_at a (N + 1) i o u (by omega) hu)
    · exact (World.cell?_of_block (a := ⟨b, i * 7 + o, none⟩) (h6.block b hb (fun e => by cases e))).trans (hc i o u hi hu)
  · exact (World.cell?_of_block (a := ⟨b, i * 7 + o, none⟩) (kept_g hgr hb e)).trans (hc i o u hi hu)

theorem info43 : (Try.prog.info? 43).map (fun i => (i.zero, i.size, i.bytes)) = some (some (.slice none 0 0), 1, 24) := by kernel_rfl

theorem ups6 {α : Type} (f : Nat → α) (a b a' : α) : up (up (up f 6 a) 7 b) 6 a' = up (up f 6 a') 7 b := by
  funext j
  unfold up
  by_cases e4 : j = 6
  · subst e4
    simp
  · simp [e4]

theorem ups7 {α : Type} (f : Nat → α) (a b b' : α) : up (up (up f 6 a) 7 b) 7 b' = up (up f 6 a) 7 b' := by
  funext j
  unfold up
  by_cases e5 : j = 7
  · subst e5
    simp
  · simp [e5]

section
variable {w W wr w5 w9 : World} {B : Nat} {col col1 : Nat → Nat} {wb : Nat} {rv rv1 : Nat → Value} {ln : Nat → Nat} {xs : Nat → List Value} {c : Nat} {lv l : Value} {k4 k5 N : Nat} {ws : List Value}

/-- inside 'table': k4 lists, k5 marks more than at its start; the list l, of N marks -/
structure MS (w : World) (B : Nat) (col : Nat → Nat) (wb : Nat) (ln : Nat → Nat) (xs : Nat → List Value) (c : Nat) (lv : Value) (col1 : Nat → Nat) (rv1 : Nat → Value) (k4 k5 : Nat) (ws : List Value) (l : Value) (N : Nat) (wr : World) : Prop where
  wl : WR wr B col1 wb rv1 (up (up ln 6 (ln 6 + k4)) 7 (ln 7 + k5)) (up (up xs 6 (xs 6 ++ ws)) 7 (xs 7 ++ List.replicate k5 (ckV c))) c
  marks : ∀ v ∈ ws, MarkM wr (fun q => col1 q = 0 ∧ B ≤ q ∧ (w.heap.size ≤ q ∨ lv.ownBlock = some q)) v c ∧ lenV v ≤ N
  own : wr.ownsRow B 52 7 l N (marksM c N)
  free : ∀ q, l.ownBlock = some q → col1 q = 0 ∧ (w.heap.size ≤ q ∨ lv.ownBlock = some q)
  turn : Turn (fun x => x = 1 ∨ x = 6 ∨ x = 7) B w wr col col1
  fr : Fr (fun k => col k ≠ 0 ∨ lv.ownBlock = some k) w wr
  zero : ∀ q, q < w.heap.size → col q = 0 → col1 q = 0

theorem MS.cb (h : MS w B col wb ln xs c lv col1 rv1 k4 k5 ws l N wr) : ∀ k, col1 k ≠ 0 → k < wr.heap.size := fun k hk => (h.wl.cb k hk).2

/-- new blocks alone -/
theorem MS.below (h : MS w B col wb ln xs c lv col1 rv1 k4 k5 ws l N wr) (hb : Below wr.heap.size wr W) : MS w B col wb ln xs c lv col1 rv1 k4 k5 ws l N W where
  wl := h.wl.turn (C := fun _ => False) (Turn.free h.cb (Fr.of_below hb)) (fun _ _ _ f => f)
  marks := fun v hv => ⟨(h.marks v hv).1.keep hb.size (fun k hk hl => ⟨hk, hb.block k hl⟩), (h.marks v hv).2⟩
  own := rowOfBlock h.own (fun k hk => hb.block k (h.own.lt k hk).2)
  free := h.free
  turn := h.turn.trans (Turn.free h.cb (Fr.of_below hb))
  fr := h.fr.trans' (Fr.of_below (X := fun _ => False) hb) (fun _ f _ => f.elim)
  zero := h.zero

theorem MS.painted (h : MS w B col wb ln xs c lv col1 rv1 k4 k5 ws l N W) {i g : Nat} (hi : 2 ≤ i) (hi2 : i ≤ 7) (hgr : ((rv1 i).ownBlock = some g ∧ W.grownBy w5 (some g)) ∨ (g = W.heap.size ∧ W.grownBy w5 none)) : ∀ q, q < W.heap.size → col1 q = 0 → paint col1 g i q = 0 := fun q hq h0 => by
  have hrow := h.wl.rows i hi hi2
  unfold paint
  rw [if_neg, h0]
  intro e
  rcases hgr with ⟨h1, _⟩ | ⟨h1, _⟩
  · have := hrow.2 g h1
    rw [← e, h0] at this
    omega
  · omega

/-- what all appends to a row of the world share -/
theorem MS.stay (h : MS w B col wb ln xs c lv col1 rv1 k4 k5 ws l N W) {i g n cap o : Nat} (hi : 2 ≤ i) (hi2 : i ≤ 7) (hgr : ((rv1 i).ownBlock = some g ∧ W.grownBy w5 (some g)) ∨ (g = W.heap.size ∧ W.grownBy w5 none))
    (hF : Fr (fun k => col1 k ≠ 0) W (w5.setCell ⟨wb, o, none⟩ (.slice (some ⟨g, 0, none⟩) n cap))) :
    (∀ v, MarkM W (fun q => col1 q = 0 ∧ B ≤ q ∧ (w.heap.size ≤ q ∨ lv.ownBlock = some q)) v c → MarkM (w5.setCell ⟨wb, o, none⟩ (.slice (some ⟨g, 0, none⟩) n cap)) (fun q => paint col1 g i q = 0 ∧ B ≤ q ∧ (w.heap.size ≤ q ∨ lv.ownBlock = some q)) v c) ∧
    (w5.setCell ⟨wb, o, none⟩ (.slice (some ⟨g, 0, none⟩) n cap)).ownsRow B 52 7 l N (marksM c N) ∧
    (∀ q, l.ownBlock = some q → paint col1 g i q = 0 ∧ (w.heap.size ≤ q ∨ lv.ownBlock = some q)) ∧
    Fr (fun k => col k ≠ 0 ∨ lv.ownBlock = some k) w (w5.setCell ⟨wb, o, none⟩ (.slice (some ⟨g, 0, none⟩) n cap)) ∧
    (∀ q, q < w.heap.size → col q = 0 → paint col1 g i q = 0) := by
  have hp := h.painted (w5 := w5) hi hi2 hgr
  refine ⟨fun v hv => hv.keep hF.size (fun k hk hl => ⟨⟨hp k hl hk.1, hk.2⟩, hF.block k hl (fun hn => hn hk.1)⟩), rowOfBlock h.own (fun k hk => hF.block k (h.own.lt k hk).2 (fun hn => hn (h.free k hk).1)), fun q hq => ⟨hp q (h.own.lt q hq).2 (h.free q hq).1, (h.free q hq).2⟩, h.fr.trans' hF (fun k hk hl => ?_), fun q hq h0 => hp q (Nat.lt_of_lt_of_le hq h.turn.size) (h.zero q hq h0)⟩
  refine .inl (fun h0 => hk (h.zero k hl h0))

theorem MS.app4 (h : MS w B col wb ln xs c lv col1 rv1 k4 k5 ws l N W) {g cap : Nat} (hown : w5.ownsRow B 43 1 (.slice (some ⟨g, 0, none⟩) (ln 6 + k4 + 1) cap) (ln 6 + k4 + 1) (xs 6 ++ ws ++ [l])) (hgr : ((rv1 6).ownBlock = some g ∧ W.grownBy w5 (some g)) ∨ (g = W.heap.size ∧ W.grownBy w5 none)) :
    MS w B col wb ln xs c lv (paint col1 g 6) (up rv1 6 (.slice (some ⟨g, 0, none⟩) (ln 6 + k4 + 1) cap)) (k4 + 1) k5 (ws ++ [l]) l N (w5.setCell ⟨wb, 4, none⟩ (.slice (some ⟨g, 0, none⟩) (ln 6 + k4 + 1) cap)) := by
  have hx : (up (up xs 6 (xs 6 ++ ws)) 7 (xs 7 ++ List.replicate k5 (ckV c))) 6 = xs 6 ++ ws := by simp [up]
  obtain ⟨hW, hT, hF⟩ := h.wl.app (i := 6) (by omega) (by omega) (g := g) (n := ln 6 + k4 + 1) (cap := cap) (news := [l]) (by rw [hx]; exact hown) hgr (o := 4) rfl
  rw [hx, ups6, ups6, List.append_assoc] at hW
  obtain ⟨s1, s2, s3, s4, s5⟩ := h.stay (i := 6) (by omega) (by omega) hgr hF
  refine ⟨hW, fun v hv => ?_, s2, s3, h.turn.trans (hT.mono (fun x hx => hx.elim (fun e => .inl e) (fun e => .inr (.inl e)))), s4, s5⟩
  rcases List.mem_append.1 hv with hv | hv
  · exact ⟨s1 v (h.marks v hv).1, (h.marks v hv).2⟩
  · have e : v = l := by simpa using hv
    subst e
    have hm := markM_row h.own (T := fun q => col1 q = 0 ∧ B ≤ q ∧ (w.heap.size ≤ q ∨ lv.ownBlock = some q)) (fun k hk => ⟨(h.free k hk).1, (h.own.lt k hk).1, (h.free k hk).2⟩)
    exact ⟨s1 _ hm.1, Nat.le_of_eq hm.2⟩

theorem MS.app5 (h : MS w B col wb ln xs c lv col1 rv1 k4 k5 ws l N W) {g cap : Nat} (hown : w5.ownsRow B 3 1 (.slice (some ⟨g, 0, none⟩) (ln 7 + k5 + 1) cap) (ln 7 + k5 + 1) (xs 7 ++ List.replicate k5 (ckV c) ++ [ckV c])) (hgr : ((rv1 7).ownBlock = some g ∧ W.grownBy w5 (some g)) ∨ (g = W.heap.size ∧ W.grownBy w5 none)) :
    MS w B col wb ln xs c lv (paint col1 g 7) (up rv1 7 (.slice (some ⟨g, 0, none⟩) (ln 7 + k5 + 1) cap)) k4 (k5 + 1) ws l N (w5.setCell ⟨wb, 5, none⟩ (.slice (some ⟨g, 0, none⟩) (ln 7 + k5 + 1) cap)) := by
  have hx : (up (up xs 6 (xs 6 ++ ws)) 7 (xs 7 ++ List.replicate k5 (ckV c))) 7 = xs 7 ++ List.replicate k5 (ckV c) := by simp [up]
  obtain ⟨hW, hT, hF⟩ := h.wl.app (i := 7) (by omega) (by omega) (g := g) (n := ln 7 + k5 + 1) (cap := cap) (news := [ckV c]) (by rw [hx]; exact hown) hgr (o := 5) rfl
  rw [hx, ups7, ups7, List.append_assoc, ← List.replicate_succ'] at hW
  obtain ⟨s1, s2, s3, s4, s5⟩ := h.stay (i := 7) (by omega) (by omega) hgr hF
  exact ⟨hW, fun v hv => ⟨s1 v (h.marks v hv).1, (h.marks v hv).2⟩, s2, s3, h.turn.trans (hT.mono (fun x hx => hx.elim (fun e => .inl e) (fun e => .inr (.inr e)))), s4, s5⟩

/-- the list itself grows -/
theorem MS.grow (h : MS w B col wb ln xs c lv col1 rv1 k4 k5 ws l N W) {g cap : Nat} (hown : w9.ownsRow B 52 7 (.slice (some ⟨g, 0, none⟩) (N + 1) cap) (N + 1) (marksM c N ++ markC c)) (hgr : (l.ownBlock = some g ∧ W.grownBy w9 (some g)) ∨ (g = W.heap.size ∧ W.grownBy w9 none)) (hsz : w.heap.size ≤ W.heap.size) :
    MS w B col wb ln xs c lv col1 rv1 k4 k5 ws (.slice (some ⟨g, 0, none⟩) (N + 1) cap) (N + 1) w9 := by
  rw [← marksM] at hown
  have hF0 := fr_g hgr
  have hF : Fr (fun k => col1 k = 0) W w9 := hF0.mono (fun k hk _ => (h.free k hk).1)
  refine ⟨h.wl.turn (C := fun _ => False) (Turn.free h.cb hF) (fun _ _ _ f => f), fun v hv => ⟨?_, Nat.le_succ_of_le (h.marks v hv).2⟩, hown, fun q hq => ?_, h.turn.trans (Turn.free h.cb hF), h.fr.trans' hF0 (fun k hk hl => ?_), h.zero⟩
  · exact markM_app rfl hown hgr (h.marks v hv).1 (h.marks v hv).2
  · have e : g = q := by simpa [Value.ownBlock] using hq
    subst e
    rcases hgr with ⟨h1, _⟩ | ⟨h1, _⟩
    · exact h.free g h1
    · refine ⟨?_, .inl (by omega)⟩
      by_cases e0 : col1 g = 0
      · exact e0
      · have := h.cb g e0
        omega
  · rcases (h.free k hk).2 with h1 | h1
    · omega
    · exact .inr h1

theorem MS.row4 (h : MS w B col wb ln xs c lv col1 rv1 k4 k5 ws l N W) : W.ownsRow B 43 1 (rv1 6) (ln 6 + k4) (xs 6 ++ ws) ∧ (rv1 6).ownBlock ≠ some wb := by
  have h1 := h.wl.rows 6 (by omega) (by omega)
  refine ⟨by have := h1.1; simpa [ety, esz, up] using this, fun e => ?_⟩
  have h2 := h1.2 wb e
  rw [h.wl.cw] at h2
  omega

theorem MS.row5 (h : MS w B col wb ln xs c lv col1 rv1 k4 k5 ws l N W) : W.ownsRow B 3 1 (rv1 7) (ln 7 + k5) (xs 7 ++ List.replicate k5 (ckV c)) ∧ (rv1 7).ownBlock ≠ some wb := by
  have h1 := h.wl.rows 7 (by omega) (by omega)
  refine ⟨by have := h1.1; simpa [ety, esz, up] using this, fun e => ?_⟩
  have h2 := h1.2 wb e
  rw [h.wl.cw] at h2
  omega

/-- what 'table' leaves -/
def TabsOut (w : World) (B : Nat) (col : Nat → Nat) (wb : Nat) (ln : Nat → Nat) (xs : Nat → List Value) (c : Nat) (lv : Value) (w' : World) : Prop :=
  ∃ col' rv' ws, ws.length = 4 ∧ WR w' B col' wb rv' (up (up ln 6 (ln 6 + 4)) 7 (ln 7 + 4)) (up (up xs 6 (xs 6 ++ ws)) 7 (xs 7 ++ List.replicate 4 (ckV c))) c ∧ (∀ v ∈ ws, MarkM w' (fun k => col' k = 8) v c) ∧ Turn (fun x => x = 1 ∨ x = 6 ∨ x = 7) B w w' col col' ∧ Fr (fun k => col k ≠ 0 ∨ lv.ownBlock = some k) w w' ∧ ∀ q, q < w.heap.size → col q = 0 → lv.ownBlock ≠ some q → col' q = 0

theorem MS.done (h : MS w B col wb ln xs c lv col1 rv1 4 4 ws l N wr) (hws : ws.length = 4) (hB : B ≤ w.heap.size) (hlv : ∀ q, lv.ownBlock = some q → B ≤ q) : TabsOut w B col wb ln xs c lv wr := by
  have hT : Turn (fun x => x = 1 ∨ x = 6 ∨ x = 7) B wr wr col1 (fun q => if col1 q = 0 ∧ (w.heap.size ≤ q ∨ lv.ownBlock = some q) ∧ q < wr.heap.size then 8 else col1 q) := by
    refine Turn.paint h.cb (fun k hk => by rw [if_neg (fun e => hk e.1)]) (fun k hk h0 => ?_)
    by_cases e : col1 k = 0 ∧ (w.heap.size ≤ k ∨ lv.ownBlock = some k) ∧ k < wr.heap.size
    · refine ⟨?_, e.2.2⟩
      rcases e.2.1 with h1 | h1
      · omega
      · exact hlv k h1
    · rw [if_neg e] at hk
      exact absurd h0 hk
  refine ⟨_, rv1, ws, hws, h.wl.turn (C := fun _ => False) ?_ (fun _ _ _ f => f), fun v hv => (h.marks v hv).1.keep (Nat.le_refl _) (fun k hk hl => ⟨if_pos ⟨hk.1, hk.2.2, hl⟩, rfl⟩), h.turn.trans hT, h.fr, fun q hq h0 hn => ?_⟩
  · exact ⟨hT.size, fun _ _ _ _ => rfl, hT.old, hT.new⟩
  · rw [if_neg (fun e => by
      rcases e.2.1 with h1 | h1
      · omega
      · exact hn h1)]
    exact h.zero q hq h0

end

end Go.Proofs.Ytgpplekabohneaa

namespace Go.Proofs.Ytgpplekabohneaa
open Go.RowKit

section
variable {w wr w' : World} {B : Nat} {col col1 : Nat → Nat} {wb : Nat} {rv1 : Nat → Value} {ln : Nat → Nat} {xs : Nat → List Value} {c j : Nat} {lv : Value} {R : List (Mp × Value)} {nl : List (Value × Nat)}

/-- ahead of the list of peers of row j -/
structure TS (w : World) (B : Nat) (col : Nat → Nat) (wb : Nat) (ln : Nat → Nat) (xs : Nat → List Value) (c : Nat) (lv : Value) (R : List (Mp × Value)) (col1 : Nat → Nat) (rv1 : Nat → Value) (nl : List (Value × Nat)) (j : Nat) (wr : World) : Prop where
  wl : WR wr B col1 wb rv1 (up (up ln 4 (ln 4 + nl.length)) 5 (ln 5 + nl.length)) (up (up xs 4 (xs 4 ++ nl.map (·.1))) 5 (xs 5 ++ nl.map (fun p => mkV p.2))) (c + j)
  marks : ∀ p ∈ nl, MarkN wr (fun k => col1 k = 8) p.1 p.2 ∧ p.2 ≤ c + j
  row : wr.ownsRow B 52 7 lv R.length (R.flatMap fun y => rowC y.1 y.2)
  rfree : ∀ k, lv.ownBlock = some k → col1 k = 0
  peers : ∀ i (h : i < R.length), j ≤ i → wr.ownsRow B 3 1 R[i].2 R[i].1.peers.length (intsV R[i].1.peers) ∧ ∀ k, R[i].2.ownBlock = some k → col1 k = 0
  turn : Turn (fun x => x = 1 ∨ x = 4 ∨ x = 5) B w wr col col1
  fr : Fr (fun k => col k ≠ 0 ∨ ∃ y ∈ R, y.2.ownBlock = some k) w wr
  zero : ∀ q, q < w.heap.size → col q = 0 → (∀ y ∈ R, y.2.ownBlock ≠ some q) → col1 q = 0
  len : nl.length = 4 * j

theorem TS.step (hD : R.Pairwise fun y z => ∀ k, y.2.ownBlock = some k → z.2.ownBlock ≠ some k) (h : TS w B col wb ln xs c lv R col1 rv1 nl j wr) (hj : j < R.length)
    (hI : IntsOut wr B col1 wb (up (up ln 4 (ln 4 + nl.length)) 5 (ln 5 + nl.length)) (up (up xs 4 (xs 4 ++ nl.map (·.1))) 5 (xs 5 ++ nl.map (fun p => mkV p.2))) (c + j + 1) R[j].2 w') :
    ∃ col2 rv2 nl2, TS w B col wb ln xs c lv R col2 rv2 nl2 (j + 1) w' := by
  obtain ⟨col2, rv2, ws, hws, hW, hM, hT, hF, hz⟩ := hI
  have e1 : up (up (up (up ln 4 (ln 4 + nl.length)) 5 (ln 5 + nl.length)) 4 (up (up ln 4 (ln 4 + nl.length)) 5 (ln 5 + nl.length) 4 + 4)) 5 (up (up ln 4 (ln 4 + nl.length)) 5 (ln 5 + nl.length) 5 + 4) = up (up ln 4 (ln 4 + (nl ++ ws.map fun v => (v, c + j + 1)).length)) 5 (ln 5 + (nl ++ ws.map fun v => (v, c + j + 1)).length) := by
    rw [ups4, ups5, List.length_append, List.length_map, hws]
    simp [up, Nat.add_assoc]
  have e2 : up (up (up (up xs 4 (xs 4 ++ nl.map (·.1))) 5 (xs 5 ++ nl.map (fun p => mkV p.2))) 4 (up (up xs 4 (xs 4 ++ nl.map (·.1))) 5 (xs 5 ++ nl.map (fun p => mkV p.2)) 4 ++ ws)) 5 (up (up xs 4 (xs 4 ++ nl.map (·.1))) 5 (xs 5 ++ nl.map (fun p => mkV p.2)) 5 ++ List.replicate 4 (mkV (c + j + 1))) = up (up xs 4 (xs 4 ++ (nl ++ ws.map fun v => (v, c + j + 1)).map (·.1))) 5 (xs 5 ++ (nl ++ ws.map fun v => (v, c + j + 1)).map (fun p => mkV p.2)) := by
    rw [ups4, ups5]
    have a1 : (ws.map fun v => (v, c + j + 1)).map (·.1) = ws := by
      rw [List.map_map]
      exact List.map_id _
    have a2 : (ws.map fun v => (v, c + j + 1)).map (fun p : Value × Nat => mkV p.2) = List.replicate 4 (mkV (c + j + 1)) := by
      rw [List.map_map, ← hws]
      show ws.map (fun _ => mkV (c + j + 1)) = _
      exact List.map_const' ..
    rw [List.map_append, List.map_append, a1, a2]
    simp [up, List.append_assoc]
  rw [e1, e2] at hW
  have hkeep : ∀ k, k < wr.heap.size → col1 k = 0 → R[j].2.ownBlock ≠ some k → w'.heap[k]? = wr.heap[k]? := fun k hk h0 hn => hF.block k hk (fun e => e.elim (fun e => e h0) hn)
  have hpj := h.peers j hj (Nat.le_refl _)
  refine ⟨col2, rv2, nl ++ ws.map fun v => (v, c + j + 1), hW, fun p hp => ?_, ?_, fun k hk => ?_, fun i hi hji => ?_, h.turn.trans hT, h.fr.trans' hF (fun k hk hl => ?_), fun q hq h0 hn => ?_, by rw [List.length_append, List.length_map, h.len, hws]; omega⟩
  · rcases List.mem_append.1 hp with hp | hp
    · exact ⟨(h.marks p hp).1.keep hT.size (hT.at (by decide) (by omega)), Nat.le_trans (h.marks p hp).2 (by omega)⟩
    · obtain ⟨v, hv, rfl⟩ := List.mem_map.1 hp
      exact ⟨hM v hv, Nat.le_refl _⟩
  · exact rowOfBlock h.row (fun k hk => hkeep k (h.row.lt k hk).2 (h.rfree k hk) (row_kind h.row hpj.1 (by decide) hk))
  · exact hz k (h.row.lt k hk).2 (h.rfree k hk) (row_kind h.row hpj.1 (by decide) hk)
  · have hpi := h.peers i hi (by omega)
    have hd : ∀ k, R[i].2.ownBlock = some k → R[j].2.ownBlock ≠ some k := fun k hk hk' => List.pairwise_iff_getElem.1 hD j i hj hi (by omega) k hk' hk
    exact ⟨rowOfBlock hpi.1 (fun k hk => hkeep k (hpi.1.lt k hk).2 (hpi.2 k hk) (hd k hk)), fun k hk => hz k (hpi.1.lt k hk).2 (hpi.2 k hk) (hd k hk)⟩
  · rcases hk with hk | hk
    · by_cases e : ∃ y ∈ R, y.2.ownBlock = some k
      · exact .inr e
      · refine .inl (fun h0 => hk (h.zero k hl h0 (fun y hy e' => e ⟨y, hy, e'⟩)))
    · exact .inr ⟨R[j], List.getElem_mem _, hk⟩
  · exact hz q (Nat.lt_of_lt_of_le hq h.turn.size) (h.zero q hq h0 hn) (hn _ (List.getElem_mem _))

end

end Go.Proofs.Ytgpplekabohneaa
