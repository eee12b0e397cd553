/- 'table' of the statement: its walk. -/
import Derived.Test.YtgpplekabohneaaXd
import Derived.Deep.RegionHeld3
import Derived.Deep.CutRange
import Derived.Deep.CutBlock
namespace Go.Proofs.Ytgpplekabohneaa
open Go.RowKit

theorem flat_at (R : List (Mp × Value)) : ∀ (j o : Nat) (hj : j < R.length), o < 7 → (R.flatMap fun y => rowC y.1 y.2)[j * 7 + o]? = (rowC R[j].1 R[j].2)[o]? := by
  induction R with
  | nil => intro j o hj; cases hj
  | cons y r ih =>
    intro j o hj ho
    rw [List.flatMap_cons]
    have hl : (rowC y.1 y.2).length = 7 := rfl
    cases j with
    | zero =>
      rw [Nat.zero_mul, Nat.zero_add, List.getElem?_append_left (by rw [hl]; exact ho)]
      rfl
    | succ j =>
      rw [List.getElem?_append_right (by rw [hl]; omega), hl, show (j + 1) * 7 + o - 7 = j * 7 + o by omega]
      exact ih j o (by simpa using hj) ho

/-- seven cells of a list written over -/
theorem set7 (A : List Value) (d0 d1 d2 d3 d4 d5 d6 : Value) (D : List Value) (u0 u1 u2 u3 u4 u5 u6 : Value) (n : Nat) (hn : A.length = n) :
    (((((((A ++ d0 :: d1 :: d2 :: d3 :: d4 :: d5 :: d6 :: D).set n u0).set (n + 1) u1).set (n + 2) u2).set (n + 3) u3).set (n + 4) u4).set (n + 5) u5).set (n + 6) u6 = A ++ [u0, u1, u2, u3, u4, u5, u6] ++ D := by
  subst hn
  simp [List.set_append_right]

theorem drop7 (l : List Value) (n : Nat) (h : n + 7 ≤ l.length) : ∃ d0 d1 d2 d3 d4 d5 d6, l.drop n = d0 :: d1 :: d2 :: d3 :: d4 :: d5 :: d6 :: l.drop (n + 7) := by
  refine ⟨l[n], l[n + 1], l[n + 1 + 1], l[n + 1 + 1 + 1], l[n + 1 + 1 + 1 + 1], l[n + 1 + 1 + 1 + 1 + 1], l[n + 1 + 1 + 1 + 1 + 1 + 1], ?_⟩
  rw [List.drop_eq_getElem_cons (by omega : n < l.length), List.drop_eq_getElem_cons (by omega : n + 1 < l.length), List.drop_eq_getElem_cons (by omega : n + 1 + 1 < l.length), List.drop_eq_getElem_cons (by omega : n + 1 + 1 + 1 < l.length), List.drop_eq_getElem_cons (by omega : n + 1 + 1 + 1 + 1 < l.length), List.drop_eq_getElem_cons (by omega : n + 1 + 1 + 1 + 1 + 1 < l.length), List.drop_eq_getElem_cons (by omega : n + 1 + 1 + 1 + 1 + 1 + 1 < l.length)]

theorem markC_eq (c : Nat) : [Value.int .i64 (-((c : Int) + 1)), .int .i64 0, .int .i64 0, .int .i64 ((c : Int) + 1), .slice none 0 0, .int .i64 0, .int .i64 0] = markC (c + 1) := by
  unfold markC
  rw [show ((c + 1 : Nat) : Int) = (c : Int) + 1 from by omega]

theorem ckV_eq (c : Nat) : (Value.int .i64 ((c : Int) + 1)) = ckV (c + 1) := by
  unfold ckV
  rw [show ((c + 1 : Nat) : Int) = (c : Int) + 1 from by omega]

section
variable {w W w5 w9 : World} {B : Nat} {col col1 : Nat → Nat} {wb : Nat} {rv1 : Nat → Value} {ln : Nat → Nat} {xs : Nat → List Value} {c : Nat} {lv l : Value} {k4 k5 N : Nat} {ws : List Value}

theorem MS.row6 (h : MS w B col wb ln xs c lv col1 rv1 k4 k5 ws l N W) : W.ownsRow B 43 1 (rv1 6) (ln 6 + k4) (xs 6 ++ ws) ∧ (rv1 6).ownBlock ≠ some wb := h.row4
theorem MS.row7 (h : MS w B col wb ln xs c lv col1 rv1 k4 k5 ws l N W) : W.ownsRow B 3 1 (rv1 7) (ln 7 + k5) (xs 7 ++ List.replicate k5 (ckV c)) ∧ (rv1 7).ownBlock ≠ some wb := h.row5

/-- a block without a colour, behind an append to a row of the world -/
theorem MS.xkeep (h : MS w B col wb ln xs c lv col1 rv1 k4 k5 ws l N W) {i g n cap o mk : Nat} (hi : 2 ≤ i) (hi2 : i ≤ 7) (hgr : ((rv1 i).ownBlock = some g ∧ W.grownBy w5 (some g)) ∨ (g = W.heap.size ∧ W.grownBy w5 none)) (hm : mk < W.heap.size) (h0 : col1 mk = 0) :
    (w5.setCell ⟨wb, o, none⟩ (.slice (some ⟨g, 0, none⟩) n cap)).heap[mk]? = W.heap[mk]? ∧ paint col1 g i mk = 0 := by
  refine ⟨(Below.heap_setCell _ _ _ _ (fun e => ?_)).trans (kept_g hgr hm (fun e => ?_)), h.painted hi hi2 hgr mk hm h0⟩
  · have e' : mk = wb := e
    rw [e', h.wl.cw] at h0
    omega
  · have := (h.wl.rows i hi hi2).2 mk e
    omega

end

def TabOut (w : World) (B : Nat) (col : Nat → Nat) (wb : Nat) (ln : Nat → Nat) (xs : Nat → List Value) (c : Nat) (lv : Value) (R : List (Mp × Value)) (w' : World) : Prop :=
  ∃ (col' : Nat → Nat) (rv' : Nat → Value) (nl : List (Value × Nat)) (ws : List Value), nl.length = 4 * R.length ∧ ws.length = 4 ∧
    WR w' B col' wb rv' (up (up (up (up ln 4 (ln 4 + nl.length)) 5 (ln 5 + nl.length)) 6 (ln 6 + 4)) 7 (ln 7 + 4)) (up (up (up (up xs 4 (xs 4 ++ nl.map (·.1))) 5 (xs 5 ++ nl.map (fun p => mkV p.2))) 6 (xs 6 ++ ws)) 7 (xs 7 ++ List.replicate 4 (ckV (c + R.length + 1)))) (c + R.length + 1) ∧
    (∀ p ∈ nl, MarkN w' (fun k => col' k = 8) p.1 p.2 ∧ p.2 ≤ c + R.length) ∧ (∀ v ∈ ws, MarkM w' (fun k => col' k = 8) v (c + R.length + 1)) ∧
    Turn (fun x => x = 1 ∨ x = 4 ∨ x = 5 ∨ x = 6 ∨ x = 7) B w w' col col' ∧ Fr (fun k => col k ≠ 0 ∨ lv.ownBlock = some k ∨ ∃ y ∈ R, y.2.ownBlock = some k) w w' ∧
    ∀ q, q < w.heap.size → col q = 0 → lv.ownBlock ≠ some q → (∀ y ∈ R, y.2.ownBlock ≠ some q) → col' q = 0

set_option maxHeartbeats 4000000 in
set_option maxRecDepth 100000 in
theorem wtab_any {w : World} {B : Nat} {col : Nat → Nat} {wb : Nat} {rv : Nat → Value} {ln : Nat → Nat} {xs : Nat → List Value} {c : Nat} (h : WR w B col wb rv ln xs c) (hc : c ≤ 800000000) (h4 : ln 4 ≤ 4 * c) (h5 : ln 5 ≤ 4 * c) (h6 : ln 6 ≤ 4 * c) (h7 : ln 7 ≤ 4 * c) {lv : Value} {R : List (Mp × Value)}
    (hrow : w.ownsRow B 52 7 lv R.length (R.flatMap fun y => rowC y.1 y.2)) (hfree : ∀ k, lv.ownBlock = some k → col k = 0) (hpe : ∀ y ∈ R, w.ownsRow B 3 1 y.2 y.1.peers.length (intsV y.1.peers) ∧ ∀ k, y.2.ownBlock = some k → col k = 0) (hD : R.Pairwise fun y z => ∀ k, y.2.ownBlock = some k → z.2.ownBlock ≠ some k) (hp4 : ∀ y ∈ R, y.1.peers.length ≤ 4) (hn : R.length ≤ 192) :
    Calls Try.prog 57 #[.pointer (some ⟨wb, 0, none⟩), lv] w fun e w' => e = .returned (.tuple #[]) ∧ TabOut w B col wb ln xs c lv R w' := by
  obtain ⟨ao, cap, rfl, k1, k2, -⟩ := rowN_cells hrow
  have HTS0 : Hid (TS w B col wb ln xs c (.slice ao R.length cap) R col rv [] 0 w) := by
    refine ⟨?_, by simp, hrow, hfree, fun i hi _ => hpe _ (List.getElem_mem _), Turn.refl _ _ _ _ (fun k hk => (h.cb k hk).2), Fr.refl _ _, fun q _ h0 _ => h0, rfl⟩
    have e1 : up (up ln 4 (ln 4 + ([] : List (Value × Nat)).length)) 5 (ln 5 + ([] : List (Value × Nat)).length) = ln := by
      funext q
      unfold up
      split
      · rename_i e
        rw [e]
        rfl
      · split
        · rename_i e
          rw [e]
          rfl
        · rfl
    have e2 : up (up xs 4 (xs 4 ++ ([] : List (Value × Nat)).map (·.1))) 5 (xs 5 ++ ([] : List (Value × Nat)).map (fun p => mkV p.2)) = xs := by
      funext q
      unfold up
      split
      · rename_i e
        rw [e]
        simp
      · split
        · rename_i e
          rw [e]
          simp
        · rfl
    rw [e1, e2]
    exact h
  have hwb := h.bound
  have HB := hide hwb
  obtain ⟨n, hnn⟩ : ∃ n, R.length = n := ⟨_, rfl⟩
  have HNN := hide hnn
  rw [hnn] at HTS0 hn k1
  rw [hnn]
  have HBD := hide (And.intro hc (And.intro h4 (And.intro h5 (And.intro h6 (And.intro h7 hn)))))
  have HD := hide hD
  have HP4 := hide hp4
  unfold maxLen at k2
  clear h hrow hfree hpe hD hp4 hc h4 h5 h6 h7 hnn hwb
  go_enter Try.func57, Try.ntmps57
  go_upto_block 0 with fail
  go_cut [] from 4 to 20 (fun wx => ∃ col1 rv1 nl, TS w B col wb ln xs c (.slice ao n cap) R col1 rv1 nl n wx)
  case first =>
    go_wp2_with fail
    go_loopg [4] n (fun k i wr => ∃ j : Nat, j ≤ n ∧ k = n - j ∧ i = .int .i64 j ∧ ∃ col1 rv1 nl, TS w B col wb ln xs c (.slice ao n cap) R col1 rv1 nl j wr)
    case atStart => exact ⟨0, Nat.zero_le _, by omega, rfl, col, rv, [], unhide HTS0⟩
    case round =>
      obtain ⟨j, hj, hk, rfl, col1, rv1, nl, hS⟩ := hrel
      have HK := hide hk
      have HS := hide hS
      clear hk HTS0
      by_cases hlt : j < n
      · have hjR : j < R.length := by have := unhide HNN; omega
        obtain ⟨ao', cap', hl, -, -, k3⟩ := rowN_cells hS.row
        simp only [Value.slice.injEq] at hl
        obtain ⟨rfl, -, rfl⟩ := hl
        obtain ⟨g, rfl, hg, hcell⟩ := k3 (by omega)
        have hpj := hS.peers j hjR (Nat.le_refl _)
        have cj : wr.cell? ⟨g, j * 7 + 4, none⟩ = some R[j].2 := hcell _ _ ((flat_at R j 4 hjR (by omega)).trans rfl)
        obtain ⟨sa, sn, sc, hsl⟩ := row_slice hpj.1
        obtain ⟨b1, b2, b3, b4, b5, b6⟩ := unhide HBD
        have hlen := hS.len
        have HC := hide (wints_any hS.wl (by omega) (by simp [up]; omega) (by simp [up]; omega) hpj.1 (by have := unhide HP4 _ (List.getElem_mem hjR); omega) hpj.2)
        rw [hsl] at cj
        rw [hsl] at HC
        have HSL := hide hsl
        clear hS hcell hpj k3 hsl hlen b1 b2 b3 b4 b5 b6
        go_wp2_with fail
        refine (unhide HC).mono ?_
        rintro e w2 ⟨rfl, hI⟩
        have HI2 : Hid (∃ col2 rv2 nl2, TS w B col wb ln xs c (.slice (some ⟨g, 0, none⟩) n cap) R col2 rv2 nl2 (j + 1) w2) := by
          refine (unhide HS).step (unhide HD) hjR ?_
          rw [unhide HSL]
          exact hI
        clear hI HC HS cj HSL
        go_wp2_with fail
        go_roundg (n - (j + 1))
        case measure => have := unhide HK; omega
        case rel => exact ⟨j + 1, by omega, rfl, by go_num, unhide HI2⟩
      · have hjn : j = n := by omega
        have HE : Hid (∃ col1 rv1 nl, TS w B col wb ln xs c (.slice ao n cap) R col1 rv1 nl n wr) := by
          refine ⟨col1, rv1, nl, ?_⟩
          have h1 := unhide HS
          obtain ⟨q1, q2, q3, q4, q5, q6, q7, q8, q9⟩ := h1
          exact ⟨hjn ▸ q1, hjn ▸ q2, q3, q4, hjn ▸ q5, q6, q7, q8, hjn ▸ q9⟩
        clear hS HS hjn
        go_wp2_with fail
        go_meet
        exact unhide HE
  case rest =>
  rename World => wp
  obtain ⟨col1, rv1, nl, hS⟩ := hcut
  obtain ⟨cc, hcc⟩ : ∃ cc, c + n = cc := ⟨_, rfl⟩
  obtain ⟨ln1, hln1⟩ : ∃ f, up (up ln 4 (ln 4 + nl.length)) 5 (ln 5 + nl.length) = f := ⟨_, rfl⟩
  obtain ⟨xs1, hxs1⟩ : ∃ f, up (up xs 4 (xs 4 ++ nl.map (·.1))) 5 (xs 5 ++ nl.map (fun p => mkV p.2)) = f := ⟨_, rfl⟩
  have hW := hS.wl
  rw [hcc, hln1, hxs1] at hW
  have hl6 : ln1 6 ≤ 4 * c := by
    rw [← hln1]
    simp [up]
    exact (unhide HBD).2.2.2.1
  have hl7 : ln1 7 ≤ 4 * c := by
    rw [← hln1]
    simp [up]
    exact (unhide HBD).2.2.2.2.1
  have hcb : cc ≤ 800000200 := by
    have := (unhide HBD).1
    omega
  have HROOM : Hid (ln1 6 ≤ 4 * cc ∧ ln1 7 ≤ 4 * cc ∧ cc ≤ 900000000) := ⟨by omega, by omega, by omega⟩
  have HEQ := hide (And.intro hcc (And.intro hln1 hxs1))
  have HS := hide hS
  have hrow := hS.row
  rw [unhide HNN] at hrow
  have HROW := hide hrow
  have HFREE := hide hS.rfree
  have HWW := hide hW
  have HFL : Hid ((R.flatMap fun y => rowC y.1 y.2).length = n * 7) := hrow.1
  have hb1 := hW.bound
  obtain ⟨-, -, -, -, -, -, -, -, c10, fz⟩ := hW.cells
  have f10 := fz 10
  have hwbc := hb1.1
  have HBC := hide hb1
  clear hW hl6 hl7 hcc hln1 hxs1 hS hrow hb1 fz HTS0 HP4 HD
  go_wp2_with fail
  obtain ⟨h1, hT1⟩ := (unhide HWW).count (cc + 1)
  rw [show ((cc + 1 : Nat) : Int) = (cc : Int) + 1 from by omega] at h1 hT1
  have hF1 : Fr (fun k => col1 k ≠ 0) wp (wp.setCell ⟨wb, 10, none⟩ (.int .i64 ((cc : Int) + 1))) := (Fr.refl _ _).setCell _ (fun _ => by show col1 wb ≠ 0; rw [(unhide HWW).cw]; decide)
  clear c10 f10 hwbc hcb
  generalize wp.setCell ⟨wb, 10, none⟩ (.int .i64 ((cc : Int) + 1)) = w1 at *
  obtain ⟨-, -, -, -, -, -, -, -, d10, -⟩ := h1.cells
  rw [show ((cc + 1 : Nat) : Int) = (cc : Int) + 1 from by omega] at d10
  have H1 := hide (And.intro h1 (And.intro hT1 hF1))
  have n1 := World.new_ne w1 _ d10
  have hwrap := neg_wrap cc (Nat.le_trans (unhide HROOM).2.2 (by decide))
  clear h1 hT1 hF1
  go_region_held3 (fun w' => w'.cell? ⟨wb, 10, none⟩ = some (.int .i64 ((cc : Int) + 1))) (go_keep) (fail)
  clear hwrap d10 n1
  go_upto_block 2 with fail
  obtain ⟨mk, hmk⟩ : ∃ mk, mk = w1.heap.size := ⟨_, rfl⟩
  rw [← hmk]
  have HX2 : Hid (WR (w1.alloc (.cells #[.int .i64 (-((cc : Int) + 1)), .int .i64 0, .int .i64 0, .int .i64 ((cc : Int) + 1), .slice none 0 0, .int .i64 0, .int .i64 0] 52)).drew B col1 wb rv1 ln1 xs1 (cc + 1) ∧ (w1.alloc (.cells #[.int .i64 (-((cc : Int) + 1)), .int .i64 0, .int .i64 0, .int .i64 ((cc : Int) + 1), .slice none 0 0, .int .i64 0, .int .i64 0] 52)).drew.ownsRow B 52 7 (.slice ao n cap) n (R.flatMap fun y => rowC y.1 y.2) ∧ (w1.alloc (.cells #[.int .i64 (-((cc : Int) + 1)), .int .i64 0, .int .i64 0, .int .i64 ((cc : Int) + 1), .slice none 0 0, .int .i64 0, .int .i64 0] 52)).drew.heap[mk]? = some (.cells (markC (cc + 1)).toArray 52 (0, 0)) ∧ Turn (fun x => x = 1) B wp (w1.alloc (.cells #[.int .i64 (-((cc : Int) + 1)), .int .i64 0, .int .i64 0, .int .i64 ((cc : Int) + 1), .slice none 0 0, .int .i64 0, .int .i64 0] 52)).drew col1 col1 ∧ Fr (fun k => col1 k ≠ 0 ∨ (Value.slice ao n cap).ownBlock = some k) wp (w1.alloc (.cells #[.int .i64 (-((cc : Int) + 1)), .int .i64 0, .int .i64 0, .int .i64 ((cc : Int) + 1), .slice none 0 0, .int .i64 0, .int .i64 0] 52)).drew ∧ wp.heap.size ≤ mk) := by
    obtain ⟨h1, hT1, hF1⟩ := unhide H1
    have hcb1 : ∀ k, col1 k ≠ 0 → k < w1.heap.size := fun k hk => (h1.cb k hk).2
    have hbl : Below w1.heap.size w1 (w1.alloc (.cells #[.int .i64 (-((cc : Int) + 1)), .int .i64 0, .int .i64 0, .int .i64 ((cc : Int) + 1), .slice none 0 0, .int .i64 0, .int .i64 0] 52)).drew := ((Below.refl _ _).alloc (Nat.le_refl _) _).drew
    have hsz := hF1.size
    refine ⟨h1.turn (C := fun _ => False) (Turn.free hcb1 (Fr.of_below hbl)) (fun _ _ _ f => f), ?_, ?_, hT1.trans (Turn.free hcb1 (Fr.of_below hbl)), (hF1.mono (fun k hk _ => .inl hk)).trans' (Fr.of_below (X := fun _ => False) hbl) (fun _ f _ => f.elim), by omega⟩
    · refine rowOfBlock (unhide HROW) (fun k hk => (hbl.block k (Nat.lt_of_lt_of_le ((unhide HROW).lt k hk).2 hsz)).trans (hF1.block k ((unhide HROW).lt k hk).2 (fun hn => hn (unhide HFREE k hk))))
    · rw [← markC_eq]
      exact blkN w1 _ _ hmk
  generalize (w1.alloc (.cells #[.int .i64 (-((cc : Int) + 1)), .int .i64 0, .int .i64 0, .int .i64 ((cc : Int) + 1), .slice none 0 0, .int .i64 0, .int .i64 0] 52)).drew = w2 at *
  clear H1 hmk HROW
  go_cut [] from 6 to 48 (fun wx => WR wx B col1 wb rv1 ln1 xs1 (cc + 1) ∧ wx.ownsRow B 52 7 (.slice ao n cap) n (marksM (cc + 1) n) ∧ wx.heap[mk]? = some (.cells (markC (cc + 1)).toArray 52 (0, 0)) ∧ Turn (fun x => x = 1) B wp wx col1 col1 ∧ Fr (fun k => col1 k ≠ 0 ∨ (Value.slice ao n cap).ownBlock = some k) wp wx)
  case first =>
    go_wp2_with fail
    go_loopg [6] n (fun k i wr => ∃ j : Nat, j ≤ n ∧ k = n - j ∧ i = .int .i64 j ∧ WR wr B col1 wb rv1 ln1 xs1 (cc + 1) ∧ wr.ownsRow B 52 7 (.slice ao n cap) n (marksM (cc + 1) j ++ (R.flatMap fun y => rowC y.1 y.2).drop (j * 7)) ∧ wr.heap[mk]? = some (.cells (markC (cc + 1)).toArray 52 (0, 0)) ∧ Turn (fun x => x = 1) B wp wr col1 col1 ∧ Fr (fun k => col1 k ≠ 0 ∨ (Value.slice ao n cap).ownBlock = some k) wp wr)
    case atStart => exact ⟨0, Nat.zero_le _, by omega, rfl, (unhide HX2).1, by simpa [marksM] using (unhide HX2).2.1, (unhide HX2).2.2.1, (unhide HX2).2.2.2.1, (unhide HX2).2.2.2.2.1⟩
    case round =>
      obtain ⟨j, hj, hk, rfl, hW, hOj, hx, hTj, hFj⟩ := hrel
      have HK := hide hk
      have HR := hide (And.intro hW (And.intro hOj (And.intro hx (And.intro hTj hFj))))
      have HMK := hide (unhide HX2).2.2.2.2.2
      clear hk hW hTj hFj HX2
      by_cases hlt : j < n
      · obtain ⟨ao', cap', hl, -, -, k3⟩ := rowN_cells hOj
        simp only [Value.slice.injEq] at hl
        obtain ⟨rfl, -, rfl⟩ := hl
        obtain ⟨g, rfl, hg, hcell⟩ := k3 (by omega)
        obtain ⟨d0, d1, d2, d3, d4, d5, d6, hd⟩ := drop7 (R.flatMap fun y => rowC y.1 y.2) (j * 7) (by have := unhide HFL; omega)
        have hat : ∀ o u, (d0 :: d1 :: d2 :: d3 :: d4 :: d5 :: d6 :: (R.flatMap fun y => rowC y.1 y.2).drop (j * 7 + 7))[o]? = some u → wr.cell? ⟨g, j * 7 + o, none⟩ = some u := fun o u hu => hcell _ _ (by
          rw [hd, List.getElem?_append_right (by rw [marksM_length]; omega), marksM_length, show j * 7 + o - j * 7 = o by omega]
          exact hu)
        have a0 : wr.cell? ⟨g, j * 7, none⟩ = some d0 := hat 0 d0 rfl
        have a1 := hat 1 d1 rfl
        have a2 := hat 2 d2 rfl
        have a3 := hat 3 d3 rfl
        have a4 := hat 4 d4 rfl
        have a5 := hat 5 d5 rfl
        have a6 := hat 6 d6 rfl
        have hgf : ∀ o, wr.frozen? ⟨g, o, none⟩ = false := fun o => by
          rcases hOj.2 with ⟨h1, _⟩ | ⟨b, cap', cur, h1, _, hb, _⟩
          · cases h1
          · simp only [Value.slice.injEq, Option.some.injEq, Addr.mk.injEq] at h1
            obtain ⟨⟨rfl, -, -⟩, -, -⟩ := h1
            simp [World.frozen?, hb]
        have e1 : ((cc + 1 : Nat) : Int) = (cc : Int) + 1 := by omega
        have m0 : wr.cell? ⟨mk, 0, none⟩ = some (.int .i64 (-((cc : Int) + 1))) := by simp [World.cell?, hx, markC, e1]
        have m1 : wr.cell? ⟨mk, 1, none⟩ = some (.int .i64 0) := by simp [World.cell?, hx, markC]
        have m2 : wr.cell? ⟨mk, 2, none⟩ = some (.int .i64 0) := by simp [World.cell?, hx, markC]
        have m3 : wr.cell? ⟨mk, 3, none⟩ = some (.int .i64 ((cc : Int) + 1)) := by simp [World.cell?, hx, markC, e1]
        have m4 : wr.cell? ⟨mk, 4, none⟩ = some (.slice none 0 0) := by simp [World.cell?, hx, markC]
        have m5 : wr.cell? ⟨mk, 5, none⟩ = some (.int .i64 0) := by simp [World.cell?, hx, markC]
        have m6 : wr.cell? ⟨mk, 6, none⟩ = some (.int .i64 0) := by simp [World.cell?, hx, markC]
        have hml := (Array.getElem?_eq_some_iff.1 hx).1
        have HDD := hide hd
        clear hcell hat k3 hd hOj hx e1
        go_wp2_with fail
        go_roundg (n - (j + 1))
        case measure => have := unhide HK; omega
        case rel =>
          obtain ⟨hW, hOj, hx, hTj, hFj⟩ := unhide HR
          have hgc : col1 g = 0 := unhide HFREE g rfl
          have hgm : mk ≠ g := fun e => by
            have h1 := hFj.size
            have h2 : g < wp.heap.size := (((unhide HS).row).lt g rfl).2
            have h3 := unhide HMK
            omega
          have hcb : ∀ k, col1 k ≠ 0 → k < wr.heap.size := fun k hk => (hW.cb k hk).2
          have hset := rowSet (rowSet (rowSet (rowSet (rowSet (rowSet (rowSet hOj (j * 7) (.int .i64 (-((cc : Int) + 1)))) (j * 7 + 1) (.int .i64 0)) (j * 7 + 2) (.int .i64 0)) (j * 7 + 3) (.int .i64 ((cc : Int) + 1))) (j * 7 + 4) (.slice none 0 0)) (j * 7 + 5) (.int .i64 0)) (j * 7 + 6) (.int .i64 0)
          rw [unhide HDD, set7 _ _ _ _ _ _ _ _ _ _ _ _ _ _ _ _ _ (marksM_length _ _), markC_eq, ← marksM, show j * 7 + 7 = (j + 1) * 7 by omega] at hset
          have hFG : Fr (fun k => k = g) wr _ := Fr.setG (Fr.setG (Fr.setG (Fr.setG (Fr.setG (Fr.setG (Fr.setG (o := j * 7) (u := .int .i64 (-((cc : Int) + 1))) (Fr.refl _ wr)) (o := j * 7 + 1) (u := .int .i64 0)) (o := j * 7 + 2) (u := .int .i64 0)) (o := j * 7 + 3) (u := .int .i64 ((cc : Int) + 1))) (o := j * 7 + 4) (u := .slice none 0 0)) (o := j * 7 + 5) (u := .int .i64 0)) (o := j * 7 + 6) (u := .int .i64 0)
          have hF0 := hFG.mono (Y := fun k => col1 k = 0) (fun k hk _ => by rw [hk]; exact hgc)
          exact ⟨j + 1, by omega, rfl, by go_num, hW.turn (C := fun _ => False) (Turn.free hcb hF0) (fun _ _ _ f => f), hset, hFG.some hx hgm, hTj.trans (Turn.free hcb hF0), hFj.trans' hFG (fun k hk _ => .inr (by rw [hk]; rfl))⟩
      · have hjn : j = n := by omega
        have HE : Hid (WR wr B col1 wb rv1 ln1 xs1 (cc + 1) ∧ wr.ownsRow B 52 7 (.slice ao n cap) n (marksM (cc + 1) n) ∧ wr.heap[mk]? = some (.cells (markC (cc + 1)).toArray 52 (0, 0)) ∧ Turn (fun x => x = 1) B wp wr col1 col1 ∧ Fr (fun k => col1 k ≠ 0 ∨ (Value.slice ao n cap).ownBlock = some k) wp wr) := by
          obtain ⟨q1, q2, q3, q4, q5⟩ := unhide HR
          refine ⟨q1, ?_, q3, q4, q5⟩
          rw [List.drop_of_length_le (by have := unhide HFL; omega), List.append_nil] at q2
          exact hjn ▸ q2
        clear HR hjn hOj hx
        go_wp2_with fail
        go_meet
        exact unhide HE
  case rest =>
  obtain ⟨hW, hOw, hx, hTw, hFw⟩ := hcut
  have h0mk : col1 mk = 0 := by
    refine Classical.byContradiction (fun hne => ?_)
    have h1 := ((unhide HWW).cb mk hne).2
    have h2 := (unhide HX2).2.2.2.2.2
    omega
  have hnmk : (Value.slice ao n cap).ownBlock ≠ some mk := fun e => by
    have h1 := ((unhide HS).row.lt mk e).2
    have h2 := (unhide HX2).2.2.2.2.2
    omega
  have HMS : Hid (MS wc B col1 wb ln1 xs1 (cc + 1) (.slice ao n cap) col1 rv1 0 0 [] (.slice ao n cap) n wc) := by
    refine ⟨?_, by simp, hOw, fun q hq => ⟨unhide HFREE q hq, .inr hq⟩, Turn.refl _ _ _ _ (fun k hk => (hW.cb k hk).2), Fr.refl _ _, fun q _ h0 => h0⟩
    have e1 : up (up ln1 6 (ln1 6 + 0)) 7 (ln1 7 + 0) = ln1 := by
      funext q
      unfold up
      split
      · rename_i e
        rw [e]
        rfl
      · split
        · rename_i e
          rw [e]
          rfl
        · rfl
    have e2 : up (up xs1 6 (xs1 6 ++ [])) 7 (xs1 7 ++ List.replicate 0 (ckV (cc + 1))) = xs1 := by
      funext q
      unfold up
      split
      · rename_i e
        rw [e]
        simp
      · split
        · rename_i e
          rw [e]
          simp
        · rfl
    rw [e1, e2]
    exact hW
  have HOUT : Hid (∀ w', TabsOut wc B col1 wb ln1 xs1 (cc + 1) (.slice ao n cap) w' → TabOut w B col wb ln xs c (.slice ao n cap) R w') := fun w' hO => by
    obtain ⟨col', rv', ws, hws, hW', hM', hT', hF', hz'⟩ := hO
    obtain ⟨e0, e1, e2⟩ := unhide HEQ
    have hS := unhide HS
    have hNN := unhide HNN
    have f6 : ln1 6 = ln 6 := by rw [← e1]; simp [up]
    have f7 : ln1 7 = ln 7 := by rw [← e1]; simp [up]
    have g6 : xs1 6 = xs 6 := by rw [← e2]; simp [up]
    have g7 : xs1 7 = xs 7 := by rw [← e2]; simp [up]
    rw [f6, f7, g6, g7, ← e1, ← e2, ← e0, ← hNN] at hW'
    rw [← e0, ← hNN] at hM'
    refine ⟨col', rv', nl, ws, by rw [hS.len, hNN], hws, hW', fun p hp => ?_, hM', ?_, ?_, fun q hq h0 hn1 hn2 => hz' q (Nat.lt_of_lt_of_le hq (Nat.le_trans hS.turn.size hTw.size)) (hS.zero q hq h0 hn2) hn1⟩
    · exact ⟨(((hS.marks p hp).1.keep hTw.size (hTw.at (by decide) (by omega))).keep hT'.size (hT'.at (by decide) (by omega))), by have := (hS.marks p hp).2; omega⟩
    · exact ((hS.turn.mono (fun x hx => by omega)).trans (hTw.mono (fun x hx => .inl hx))).trans (hT'.mono (fun x hx => by omega))
    · have hF2 : Fr (fun k => col1 k ≠ 0 ∨ (Value.slice ao n cap).ownBlock = some k) wp w' := hFw.trans' hF' (fun k hk _ => hk)
      refine (hS.fr.mono (fun k hk _ => hk.elim (fun e => .inl e) (fun e => .inr (.inr e)))).trans' hF2 (fun k hk hl => ?_)
      rcases hk with hk | hk
      · by_cases e : ∃ y ∈ R, y.2.ownBlock = some k
        · exact .inr (.inr e)
        · exact .inl (fun h0 => hk (hS.zero k hl h0 (fun y hy e' => e ⟨y, hy, e'⟩)))
      · exact .inr (.inl hk)
  have HLB : Hid (∀ q, (Value.slice ao n cap).ownBlock = some q → B ≤ q) := fun q hq => (hOw.lt q hq).1
  have HX3 := hide (And.intro hx (And.intro h0mk hnmk))
  have HBW : Hid (B ≤ wc.heap.size) := by
    have := hW.bound
    show B ≤ wc.heap.size
    omega
  obtain ⟨i3, hi3, hy0, hy1, hy2⟩ := info_parts info3
  have HI3 := hide (And.intro hi3 (And.intro hy0 (And.intro hy1 hy2)))
  obtain ⟨i5, hi5, hz0, hz1, hz2⟩ := info_parts info43
  have HI5 := hide (And.intro hi5 (And.intro hz0 (And.intro hz1 hz2)))
  obtain ⟨i52, hi52, hv0, hv1, hv2⟩ := info_parts info52
  have HI52 := hide (And.intro hi52 (And.intro hv0 (And.intro hv1 hv2)))
  have HNB := hide hn
  clear hW hOw hx hTw hFw h0mk hnmk HX2 HWW HFREE HS HEQ HBC HB HFL HBD HNN hi3 hy0 hy1 hy2 hi5 hz0 hz1 hz2 hi52 hv0 hv1 hv2 k1 k2 hn
  go_wp2_with fail
  go_loopg [1, 7] 4 (fun z l i wx => ∃ k : Nat, k ≤ 4 ∧ z = 4 - k ∧ i = .int .i64 k ∧ ∃ col2 rv2 ws, ws.length = k ∧ MS wc B col1 wb ln1 xs1 (cc + 1) (.slice ao n cap) col2 rv2 k k ws l (n + k) wx ∧ wx.heap[mk]? = some (.cells (markC (cc + 1)).toArray 52 (0, 0)) ∧ col2 mk = 0 ∧ l.ownBlock ≠ some mk)
  case atStart => exact ⟨0, by omega, rfl, rfl, col1, rv1, [], rfl, unhide HMS, (unhide HX3).1, (unhide HX3).2.1, (unhide HX3).2.2⟩
  case round =>
    obtain ⟨k, hk4, hz, rfl, col2, rv2, ws, hws, hI, hx, h0mk, hnmk⟩ := hrel
    obtain ⟨ra, rc, hrv6, -, -, -⟩ := row1_cells hI.row6.1
    obtain ⟨la, lc, rfl, -, -, -⟩ := rowN_cells hI.own
    obtain ⟨-, -, -, -, c4, -, -, -, c10, fz⟩ := hI.wl.cells
    rw [show ((cc + 1 : Nat) : Int) = (cc : Int) + 1 from by omega] at c10
    rw [hrv6] at c4
    have f4 := fz 4
    have hwbx := hI.wl.bound.1
    have hBx : B ≤ wr.heap.size := by have := hI.wl.bound; omega
    have HZ := hide hz
    have HI := hide hI
    have HR6 := hide hI.row6.2
    have HM6 := hide (hI.row6.1.alloc (.cells #[.slice la (n + k) lc] 43))
    have HWS := hide hws
    have HXM := hide (And.intro hx (And.intro h0mk hnmk))
    have HA6 := hide (room4 (unhide HROOM).1 (unhide HROOM).2.2 hk4)
    have HA7 := hide (room4 (unhide HROOM).2.1 (unhide HROOM).2.2 hk4)
    have HAL : Hid (n + k + 1 ≤ maxLen ∧ (n + k + 1) * 72 ≤ 140737488355328) := by
      have := unhide HNB
      unfold maxLen
      exact ⟨by omega, by omega⟩
    rw [hrv6] at HM6 HR6
    have HRV := hide hrv6
    have hml := (Array.getElem?_eq_some_iff.1 hx).1
    clear hz hI hws HMS fz hrv6 hx h0mk hnmk HX3
    by_cases hk : k < 4
    · go_wp2_with
        ((at_builtin; refine wpList_append_x _ rfl _ _ 66 rfl B 43 i5 _ 1 24 Try.underlying66 (unhide HI5).1 (unhide HI5).2.1 (unhide HI5).2.2.1 (unhide HI5).2.2.2 rfl (by decide) (.slice ra (ln1 6 + k) rc) (ln1 6 + k) (xs1 6 ++ ws) rfl (unhide HM6) ⟨wr.heap.size, 0, none⟩ 1 1 [.slice la (n + k) lc] rfl rfl (World.news_of_block (by exact blkN wr _ _ rfl)) (by simp [Value.oneCell']) (by omega) (unhide HA6).1 (unhide HA6).2.1 (by simp; omega) ?_; intro g5 cap5 w5 hown5 hgr5;
          have q5 : w5.heap[wb]? = wr.heap[wb]? := (kept_g hgr5 (by simp; omega) (unhide HR6)).trans (Below.heap_alloc wr _ wb hwbx);
          have c25 := (World.cell?_of_block (a := ⟨wb, 4, none⟩) q5).trans c4;
          have f25 := (World.frozen?_of_block (a := ⟨wb, 4, none⟩) q5).trans f4;
          have HO5 := hide hown5; have HG5 := hide hgr5; clear q5 hown5 hgr5))
      have hIb := (unhide HI).below ((Below.refl _ _).alloc (Nat.le_refl _) (.cells #[.slice la (n + k) lc] 43))
      have hG5 : ((rv2 6).ownBlock = some g5 ∧ (wr.alloc (.cells #[.slice la (n + k) lc] 43)).grownBy w5 (some g5)) ∨ (g5 = (wr.alloc (.cells #[.slice la (n + k) lc] 43)).heap.size ∧ (wr.alloc (.cells #[.slice la (n + k) lc] 43)).grownBy w5 none) := by
        rw [unhide HRV]
        exact unhide HG5
      have hI6 := hIb.app4 (unhide HO5) hG5
      have hxk := hIb.xkeep (o := 4) (n := ln1 6 + k + 1) (cap := cap5) (i := 6) (by omega) (by omega) hG5 (mk := mk) (by simp; omega) (unhide HXM).2.1
      have hx6 := hxk.1.trans (blkA (unhide HXM).1)
      have h06 := hxk.2
      have HN6 := hide (unhide HXM).2.2
      clear c4 f4 c25 f25 HM6 HR6 HO5 HG5 HI HRV c10 hwbx hBx hG5 hIb hxk HXM hml
      generalize w5.setCell ⟨wb, 4, none⟩ (.slice (some ⟨g5, 0, none⟩) (ln1 6 + k + 1) cap5) = w6 at *
      generalize paint col2 g5 6 = col3 at *
      generalize up rv2 6 (.slice (some ⟨g5, 0, none⟩) (ln1 6 + k + 1) cap5) = rv3 at *
      obtain ⟨ra5, rc5, hrv7, -, -, -⟩ := row1_cells hI6.row7.1
      obtain ⟨-, -, -, -, -, c5, -, -, c10, fz⟩ := hI6.wl.cells
      rw [show ((cc + 1 : Nat) : Int) = (cc : Int) + 1 from by omega] at c10
      rw [hrv7] at c5
      have f5 := fz 5
      have hwb6 := hI6.wl.bound.1
      have hB6 : B ≤ w6.heap.size := by have := hI6.wl.bound; omega
      have ca5 : ∀ X, (w6.alloc X).cell? ⟨wb, 5, none⟩ = some (.slice ra5 (ln1 7 + k) rc5) := fun X => cellA c5
      have ca10 : ∀ X, (w6.alloc X).cell? ⟨wb, 10, none⟩ = some (.int .i64 ((cc : Int) + 1)) := fun X => cellA c10
      have HR7 := hide hI6.row7.2
      have HM7 := hide (hI6.row7.1.alloc (.cells #[.int .i64 ((cc : Int) + 1)] 3))
      have HI6 := hide hI6
      have HX6 := hide (And.intro hx6 h06)
      have hml6 := (Array.getElem?_eq_some_iff.1 hx6).1
      rw [hrv7] at HR7 HM7
      have HRV7 := hide hrv7
      clear fz hI6 hrv7 hx6 h06
      go_region_law
        ((refine step_append_x _ (by rfl) _ _ _ (by rfl) B 3 i3 _ 1 8 Try.underlying50 (unhide HI3).1 (unhide HI3).2.1 (unhide HI3).2.2.1 (unhide HI3).2.2.2 rfl (by omega) (.slice ra5 (ln1 7 + k) rc5) (ln1 7 + k) _ (by rfl) (by exact unhide HM7) ⟨w6.heap.size, 0, none⟩ 1 1 [.int .i64 ((cc : Int) + 1)] (by rfl) (by rfl) (World.news_of_block (by exact blkN w6 _ _ rfl)) (by simp [Value.oneCell']) (by omega) (unhide HA7).1 (unhide HA7).2.2 (by simp; omega) ?_; intro g7 cap7 w7 hown7 hgr7;
          have q7 : w7.heap[wb]? = w6.heap[wb]? := (kept_g hgr7 (by simp; omega) (unhide HR7)).trans (Below.heap_alloc w6 _ wb hwb6);
          have c37 := (World.cell?_of_block (a := ⟨wb, 5, none⟩) q7).trans c5;
          have f37 := (World.frozen?_of_block (a := ⟨wb, 5, none⟩) q7).trans f5;
          have HO7 := hide hown7; have HG7 := hide hgr7; clear q7 hown7 hgr7))
      all_goals
        have hO7 := unhide HO7
        rw [ckV_eq] at hO7
        have hIb := (unhide HI6).below (((Below.refl _ _).alloc (Nat.le_refl _) (.cells #[.int .i64 ((cc : Int) + 1)] 3)).drew)
        have hG7 : ((rv3 7).ownBlock = some g7 ∧ (w6.alloc (.cells #[.int .i64 ((cc : Int) + 1)] 3)).drew.grownBy w7 (some g7)) ∨ (g7 = (w6.alloc (.cells #[.int .i64 ((cc : Int) + 1)] 3)).drew.heap.size ∧ (w6.alloc (.cells #[.int .i64 ((cc : Int) + 1)] 3)).drew.grownBy w7 none) := by
          rw [unhide HRV7]
          exact unhide HG7
        have hI8 := hIb.app5 hO7 hG7
        have hxk := hIb.xkeep (o := 5) (n := ln1 7 + k + 1) (cap := cap7) (i := 7) (by omega) (by omega) hG7 (mk := mk) (by simp; omega) (unhide HX6).2
        have hx8 := hxk.1.trans (show (w6.alloc (.cells #[.int .i64 ((cc : Int) + 1)] 3)).heap[mk]? = _ from blkA (unhide HX6).1)
        have h08 := hxk.2
        clear c5 f5 c37 f37 HM7 HR7 HO7 HG7 HI6 HRV7 c10 hwb6 hB6 ca5 ca10 hO7 hG7 hIb hxk HX6 hml6
        generalize w7.setCell ⟨wb, 5, none⟩ (.slice (some ⟨g7, 0, none⟩) (ln1 7 + k + 1) cap7) = w8 at *
        generalize paint col3 g7 7 = col4 at *
        generalize up rv3 7 (.slice (some ⟨g7, 0, none⟩) (ln1 7 + k + 1) cap7) = rv4 at *
        have hB8 : B ≤ w8.heap.size := by have := hI8.wl.bound; omega
        have HM8 := hide (hI8.own.alloc (.cells #[.int .i64 (-((cc : Int) + 1)), .int .i64 0, .int .i64 0, .int .i64 ((cc : Int) + 1), .slice none 0 0, .int .i64 0, .int .i64 0] 52))
        have HI8 := hide hI8
        have hs8 := hI8.turn.size
        have e1 : ((cc + 1 : Nat) : Int) = (cc : Int) + 1 := by omega
        have m0 : w8.cell? ⟨mk, 0, none⟩ = some (.int .i64 (-((cc : Int) + 1))) := by simp [World.cell?, hx8, markC, e1]
        have m1 : w8.cell? ⟨mk, 1, none⟩ = some (.int .i64 0) := by simp [World.cell?, hx8, markC]
        have m2 : w8.cell? ⟨mk, 2, none⟩ = some (.int .i64 0) := by simp [World.cell?, hx8, markC]
        have m3 : w8.cell? ⟨mk, 3, none⟩ = some (.int .i64 ((cc : Int) + 1)) := by simp [World.cell?, hx8, markC, e1]
        have m4 : w8.cell? ⟨mk, 4, none⟩ = some (.slice none 0 0) := by simp [World.cell?, hx8, markC]
        have m5 : w8.cell? ⟨mk, 5, none⟩ = some (.int .i64 0) := by simp [World.cell?, hx8, markC]
        have m6 : w8.cell? ⟨mk, 6, none⟩ = some (.int .i64 0) := by simp [World.cell?, hx8, markC]
        have hml8 := (Array.getElem?_eq_some_iff.1 hx8).1
        have HX8 := hide (And.intro hx8 h08)
        clear hI8 hx8 h08 e1
        go_wp2_with
          ((at_builtin; refine wpList_append_x _ rfl _ _ 43 rfl B 52 i52 _ 7 72 Try.underlying43 (unhide HI52).1 (unhide HI52).2.1 (unhide HI52).2.2.1 (unhide HI52).2.2.2 rfl (by decide) (.slice la (n + k) lc) (n + k) _ rfl (unhide HM8) ⟨w8.heap.size, 0, none⟩ 1 1 [.int .i64 (-((cc : Int) + 1)), .int .i64 0, .int .i64 0, .int .i64 ((cc : Int) + 1), .slice none 0 0, .int .i64 0, .int .i64 0] rfl rfl (World.news_of_block (by exact blkN w8 _ _ rfl)) (by simp [Value.oneCell']) (by omega) (unhide HAL).1 (unhide HAL).2 (by simp; omega) ?_; intro g9 cap9 w9 hown9 hgr9;
            have HO9 := hide hown9; have HG9 := hide hgr9; clear hown9 hgr9))
        go_roundg (4 - (k + 1))
        case measure => have := unhide HZ; omega
        case rel =>
          have hO9 := unhide HO9
          rw [markC_eq] at hO9
          have hG9 := unhide HG9
          refine ⟨k + 1, by omega, rfl, by go_num, col4, rv4, ws ++ [.slice la (n + k) lc], by rw [List.length_append, unhide HWS]; rfl, ((unhide HI8).below ((Below.refl _ _).alloc (Nat.le_refl _) (.cells #[.int .i64 (-((cc : Int) + 1)), .int .i64 0, .int .i64 0, .int .i64 ((cc : Int) + 1), .slice none 0 0, .int .i64 0, .int .i64 0] 52))).grow hO9 hG9 (by simp; omega), ?_, (unhide HX8).2, ?_⟩
          · exact (kept_g hG9 (by simp; omega) (unhide HN6)).trans (blkA (unhide HX8).1)
          · intro e
            have e' : g9 = mk := by simpa [Value.ownBlock] using e
            rcases hG9 with ⟨h1, _⟩ | ⟨h1, _⟩
            · exact unhide HN6 (by rw [h1, e'])
            · rw [e', World.size_alloc] at h1
              omega
    · have hke : k = 4 := by omega
      have HID : Hid (TabOut w B col wb ln xs c (.slice ao n cap) R wr) := by
        have h1 := unhide HI
        subst hke
        exact unhide HOUT wr (h1.done (unhide HWS) (unhide HBW) (unhide HLB))
      clear HI HWS HM6 HR6 HRV hke c4 f4 c10 HXM HOUT
      go_wp2_with fail
      go_end0
      exact ⟨rfl, unhide HID⟩

end Go.Proofs.Ytgpplekabohneaa
