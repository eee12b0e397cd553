/- 'step' whole, 'played', 'Passes'. -/
import Derived.Test.YtgpplekabohneaaXm
import Derived.Test.YtgpplekabohneaaIa
import Derived.Test.YtgpplekabohneaaIb
namespace Go.Proofs.Ytgpplekabohneaa
open Go.RowKit

attribute [local go_sem ↓] Go.wp_at_zero Go.wp_at_succ

section
variable {w : World} {B : Nat} {col : Nat → Nat} {wb : Nat} {bs : List BX} {ps : List Pk} {nl yl : List (Value × Nat)} {c : Nat}

set_option maxRecDepth 100000 in
set_option maxHeartbeats 2000000 in
theorem wstep_1 (h : WI w B col wb bs ps nl yl c) (on a b : Int) (tp pp : Option Addr) (n tc pn pc : Nat) (ts : List Ten) (hS : B0.TenArg w (.slice tp n tc) ts) (hn : n = ts.length) (hn2 : n ≤ 4398046511104) :
    Calls Try.prog 24 #[.pointer (some ⟨wb, 0, none⟩), .agg #[.int .i64 1, .int .i64 on, .int .i64 a, .int .i64 b, .slice tp n tc, .slice pp pn pc]] w fun e w' => e = .returned (.bool true) ∧ StepOut w B col wb c w' := by
  have hb1 : ∀ X, Below w.heap.size w (w.alloc X) := fun X => (Below.refl _ _).alloc (Nat.le_refl _) X
  have HC := hide (fun X => B0.wbegins_any (h.below (hb1 X)) 1 on a b tp pp n tc pn pc ts (hS.keep (hb1 X).size (fun k hk => (hb1 X).block k hk)) hn hn2)
  have HB1 := hide hb1
  clear h hS hn hb1
  go_enter Try.func24, Try.ntmps24
  go_wp2_with fail
  refine (unhide HC _).mono ?_
  rintro e w' ⟨rfl, hO⟩
  have HO := hide hO
  clear hO HC
  go_wp2
  go_ret
  obtain ⟨col', bs', k1, k2⟩ := unhide HO
  exact ⟨rfl, col', bs', ps, nl, yl, c, k1, by omega, (Ext.below (unhide HB1 _)).trans k2⟩

set_option maxRecDepth 100000 in
set_option maxHeartbeats 2000000 in
theorem wstep_n (h : WI w B col wb bs ps nl yl c) (kd on a b : Int) (tp pp : Option Addr) (n tc pn pc : Nat) (hk1 : (kd == 1) = false) (hb0 : bs.length = 0) :
    Calls Try.prog 24 #[.pointer (some ⟨wb, 0, none⟩), .agg #[.int .i64 kd, .int .i64 on, .int .i64 a, .int .i64 b, .slice tp n tc, .slice pp pn pc]] w fun e w' => e = .returned (.bool true) ∧ StepOut w B col wb c w' := by
  obtain ⟨rv, ln, xs, hW, hX⟩ := h.rows
  have hr2 := WI.row2 hW hX
  obtain ⟨ba, bc, hrv, -, -, -⟩ := rowN_cells hr2.1
  obtain ⟨c0, -, -, -, -, -, -, -, -, -⟩ := hW.cells
  rw [hrv, hb0] at c0
  have ca : ∀ X, (w.alloc X).cell? ⟨wb, 0, none⟩ = some (.slice ba 0 bc) := fun X => cellA c0
  have HH := hide h
  clear hW hX hr2 hrv hb0 h
  go_enter Try.func24, Try.ntmps24
  go_wp2
  go_ret
  exact ⟨rfl, col, bs, ps, nl, yl, c, (unhide HH).below ((Below.refl _ _).alloc (Nat.le_refl _) _), by omega, Ext.below ((Below.refl _ _).alloc (Nat.le_refl _) _)⟩

theorem wstep_any (h : WI w B col wb bs ps nl yl c) (hc : c ≤ 800000000) (kd on a b : Int) (hkd : kd ≤ 5) (hon : -9223372036854775808 ≤ on ∧ on ≤ 9223372036854775807) (hbb : -9223372036854775808 ≤ b ∧ b ≤ 9223372036854775807) (tp pp : Option Addr) (n tc pn pc : Nat) (ts : List Ten) (hS : B0.TenArg w (.slice tp n tc) ts) (hn : n = ts.length) (hn2 : n ≤ 4398046511104) (pks : List Pk) (hpk : PkArg w col (.slice pp pn pc) pks) :
    Calls Try.prog 24 #[.pointer (some ⟨wb, 0, none⟩), .agg #[.int .i64 kd, .int .i64 on, .int .i64 a, .int .i64 b, .slice tp n tc, .slice pp pn pc]] w fun e w' => e = .returned (.bool true) ∧ StepOut w B col wb c w' := by
  by_cases h1 : kd = 1
  · subst h1
    exact wstep_1 h on a b tp pp n tc pn pc ts hS hn hn2
  · have b1 : (kd == 1) = false := by simpa using h1
    by_cases hb0 : bs.length = 0
    · exact wstep_n h kd on a b tp pp n tc pn pc b1 hb0
    · by_cases h2 : kd = 2
      · subst h2
        exact wstep_2 h hc on a b hon tp pp n tc pn pc hb0
      · by_cases h3 : kd = 3
        · subst h3
          exact wstep_3 h hc on a b hon tp pp n tc pn pc hb0
        · by_cases h4 : kd = 4
          · subst h4
            exact wstep_4 h hc on a b hon tp pp n tc pn pc hb0 pks hpk
          · by_cases h5 : kd = 5
            · subst h5
              exact wstep_5 h hc on a b hon tp pp n tc pn pc hb0 hbb
            · exact wstep_0 h hc kd on a b hon tp pp n tc pn pc hb0 b1 (by simpa using h2) (by simpa using h3) (by simpa using h4) (by simpa using h5) (by rw [beq_eq_false_iff_ne]; omega)

end

end Go.Proofs.Ytgpplekabohneaa

namespace Go.Proofs.Ytgpplekabohneaa
open Go.RowKit

attribute [local go_sem ↓] Go.wp_at_zero Go.wp_at_succ

/-- between two steps, whatever is in it -/
def GoodP (w : World) (B wb c : Nat) : Prop := ∃ col bs ps nl yl, WI w B col wb bs ps nl yl c

theorem GoodP.below {w w' : World} {B wb c : Nat} (h : GoodP w B wb c) (hb : Below w.heap.size w w') : GoodP w' B wb c := by
  obtain ⟨col, bs, ps, nl, yl, h⟩ := h
  exact ⟨col, bs, ps, nl, yl, h.below hb⟩

theorem Ext.low {w w' : World} {col col' : Nat → Nat} {B : Nat} (h : Ext w w' col col') (hcb : ∀ k, col k ≠ 0 → B ≤ k) (hB : B ≤ w.heap.size) : Below B w w' := by
  obtain ⟨⟨a1, a2, a3, a4, a5⟩, -⟩ := h
  exact ⟨a1, a2, a3, a4, fun k hk => a5 k (by omega) (fun hn => by have := hcb k hn; omega)⟩

theorem goodP_start (w : World) : GoodP (w.alloc (.cells #[.slice none 0 0, .slice none 0 0, .slice none 0 0, .slice none 0 0, .slice none 0 0, .slice none 0 0, .slice none 0 0, .slice none 0 0, .slice none 0 0, .slice none 0 0, .int .i64 0] 70)) w.heap.size w.heap.size 0 := by
  have hone : ∀ k, (fun k => if k = w.heap.size then 1 else 0) k ≠ 0 → k = w.heap.size := fun k hk => Classical.byContradiction (fun hn => hk (if_neg hn))
  refine ⟨fun k => if k = w.heap.size then 1 else 0, [], [], [], [], ⟨fun _ => .slice none 0 0, fun _ => 0, fun _ => [], ⟨blkN _ _ _ rfl, if_pos rfl, fun k hk => ?_, fun i _ _ => ⟨World.ownsRow_nil _ _ _ _, fun k hk => (by cases hk)⟩⟩, ⟨rfl, rfl, rfl, rfl, rfl, rfl, rfl, rfl, rfl, rfl, rfl, rfl⟩⟩, fun i hi => (by cases hi), fun p hp => (by cases hp), fun p hp => (by cases hp), (by simp), (by simp), (by simp)⟩
  have := hone k hk
  subst this
  exact ⟨Nat.le_refl _, by simp⟩

/-- one step of a script, as it lies in memory -/
structure OpP where
  kd : Int
  on : Int
  a : Int
  b : Int
  tp : Option Addr
  n : Nat
  tc : Nat
  pp : Option Addr
  pn : Nat
  pc : Nat
  ts : List Ten
  ps : List Pk

/-- a script in memory -/
def OpsP (w : World) (sb off : Nat) (l : List OpP) : Prop :=
  ∀ i (h : i < l.length), w.cell? ⟨sb, off + i * 6, none⟩ = some (.int .i64 l[i].kd) ∧ w.cell? ⟨sb, off + i * 6 + 1, none⟩ = some (.int .i64 l[i].on) ∧ w.cell? ⟨sb, off + i * 6 + 2, none⟩ = some (.int .i64 l[i].a) ∧ w.cell? ⟨sb, off + i * 6 + 3, none⟩ = some (.int .i64 l[i].b) ∧
    w.cell? ⟨sb, off + i * 6 + 4, none⟩ = some (.slice l[i].tp l[i].n l[i].tc) ∧ w.cell? ⟨sb, off + i * 6 + 5, none⟩ = some (.slice l[i].pp l[i].pn l[i].pc) ∧
    (-9223372036854775808 ≤ l[i].on ∧ l[i].on ≤ 9223372036854775807) ∧ (-9223372036854775808 ≤ l[i].b ∧ l[i].b ≤ 9223372036854775807) ∧ B0.TenArg w (.slice l[i].tp l[i].n l[i].tc) l[i].ts ∧ l[i].n = l[i].ts.length ∧ l[i].n ≤ 4398046511104 ∧ PkArg w (fun _ => 0) (.slice l[i].pp l[i].pn l[i].pc) l[i].ps

theorem PkArg.keep {w w' : World} {col col' : Nat → Nat} {v : Value} {l : List Pk} (h : PkArg w col v l) (hsz : w.heap.size ≤ w'.heap.size) (hk : ∀ k, k < w.heap.size → col k = 0 → col' k = 0 ∧ w'.heap[k]? = w.heap[k]?) : PkArg w' col' v l := by
  obtain ⟨ao, cap, h1, h2, h3, h4⟩ := h
  refine ⟨ao, cap, h1, h2, h3, fun h0 => ?_⟩
  obtain ⟨b, off, e, hb, hc, hcell⟩ := h4 h0
  exact ⟨b, off, e, by omega, (hk b hb hc).1, fun i hi o v hv => (World.cell?_of_block (a := ⟨b, off + i * 15 + o, none⟩) (hk b hb hc).2).trans (hcell i hi o v hv)⟩

def pStart : Pk := ⟨5, 1, true, 1, 70, 9, 53, false, false, false, false, 0, 0, 0, 0⟩

/-- the steps ahead of the script -/
theorem first_step {wr : World} {B c k : Nat} (hg : GoodP wr B B c) (hck : c ≤ 193 * k) (hk5 : k ≤ 5) :
    Calls Try.prog 24 #[.pointer (some ⟨B, 0, none⟩), .agg #[.int .i64 k, .int .i64 0, .int .i64 0, .int .i64 0, .slice (some ⟨wr.heap.size, 0, none⟩) 1 1, .slice (some ⟨wr.heap.size + 1, 0, none⟩) 1 1]] ((wr.alloc (.cells #[.int .i64 5, .int .i64 1000, .int .i64 20, .int .i64 21] 73)).alloc (.cells (pkC pStart) 38)) fun e w2 => e = .returned (.bool true) ∧ ∃ c2, c2 ≤ c + 193 ∧ GoodP w2 B B c2 ∧ Below B wr w2 := by
  obtain ⟨col, bs, ps, nl, yl, hWI⟩ := hg
  have hcb := hWI.cb
  have hBr : B ≤ wr.heap.size := by have := hWI.base; omega
  have hbx : Below wr.heap.size wr ((wr.alloc (.cells #[.int .i64 5, .int .i64 1000, .int .i64 20, .int .i64 21] 73)).alloc (.cells (pkC pStart) 38)) := ((Below.refl _ _).alloc (Nat.le_refl _) _).alloc (by simp) _
  have hz0 : ∀ q, wr.heap.size ≤ q → col q = 0 := fun q hq => Classical.byContradiction (fun hn => by have := (hcb q hn).2; omega)
  have hTS : B0.TenArg ((wr.alloc (.cells #[.int .i64 5, .int .i64 1000, .int .i64 20, .int .i64 21] 73)).alloc (.cells (pkC pStart) 38)) (.slice (some ⟨wr.heap.size, 0, none⟩) 1 1) [⟨5, 1000, 20, 21⟩] := by
    refine .inl (.inr ⟨wr.heap.size, 0, 1, rfl, trivial, Nat.le_refl _, by unfold maxLen; omega, by simp; omega, ?_⟩)
    exact B0.TenBlock.at (tt := [⟨5, 1000, 20, 21⟩]) (blkA (blkN _ _ _ rfl))
  have hPS : PkArg ((wr.alloc (.cells #[.int .i64 5, .int .i64 1000, .int .i64 20, .int .i64 21] 73)).alloc (.cells (pkC pStart) 38)) col (.slice (some ⟨wr.heap.size + 1, 0, none⟩) 1 1) [pStart] := by
    refine ⟨_, 1, rfl, Nat.le_refl _, by unfold maxLen; show 1 ≤ 2 ^ 63 - 1; omega, fun _ => ⟨wr.heap.size + 1, 0, rfl, by simp, hz0 _ (by omega), fun i hi o v hv => ?_⟩⟩
    have hi0 : i = 0 := by simpa using hi
    subst hi0
    have hb : ((wr.alloc (.cells #[.int .i64 5, .int .i64 1000, .int .i64 20, .int .i64 21] 73)).alloc (.cells (pkC pStart) 38)).heap[wr.heap.size + 1]? = some (.cells (pkC pStart) 38 (0, 0)) := blkN _ _ _ (by simp)
    have hv' : (pkC pStart).toList[o]? = some v := hv
    simp only [World.cell?, hb, Nat.zero_mul, Nat.zero_add]
    rw [Array.getElem?_toList] at hv'
    exact hv'
  refine (wstep_any (hWI.below hbx) (by omega) (k : Int) 0 0 0 (by omega) (by omega) (by omega) (some ⟨wr.heap.size, 0, none⟩) (some ⟨wr.heap.size + 1, 0, none⟩) 1 1 1 1 [⟨5, 1000, 20, 21⟩] hTS rfl (by omega) [pStart] hPS).mono ?_
  rintro e w2 ⟨rfl, col', bs', ps', nl', yl', c', k1, k2, k3⟩
  exact ⟨rfl, c', k2, ⟨col', bs', ps', nl', yl', k1⟩, (hbx.mono hBr).trans (k3.low (fun q hq => (hcb q hq).1) (by simp; omega))⟩

set_option maxRecDepth 100000 in
set_option maxHeartbeats 2000000 in
theorem playedP_some (w : World) (sb off m cap : Nat) (l : List OpP) (hm : m = l.length) (_hcap : m ≤ cap) (_hcm : cap ≤ maxLen) (hm2 : m ≤ 1100000) (hsb : sb < w.heap.size) (hO : OpsP w sb off l) :
    Calls Try.prog 13 #[.slice (some ⟨sb, off, none⟩) m cap, .int .i64 5] w fun e w' => e = .returned (.bool true) ∧ Below w.heap.size w w' := by
  have HO := hide hO
  have HM := hide hm
  clear hO hm
  go_enter Try.func13, Try.ntmps13
  go_wp2_with fail
  go_loopg [6, 7] 6 (fun z ok s wr => ok = .bool true ∧ ∃ k c : Nat, 1 ≤ k ∧ k ≤ 6 ∧ z = 6 - k + 1 ∧ s = .int .i64 k ∧ c ≤ 193 * k ∧ GoodP wr w.heap.size w.heap.size c ∧ Below w.heap.size w wr)
  case atStart => exact ⟨rfl, 1, 0, by omega, by omega, rfl, rfl, by omega, goodP_start w, (Below.refl _ _).alloc (Nat.le_refl _) _⟩
  case round =>
    obtain ⟨rfl, k, c, hk1, hk6, hz, rfl, hck, hg, hbl⟩ := hrel
    have HZ := hide hz
    have HBL := hide hbl
    have HG := hide hg
    have hsz := hbl.size
    clear hz
    by_cases hk5 : k ≤ 5
    · have hk5' : (k : Int) ≤ 5 := by omega
      have hk5d : decide ((k : Int) ≤ 5) = true := decide_eq_true hk5'
      have HC := hide (first_step hg hck hk5)
      clear hg hbl HG
      unfold pStart pkC at HC
      dsimp only at HC
      go_wp2_with fail
      refine (unhide HC).mono ?_
      rintro e w2 ⟨rfl, hO2⟩
      have HO2 := hide hO2
      clear hO2 HC
      go_wp2_with fail
      go_roundg (6 - (k + 1) + 1)
      case measure => have := unhide HZ; omega
      case rel =>
        obtain ⟨c2, hc2, hg2, hb2⟩ := unhide HO2
        exact ⟨rfl, k + 1, c2, by omega, by omega, rfl, by go_num, by omega, hg2, (unhide HBL).trans hb2⟩
    · have hk5' : ¬ (k : Int) ≤ 5 := by omega
      have hk5d : decide ((k : Int) ≤ 5) = false := decide_eq_false hk5'
      clear hg hbl
      obtain ⟨wo, hwo⟩ : ∃ wo, wo = wr := ⟨_, rfl⟩
      subst hwo
      go_wp2_with fail
      go_loopg [6, 8] m (fun z ok s wr => ok = .bool true ∧ ∃ i c : Nat, i ≤ m ∧ z = m - i ∧ s = .int .i64 i ∧ c ≤ 193 * (6 + i) ∧ GoodP wr w.heap.size w.heap.size c ∧ Below w.heap.size w wr)
      case atStart => exact ⟨rfl, 0, c, by omega, rfl, rfl, by omega, unhide HG, unhide HBL⟩
      case round =>
        clear HG HBL HZ
        obtain ⟨rfl, i, c1, hi, hz, rfl, hc1, hg, hbl⟩ := hrel
        have HZ := hide hz
        have HBL := hide hbl
        have HG := hide hg
        have hszr := hbl.size
        clear hz
        by_cases him : i < m
        · have hil : i < l.length := by have := unhide HM; omega
          obtain ⟨g0, g1, g2, g3, g4, g5, hon, hbb, hS, hn, hn2, hP⟩ := unhide HO i hil
          have lt : ∀ (o : Nat), wr.cell? ⟨sb, o, none⟩ = w.cell? ⟨sb, o, none⟩ := fun o => hbl.cell (p := ⟨sb, o, none⟩) hsb
          rw [← lt] at g0 g1 g2 g3 g4 g5
          have hSr := hS.keep hszr (fun k hk => hbl.block k hk)
          have him' : (i : Int) < (m : Int) := by omega
          obtain ⟨col, bs, ps, nl, yl, hWI⟩ := hg
          have hcb := hWI.cb
          have hPr := hP.keep (col' := col) hszr (fun k hk _ => ⟨Classical.byContradiction (fun hn => by have := (hcb k hn).1; omega), hbl.block k hk⟩)
          generalize l[i] = x at *
          obtain ⟨kd, on, a, b, tp, n, tc, pp, pn, pc, ts, pks⟩ := x
          simp only at g0 g1 g2 g3 g4 g5 hon hbb hSr hn hn2 hPr
          clear lt hS hP
          by_cases hk : kd ≤ 5
          · have hkd : decide (kd ≤ 5) = true := decide_eq_true hk
            have hkd2 : decide (5 < kd) = false := decide_eq_false (by omega)
            have HC := hide (wstep_any hWI (by omega) kd on a b hk hon hbb tp pp n tc pn pc ts hSr hn hn2 pks hPr)
            have HCB := hide hcb
            clear hbl hSr hn hon hbb hWI hcb hPr
            go_wp2_with fail
            refine (unhide HC).mono ?_
            rintro e w2 ⟨rfl, col', bs', ps', nl', yl', c2, k1, k2, k3⟩
            have HST := hide (wstill_any k1 (by omega))
            have HB2 : Hid (Below w.heap.size w w2) := (unhide HBL).trans (k3.low (fun q hq => (unhide HCB q hq).1) hszr)
            have HI2 := hide k1
            have hB2s : w.heap.size ≤ w2.heap.size := (unhide HB2).size
            clear k1 k3 HC HCB
            go_wp2_with fail
            refine (unhide HST).mono ?_
            rintro e w4 ⟨rfl, hb4⟩
            have HB4 := hide hb4
            clear hb4 HST
            go_wp2_with fail
            go_roundg (m - (i + 1))
            case measure => have := unhide HZ; omega
            case rel => exact ⟨rfl, i + 1, c2, by omega, rfl, by go_num, by omega, ⟨col', bs', ps', nl', yl', (unhide HI2).below (unhide HB4)⟩, (unhide HB2).trans ((unhide HB4).mono hB2s)⟩
          · have hk' : 5 < kd := by omega
            have hkd2 : decide (5 < kd) = true := decide_eq_true hk'
            clear hbl hSr hn hon hbb hk hWI hcb hPr
            go_wp2_with fail
            go_roundg (m - (i + 1))
            case measure => have := unhide HZ; omega
            case rel => exact ⟨rfl, i + 1, c1, by omega, rfl, by go_num, by omega, unhide HG, unhide HBL⟩
        · have him' : ¬ (i : Int) < (m : Int) := by omega
          clear hg hbl
          go_wp2
          go_ret
          exact ⟨rfl, unhide HBL⟩

set_option maxRecDepth 100000 in
set_option maxHeartbeats 2000000 in
theorem playedP_nil (tp : Option Addr) (tc : Nat) (w : World) :
    Calls Try.prog 13 #[.slice tp 0 tc, .int .i64 5] w fun e w' => e = .returned (.bool true) ∧ Below w.heap.size w w' := by
  go_enter Try.func13, Try.ntmps13
  go_wp2_with fail
  go_loopg [6, 7] 6 (fun z ok s wr => ok = .bool true ∧ ∃ k c : Nat, 1 ≤ k ∧ k ≤ 6 ∧ z = 6 - k + 1 ∧ s = .int .i64 k ∧ c ≤ 193 * k ∧ GoodP wr w.heap.size w.heap.size c ∧ Below w.heap.size w wr)
  case atStart => exact ⟨rfl, 1, 0, by omega, by omega, rfl, rfl, by omega, goodP_start w, (Below.refl _ _).alloc (Nat.le_refl _) _⟩
  case round =>
    obtain ⟨rfl, k, c, hk1, hk6, hz, rfl, hck, hg, hbl⟩ := hrel
    have HZ := hide hz
    have HBL := hide hbl
    have HG := hide hg
    have hsz := hbl.size
    clear hz
    by_cases hk5 : k ≤ 5
    · have hk5' : (k : Int) ≤ 5 := by omega
      have hk5d : decide ((k : Int) ≤ 5) = true := decide_eq_true hk5'
      have HC := hide (first_step hg hck hk5)
      clear hg hbl HG
      unfold pStart pkC at HC
      dsimp only at HC
      go_wp2_with fail
      refine (unhide HC).mono ?_
      rintro e w2 ⟨rfl, hO2⟩
      have HO2 := hide hO2
      clear hO2 HC
      go_wp2_with fail
      go_roundg (6 - (k + 1) + 1)
      case measure => have := unhide HZ; omega
      case rel =>
        obtain ⟨c2, hc2, hg2, hb2⟩ := unhide HO2
        exact ⟨rfl, k + 1, c2, by omega, by omega, rfl, by go_num, by omega, hg2, (unhide HBL).trans hb2⟩
    · have hk5' : ¬ (k : Int) ≤ 5 := by omega
      have hk5d : decide ((k : Int) ≤ 5) = false := decide_eq_false hk5'
      clear hg hbl
      obtain ⟨wo, hwo⟩ : ∃ wo, wo = wr := ⟨_, rfl⟩
      subst hwo
      go_wp2_with fail
      go_loopg [6, 8] 1 (fun z ok s wr => ok = .bool true ∧ s = .int .i64 0 ∧ wr = wo)
      case atStart => exact ⟨rfl, rfl, rfl⟩
      case round =>
        obtain ⟨rfl, rfl, hwr⟩ := hrel
        have hwr2 := hwr.symm
        subst hwr2
        clear hwr
        go_wp2
        go_ret
        exact ⟨rfl, unhide HBL⟩

theorem passes_some (w : World) (sb off m cap : Nat) (l : List OpP) (hm : m = l.length) (hcap : m ≤ cap) (hcm : cap ≤ maxLen) (hm2 : m ≤ 1100000) (hsb : sb < w.heap.size) (hO : OpsP w sb off l) :
    Calls Try.prog 4 #[.slice (some ⟨sb, off, none⟩) m cap] w fun e w' => e = .returned (.bool true) ∧ Below w.heap.size w w' := by
  have HC := hide (playedP_some w sb off m cap l hm hcap hcm hm2 hsb hO)
  clear hO hm
  go_enter Try.func4, Try.ntmps4
  go_wp2_with fail
  refine (unhide HC).mono ?_
  rintro e w' ⟨rfl, hb⟩
  have HB := hide hb
  clear hb HC
  go_wp2
  go_ret
  exact ⟨rfl, unhide HB⟩

theorem passes_nil (tp : Option Addr) (tc : Nat) (w : World) : Calls Try.prog 4 #[.slice tp 0 tc] w fun e w' => e = .returned (.bool true) ∧ Below w.heap.size w w' := by
  have HC := hide (playedP_nil tp tc w)
  go_enter Try.func4, Try.ntmps4
  go_wp2_with fail
  refine (unhide HC).mono ?_
  rintro e w' ⟨rfl, hb⟩
  have HB := hide hb
  clear hb HC
  go_wp2
  go_ret
  exact ⟨rfl, unhide HB⟩

end Go.Proofs.Ytgpplekabohneaa
