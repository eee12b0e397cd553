/- 'played' and 'Boxes': whatever the script, true. -/
import Derived.Test.YtgpplekabohneaaHj
namespace Go.Proofs.Ytgpplekabohneaa.B0
open Go.RowKit

attribute [local go_sem ↓] Go.wp_at_zero Go.wp_at_succ

theorem step_any (w : World) (B wb c : Nat) (h : Good w B wb c) (hc : c ≤ 1760000000000) (kd on a b : Int) (hkd : kd ≤ 3) (hon : -9223372036854775808 ≤ on ∧ on ≤ 9223372036854775807) (tp pp : Option Addr) (n tc pn pc : Nat) (ts : List Ten) (hS : TenArg w (.slice tp n tc) ts) (hn : n = ts.length) (hn2 : n ≤ 4398046511104) :
    Calls Try.prog 24 #[.pointer (some ⟨wb, 0, none⟩), .agg #[.int .i64 kd, .int .i64 on, .int .i64 a, .int .i64 b, .slice tp n tc, .slice pp pn pc]] w fun e w' =>
      e = .returned (.bool true) ∧ Below B w w' ∧ ∃ c', c' ≤ c + 1 ∧ Good w' B wb c' := by
  by_cases h1 : kd = 1
  · subst h1
    refine (step_new w B wb c h on a b tp pp n tc pn pc ts hS hn hn2).mono ?_
    rintro e w' ⟨he, hb, hg⟩
    exact ⟨he, hb, c, by omega, hg⟩
  · exact step_other w B wb c h hc kd on a b hon tp pp n tc pn pc (by rw [beq_eq_false_iff_ne]; exact h1) hkd

theorem good_start (w : World) : Good (w.alloc (.cells #[.slice none 0 0, .slice none 0 0, .slice none 0 0, .slice none 0 0, .slice none 0 0, .slice none 0 0, .slice none 0 0, .slice none 0 0, .slice none 0 0, .slice none 0 0, .int .i64 0] 70)) w.heap.size w.heap.size 0 := by
  have hnil : ∀ (v : Value), Dis v nilS := fun v k _ e => by simp [nilS, Value.ownBlock] at e
  have hno : ∀ k, nilS.ownBlock ≠ some k := fun k e => by simp [nilS, Value.ownBlock] at e
  refine ⟨[], nilS, nilS, nilS, [], [], ⟨?_, Nat.le_refl _, World.ownsRow_nil _ _ _ _, World.ownsRow_nil _ _ _ _, World.ownsRow_nil _ _ _ _, World.ownsRow_nil _ _ _ _, rfl, by simp, hno _, hno _, hno _, hno _, hnil _, hnil _, hnil _, hnil _, hnil _, hnil _, by simp, by simp, by simp, by simp, by simp⟩, by simp⟩
  exact blkN _ _ _ rfl

/-- one step of a script, as it lies in memory -/
structure OpD where
  kd : Int
  on : Int
  a : Int
  b : Int
  tp : Option Addr
  n : Nat
  tc : Nat
  pp : Option Addr
  pn : Nat
  pc : Nat
  ts : List Ten

/-- a script in memory -/
def OpsAt (w : World) (sb off : Nat) (l : List OpD) : Prop :=
  ∀ i (h : i < l.length), w.cell? ⟨sb, off + i * 6, none⟩ = some (.int .i64 l[i].kd) ∧ w.cell? ⟨sb, off + i * 6 + 1, none⟩ = some (.int .i64 l[i].on) ∧ w.cell? ⟨sb, off + i * 6 + 2, none⟩ = some (.int .i64 l[i].a) ∧ w.cell? ⟨sb, off + i * 6 + 3, none⟩ = some (.int .i64 l[i].b) ∧
    w.cell? ⟨sb, off + i * 6 + 4, none⟩ = some (.slice l[i].tp l[i].n l[i].tc) ∧ w.cell? ⟨sb, off + i * 6 + 5, none⟩ = some (.slice l[i].pp l[i].pn l[i].pc) ∧
    (-9223372036854775808 ≤ l[i].on ∧ l[i].on ≤ 9223372036854775807) ∧ TenArg w (.slice l[i].tp l[i].n l[i].tc) l[i].ts ∧ l[i].n = l[i].ts.length ∧ l[i].n ≤ 4398046511104

set_option maxRecDepth 100000 in
set_option maxHeartbeats 1000000 in
theorem played_some (w : World) (sb off m cap : Nat) (l : List OpD) (hm : m = l.length) (_hcap : m ≤ cap) (_hcm : cap ≤ maxLen) (hm2 : m ≤ 1759218604441) (hsb : sb < w.heap.size) (hO : OpsAt w sb off l) :
    Calls Try.prog 13 #[.slice (some ⟨sb, off, none⟩) m cap, .int .i64 3] w fun e w' => e = .returned (.bool true) ∧ Below w.heap.size w w' := by
  have HO := hide hO
  have HM := hide hm
  clear hO hm
  go_enter Try.func13, Try.ntmps13
  go_wp2
  go_loopg [6, 7] 4 (fun z ok s wr => ok = .bool true ∧ ∃ k c : Nat, 1 ≤ k ∧ k ≤ 4 ∧ z = 4 - k + 1 ∧ s = .int .i64 k ∧ c < k ∧ Good wr w.heap.size w.heap.size c ∧ Below w.heap.size w wr)
  case atStart => exact ⟨rfl, 1, 0, by omega, by omega, rfl, rfl, by omega, good_start w, (Below.refl _ _).alloc (Nat.le_refl _) _⟩
  case round =>
    obtain ⟨rfl, k, c, hk1, hk4, hz, rfl, hck, hg, hbl⟩ := hrel
    have HZ := hide hz
    have HBL := hide hbl
    have HG := hide hg
    have hsz := hbl.size
    clear hz
    by_cases hk3 : k ≤ 3
    · have hk3' : (k : Int) ≤ 3 := by omega
      have hbx : ∀ X Y, Below wr.heap.size wr ((wr.alloc X).alloc Y) := fun X Y => ((Below.refl _ _).alloc (Nat.le_refl _) X).alloc (by simp) Y
      have hTS : ∀ Y, TenArg ((wr.alloc (.cells #[.int .i64 5, .int .i64 1000, .int .i64 20, .int .i64 21] 73)).alloc Y) (.slice (some ⟨wr.heap.size, 0, none⟩) 1 1) [⟨5, 1000, 20, 21⟩] := fun Y => by
        refine .inl (.inr ⟨wr.heap.size, 0, 1, rfl, trivial, Nat.le_refl _, by unfold maxLen; omega, by simp; omega, ?_⟩)
        exact TenBlock.at (tt := [⟨5, 1000, 20, 21⟩]) (blkA (blkN _ _ _ rfl))
      have HC := hide (fun Y pp pn pc => step_any _ w.heap.size w.heap.size c ((unhide HG).below (hbx (.cells #[.int .i64 5, .int .i64 1000, .int .i64 20, .int .i64 21] 73) Y)) (by omega) (k : Int) 0 0 0 hk3' (by omega) (some ⟨wr.heap.size, 0, none⟩) pp 1 1 pn pc [⟨5, 1000, 20, 21⟩] (hTS Y) rfl (by omega))
      have HBX := hide hbx
      clear hg hbl hbx hTS
      go_wp2_with fail
      refine (unhide HC _ _ _ _).mono ?_
      rintro e w2 ⟨rfl, hb2, c2, hc2, hg2⟩
      have HB2 := hide hb2
      have HG2 := hide hg2
      clear hb2 hg2 HC
      go_wp2
      go_roundg (4 - (k + 1) + 1)
      case measure => have := unhide HZ; omega
      case rel => exact ⟨rfl, k + 1, c2, by omega, by omega, rfl, by go_num, by omega, unhide HG2, (unhide HBL).trans (((unhide HBX _ _).mono hsz).trans (unhide HB2))⟩
    · have hk3' : ¬ (k : Int) ≤ 3 := by omega
      clear hg hbl
      obtain ⟨wo, hwo⟩ : ∃ wo, wo = wr := ⟨_, rfl⟩
      subst hwo
      go_wp2
      go_loopg [6, 8] m (fun z ok s wr => ok = .bool true ∧ ∃ i c : Nat, i ≤ m ∧ z = m - i ∧ s = .int .i64 i ∧ c ≤ 3 + i ∧ Good wr w.heap.size w.heap.size c ∧ Below w.heap.size w wr)
      case atStart => exact ⟨rfl, 0, c, by omega, rfl, rfl, by omega, unhide HG, unhide HBL⟩
      case round =>
        clear HG HBL HZ
        obtain ⟨rfl, i, c1, hi, hz, rfl, hc1, hg, hbl⟩ := hrel
        have HZ := hide hz
        have HBL := hide hbl
        have HG := hide hg
        have hszr := hbl.size
        clear hz
        by_cases him : i < m
        · have hil : i < l.length := by have := unhide HM; omega
          obtain ⟨g0, g1, g2, g3, g4, g5, hon, hS, hn, hn2⟩ := unhide HO i hil
          have lt : ∀ (o : Nat), wr.cell? ⟨sb, o, none⟩ = w.cell? ⟨sb, o, none⟩ := fun o => hbl.cell (p := ⟨sb, o, none⟩) hsb
          rw [← lt] at g0 g1 g2 g3 g4 g5
          have hSr := hS.keep hszr (fun k hk => hbl.block k hk)
          have him' : (i : Int) < (m : Int) := by omega
          generalize l[i] = x at *
          obtain ⟨kd, on, a, b, tp, n, tc, pp, pn, pc, ts⟩ := x
          simp only at g0 g1 g2 g3 g4 g5 hon hSr hn hn2
          clear lt hS
          by_cases hk : kd ≤ 3
          · have HC := hide (step_any wr w.heap.size w.heap.size c1 hg (by omega) kd on a b hk hon tp pp n tc pn pc ts hSr hn hn2)
            clear hg hbl hSr hn hon
            go_wp2_with fail
            refine (unhide HC).mono ?_
            rintro e w2 ⟨rfl, hb2, c2, hc2, bs, bv, mv, zv, ys, cs, hI⟩
            have HST := hide (still_any w2 w.heap.size w.heap.size bs bv mv zv ys cs c2 hI (by omega))
            have HB2 := hide hb2
            have HI2 := hide hI
            have hB2s : w.heap.size ≤ w2.heap.size := Nat.le_trans hszr hb2.size
            clear hb2 hI HC
            go_wp2_with fail
            refine (unhide HST).mono ?_
            rintro e w4 ⟨rfl, hb4⟩
            have HB4 := hide hb4
            clear hb4 HST
            go_wp2
            go_roundg (m - (i + 1))
            case measure => have := unhide HZ; omega
            case rel => exact ⟨rfl, i + 1, c2, by omega, rfl, by go_num, by omega, ⟨_, _, _, _, _, _, (unhide HI2).below (unhide HB4)⟩, (unhide HBL).trans ((unhide HB2).trans ((unhide HB4).mono hB2s))⟩
          · have hk' : 3 < kd := by omega
            clear hg hbl hSr hn hon hk
            go_wp2
            go_roundg (m - (i + 1))
            case measure => have := unhide HZ; omega
            case rel => exact ⟨rfl, i + 1, c1, by omega, rfl, by go_num, by omega, unhide HG, unhide HBL⟩
        · have him' : ¬ (i : Int) < (m : Int) := by omega
          clear hg hbl
          go_wp2
          go_ret
          exact ⟨rfl, unhide HBL⟩

set_option maxRecDepth 100000 in
set_option maxHeartbeats 1000000 in
theorem played_nil (tp : Option Addr) (tc : Nat) (w : World) :
    Calls Try.prog 13 #[.slice tp 0 tc, .int .i64 3] w fun e w' => e = .returned (.bool true) ∧ Below w.heap.size w w' := by
  go_enter Try.func13, Try.ntmps13
  go_wp2
  go_loopg [6, 7] 4 (fun z ok s wr => ok = .bool true ∧ ∃ k c : Nat, 1 ≤ k ∧ k ≤ 4 ∧ z = 4 - k + 1 ∧ s = .int .i64 k ∧ c < k ∧ Good wr w.heap.size w.heap.size c ∧ Below w.heap.size w wr)
  case atStart => exact ⟨rfl, 1, 0, by omega, by omega, rfl, rfl, by omega, good_start w, (Below.refl _ _).alloc (Nat.le_refl _) _⟩
  case round =>
    obtain ⟨rfl, k, c, hk1, hk4, hz, rfl, hck, hg, hbl⟩ := hrel
    have HZ := hide hz
    have HBL := hide hbl
    have HG := hide hg
    have hsz := hbl.size
    clear hz
    by_cases hk3 : k ≤ 3
    · have hk3' : (k : Int) ≤ 3 := by omega
      have hbx : ∀ X Y, Below wr.heap.size wr ((wr.alloc X).alloc Y) := fun X Y => ((Below.refl _ _).alloc (Nat.le_refl _) X).alloc (by simp) Y
      have hTS : ∀ Y, TenArg ((wr.alloc (.cells #[.int .i64 5, .int .i64 1000, .int .i64 20, .int .i64 21] 73)).alloc Y) (.slice (some ⟨wr.heap.size, 0, none⟩) 1 1) [⟨5, 1000, 20, 21⟩] := fun Y => by
        refine .inl (.inr ⟨wr.heap.size, 0, 1, rfl, trivial, Nat.le_refl _, by unfold maxLen; omega, by simp; omega, ?_⟩)
        exact TenBlock.at (tt := [⟨5, 1000, 20, 21⟩]) (blkA (blkN _ _ _ rfl))
      have HC := hide (fun Y pp pn pc => step_any _ w.heap.size w.heap.size c ((unhide HG).below (hbx (.cells #[.int .i64 5, .int .i64 1000, .int .i64 20, .int .i64 21] 73) Y)) (by omega) (k : Int) 0 0 0 hk3' (by omega) (some ⟨wr.heap.size, 0, none⟩) pp 1 1 pn pc [⟨5, 1000, 20, 21⟩] (hTS Y) rfl (by omega))
      have HBX := hide hbx
      clear hg hbl hbx hTS
      go_wp2_with fail
      refine (unhide HC _ _ _ _).mono ?_
      rintro e w2 ⟨rfl, hb2, c2, hc2, hg2⟩
      have HB2 := hide hb2
      have HG2 := hide hg2
      clear hb2 hg2 HC
      go_wp2
      go_roundg (4 - (k + 1) + 1)
      case measure => have := unhide HZ; omega
      case rel => exact ⟨rfl, k + 1, c2, by omega, by omega, rfl, by go_num, by omega, unhide HG2, (unhide HBL).trans (((unhide HBX _ _).mono hsz).trans (unhide HB2))⟩
    · have hk3' : ¬ (k : Int) ≤ 3 := by omega
      clear hg hbl
      obtain ⟨wo, hwo⟩ : ∃ wo, wo = wr := ⟨_, rfl⟩
      subst hwo
      go_wp2
      go_loopg [6, 8] 1 (fun z ok s wr => ok = .bool true ∧ s = .int .i64 0 ∧ wr = wo)
      case atStart => exact ⟨rfl, rfl, rfl⟩
      case round =>
        obtain ⟨rfl, rfl, hwr⟩ := hrel
        have hwr2 := hwr.symm
        subst hwr2
        clear hwr
        go_wp2
        go_ret
        exact ⟨rfl, unhide HBL⟩

/-- 'Boxes' -/
theorem boxes_some (w : World) (sb off m cap : Nat) (l : List OpD) (hm : m = l.length) (hcap : m ≤ cap) (hcm : cap ≤ maxLen) (hm2 : m ≤ 1759218604441) (hsb : sb < w.heap.size) (hO : OpsAt w sb off l) :
    Calls Try.prog 3 #[.slice (some ⟨sb, off, none⟩) m cap] w fun e w' => e = .returned (.bool true) ∧ Below w.heap.size w w' := by
  have HC := hide (played_some w sb off m cap l hm hcap hcm hm2 hsb hO)
  clear hm hO
  go_enter Try.func3, Try.ntmps3
  go_wp2_with fail
  refine (unhide HC).mono ?_
  rintro e w' ⟨rfl, hb⟩
  have HB := hide hb
  clear hb
  go_wp2
  go_ret
  exact ⟨rfl, unhide HB⟩

theorem boxes_nil (tp : Option Addr) (tc : Nat) (w : World) : Calls Try.prog 3 #[.slice tp 0 tc] w fun e w' => e = .returned (.bool true) ∧ Below w.heap.size w w' := by
  have HC := hide (played_nil tp tc w)
  go_enter Try.func3, Try.ntmps3
  go_wp2_with fail
  refine (unhide HC).mono ?_
  rintro e w' ⟨rfl, hb⟩
  have HB := hide hb
  clear hb
  go_wp2
  go_ret
  exact ⟨rfl, unhide HB⟩

end Go.Proofs.Ytgpplekabohneaa.B0
