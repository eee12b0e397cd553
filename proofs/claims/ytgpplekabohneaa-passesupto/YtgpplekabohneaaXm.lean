/- 'step' of the statement: Table, Tick, none. -/
import Derived.Test.YtgpplekabohneaaJt
import Derived.Test.YtgpplekabohneaaXl
import Derived.Test.YtgpplekabohneaaJo
import Derived.Test.YtgpplekabohneaaJm
import Derived.Test.YtgpplekabohneaaJn
import Derived.Deep.RegionHeld3
import Derived.Deep.CutRange
import Derived.Deep.CutBlock
namespace Go.Proofs.Ytgpplekabohneaa
open Go.RowKit

attribute [local go_sem ↓] Go.wp_at_zero Go.wp_at_succ

theorem wpick_eq (c : Int) (n : Nat) (w : World) (hc : -9223372036854775808 ≤ c) (hc' : c ≤ 9223372036854775807) (hn : 0 < n) (hn' : n ≤ 500) :
    Calls Try.prog 34 #[.int .i64 c, .int .i64 n] w fun e w' => e = .returned (.int .i64 (B0.pk c n)) ∧ w' = w := by
  by_cases h1 : c < 0
  · have hq : Hid (-((c + 1).tmod n) = (B0.pk c n : Int)) := by
      show -((c + 1).tmod n) = (B0.pk c n : Int)
      unfold B0.pk
      rw [if_pos h1]
      obtain ⟨m, hm⟩ := Int.eq_ofNat_of_zero_le (show 0 ≤ -(c + 1) by omega)
      have e : c + 1 = -(m : Int) := by omega
      rw [e, Int.neg_tmod, Int.neg_neg, Int.tmod_eq_emod_of_nonneg (by omega)]
      simp
    go_enter Try.func34, Try.ntmps34
    go_wp2
    go_ret
    exact ⟨by rw [hq.out]; rfl, rfl⟩
  · have hq : Hid (c % (n : Int) = (B0.pk c n : Int)) := by
      show c % (n : Int) = (B0.pk c n : Int)
      unfold B0.pk
      rw [if_neg h1]
      obtain ⟨m, hm⟩ := Int.eq_ofNat_of_zero_le (show 0 ≤ c by omega)
      rw [hm]
      simp
    go_enter Try.func34, Try.ntmps34
    go_wp2
    go_ret
    exact ⟨by rw [hq.out]; rfl, rfl⟩

theorem boxC_at : ∀ (bs : List BX) (i : Nat) (h : i < bs.length), (boxC bs)[i * 2]? = some (.pointer (some ⟨bs[i].b, 0, none⟩)) ∧ (boxC bs)[i * 2 + 1]? = some (.pointer (some ⟨bs[i].r, 0, none⟩))
  | x :: r, 0, _ => ⟨rfl, rfl⟩
  | x :: r, i + 1, h => by
    have := boxC_at r i (by simpa using h)
    have e : boxC (x :: r) = .pointer (some ⟨x.b, 0, none⟩) :: .pointer (some ⟨x.r, 0, none⟩) :: boxC r := rfl
    rw [e, show (i + 1) * 2 = i * 2 + 1 + 1 by omega]
    simpa using this

def StepOut (w : World) (B : Nat) (col : Nat → Nat) (wb : Nat) (c : Nat) (w' : World) : Prop :=
  ∃ col' bs' ps' nl' yl' c', WI w' B col' wb bs' ps' nl' yl' c' ∧ c' ≤ c + 193 ∧ Ext w w' col col'

/-- P3, at whatever number -/
def tkB (n : Int) (BB : List (Int × Tn)) : List (Int × Tn) := if n < 0 ∨ 100000 < n then BB else tickB n BB
def tkE (n : Int) : Int := if n < 0 ∨ 100000 < n then 6 else 0

set_option maxHeartbeats 1000000 in
theorem ptick_any {w : World} {F : Nat → Prop} {b : Nat} {BB : List (Int × Tn)} (h : BoxR w F b BB) (n : Int) :
    Calls Try.prog 16 #[.pointer (some ⟨b, 0, none⟩), .int .i64 n] w fun e w' => e = .returned (.int .i64 (tkE n)) ∧ BoxR w' (grow F w w') b (tkB n BB) ∧ Fr F w w' := by
  have hst : BoxR w (grow F w w) b BB := h.mono (fun k hk => .inl hk) (fun k hk => by
    rcases hk with hk | hk
    · obtain ⟨_, _, _, _, _, h4⟩ := h
      exact h4 k hk
    · exact hk.2)
  unfold tkE tkB
  by_cases h1 : n < 0
  · rw [if_pos (.inl h1), if_pos (.inl h1)]
    have HS := hide hst
    clear h hst
    go_enter Try.func16, Try.ntmps16
    go_wp2
    go_ret
    exact ⟨rfl, unhide HS, Fr.refl _ _⟩
  · by_cases h2 : 100000 < n
    · rw [if_pos (.inr h2), if_pos (.inr h2)]
      have HS := hide hst
      clear h hst
      go_enter Try.func16, Try.ntmps16
      go_wp2
      go_ret
      exact ⟨rfl, unhide HS, Fr.refl _ _⟩
    · rw [if_neg (by omega), if_neg (by omega)]
      exact Tick_ok h n (by omega) (by omega)

theorem rtick_all {w : World} {S : Nat → Prop} {r : Nat} {tv lv : Value} {ts : List Ten} {L : List RCl} (h : RefR w S r tv lv ts L) (n : Int) (hI : ∀ x ∈ L, 0 ≤ x.m.idle ∧ x.m.idle < 1000) :
    Calls Try.prog 36 #[.pointer (some ⟨r, 0, none⟩), .int .i64 n] w fun e w' => e = .returned (.int .i64 (tkE n)) ∧ ∃ L' lv', RefR w' (grow S w w') r tv lv' ts L' ∧ Fr S w w' ∧ absB ts L' = tkB n (absB ts L) ∧ ∀ j, absM L j = [] → absM L' j = [] := by
  unfold tkE tkB
  by_cases h1 : n < 0 ∨ 100000 < n
  · rw [if_pos h1, if_pos h1]
    refine (rtick_bad n h1).mono ?_
    rintro e w' ⟨rfl, rfl⟩
    exact ⟨rfl, L, lv, h.grown (Below.refl _ _), Fr.refl _ _, rfl, fun _ hj => hj⟩
  · rw [if_neg h1, if_neg h1]
    refine (rtick_any h n (by omega) (by omega) hI).mono ?_
    rintro e w' ⟨rfl, lv', hR, hF⟩
    exact ⟨rfl, tickR n L, lv', hR, hF, tickR_absB n ts L, fun j hj => by rw [tickR_abs, hj]; rfl⟩

theorem tkB_ok {BB : List (Int × Tn)} (n : Int) (h1 : okXB BB) (h2 : okPB BB) : okXB (tkB n BB) ∧ okPB (tkB n BB) := by
  unfold tkB
  split
  · exact ⟨h1, h2⟩
  · exact ⟨h1.tick n, h2.tick n⟩

theorem pksC_at (l : List Pk) : ∀ (j o : Nat) (hj : j < l.length), o < 15 → (pksC l)[j * 15 + o]? = (pkC l[j]).toList[o]? := by
  induction l with
  | nil => intro j o hj; cases hj
  | cons y r ih =>
    intro j o hj ho
    have hc : pksC (y :: r) = (pkC y).toList ++ pksC r := rfl
    have hl : (pkC y).toList.length = 15 := rfl
    rw [hc]
    cases j with
    | zero =>
      rw [Nat.zero_mul, Nat.zero_add, List.getElem?_append_left (by rw [hl]; exact ho)]
      rfl
    | succ j =>
      rw [List.getElem?_append_right (by rw [hl]; omega), hl, show (j + 1) * 15 + o - 15 = j * 15 + o by omega]
      exact ih j o (by simpa using hj) ho

/-- packets in memory -/
def PkArg (w : World) (col : Nat → Nat) (v : Value) (l : List Pk) : Prop :=
  ∃ ao cap, v = .slice ao l.length cap ∧ l.length ≤ cap ∧ cap ≤ maxLen ∧ (0 < l.length → ∃ b off, ao = some ⟨b, off, none⟩ ∧ b < w.heap.size ∧ col b = 0 ∧ ∀ i (h : i < l.length) o v, (pkC l[i]).toList[o]? = some v → w.cell? ⟨b, off + i * 15 + o, none⟩ = some v)

end Go.Proofs.Ytgpplekabohneaa

namespace Go.Proofs.Ytgpplekabohneaa
open Go.RowKit

attribute [local go_sem ↓] Go.wp_at_zero Go.wp_at_succ

set_option maxRecDepth 100000 in
set_option maxHeartbeats 4000000 in
theorem wstep_2 {w : World} {B : Nat} {col : Nat → Nat} {wb : Nat} {bs : List BX} {ps : List Pk} {nl yl : List (Value × Nat)} {c : Nat} (h : WI w B col wb bs ps nl yl c) (hc : c ≤ 800000000) (on a b : Int) (hon : -9223372036854775808 ≤ on ∧ on ≤ 9223372036854775807) (tp pp : Option Addr) (tn tc pn pc : Nat) (hb0 : bs.length ≠ 0) :
    Calls Try.prog 24 #[.pointer (some ⟨wb, 0, none⟩), .agg #[.int .i64 2, .int .i64 on, .int .i64 a, .int .i64 b, .slice tp tn tc, .slice pp pn pc]] w fun e w' => e = .returned (.bool true) ∧ StepOut w B col wb c w' := by
  obtain ⟨rv, ln, xs, hW, hX⟩ := h.rows
  have hr2 := WI.row2 hW hX
  obtain ⟨ba, bc, hrv, bk1, bk2, bk3⟩ := rowN_cells hr2.1
  obtain ⟨gb, rfl, hgb, hbcell⟩ := bk3 (by omega)
  obtain ⟨c0, -, -, -, -, -, -, -, -, -⟩ := hW.cells
  rw [hrv] at c0
  have hb8 := h.nb
  have HH := hide h
  have HC := hide hc
  have HON := hide hon
  have HBC := hide hbcell
  have hb0' : ((bs.length : Int) == 0) = false := by rw [beq_eq_false_iff_ne]; omega
  have ca : ∀ X, (w.alloc X).cell? ⟨wb, 0, none⟩ = some (.slice (some ⟨gb, 0, none⟩) bs.length bc) := fun X => cellA c0
  unfold maxLen at bk2
  clear hW hX hr2 hrv bk3 hbcell hc h
  go_enter Try.func24, Try.ntmps24
  go_upto_region 5 with fail
  have ob : (w.alloc (.cells #[.int .i64 2, .int .i64 on, .int .i64 a, .int .i64 b, .slice tp tn tc, .slice pp pn pc] 76)).heap[w.heap.size]? = some (.cells #[.int .i64 2, .int .i64 on, .int .i64 a, .int .i64 b, .slice tp tn tc, .slice pp pn pc] 76 (0, 0)) := blkN _ _ _ rfl
  have a0 := ca (.cells #[.int .i64 2, .int .i64 on, .int .i64 a, .int .i64 b, .slice tp tn tc, .slice pp pn pc] 76)
  have hbw1 : Below w.heap.size w (w.alloc (.cells #[.int .i64 2, .int .i64 on, .int .i64 a, .int .i64 b, .slice tp tn tc, .slice pp pn pc] 76)) := (Below.refl _ _).alloc (Nat.le_refl _) _
  have hbc2 : ∀ (j : Nat) (u : Value), (boxC bs)[j]? = some u → (w.alloc (.cells #[.int .i64 2, .int .i64 on, .int .i64 a, .int .i64 b, .slice tp tn tc, .slice pp pn pc] 76)).cell? ⟨gb, j, none⟩ = some u := fun j u hu => cellA (unhide HBC j u hu)
  generalize w.alloc (.cells #[.int .i64 2, .int .i64 on, .int .i64 a, .int .i64 b, .slice tp tn tc, .slice pp pn pc] 76) = w1 at *
  have HBW1 := hide hbw1
  have HBC2 := hide hbc2
  have HOB := hide ob
  have o1 : w1.cell? ⟨w.heap.size, 1, none⟩ = some (.int .i64 on) := by simp [World.cell?, ob]
  obtain ⟨N, hN⟩ : ∃ N, bs.length = N := ⟨_, rfl⟩
  have HN := hide hN
  rw [hN] at a0 hb0' hb8 bk1
  clear ca c0 HBC hbw1 hbc2 ob hN
  rw [unhide HN]
  go_cut [5] from 23 to 36 (fun z wx => z = .pointer (some ⟨w1.heap.size, 0, none⟩) ∧ Below w1.heap.size w1 wx ∧ ∃ (j : Nat) (hj : j < bs.length), wx.heap[w1.heap.size]? = some (.cells #[.pointer (some ⟨bs[j].b, 0, none⟩), .pointer (some ⟨bs[j].r, 0, none⟩)] 94 (0, 0)))
  case first =>
    have hPK := hide (fun W => wpick_eq on N W (unhide HON).1 (unhide HON).2 (by have := unhide HN; omega) (by omega))
    have hjl : B0.pk on N < N := B0.pk_lt on N (by have := unhide HN; omega)
    have hjb : B0.pk on N < bs.length := by have := unhide HN; omega
    have hp0 := unhide HBC2 _ _ (boxC_at bs _ hjb).1
    have hp1 := unhide HBC2 _ _ (boxC_at bs _ hjb).2
    obtain ⟨jj, hjj⟩ : ∃ jj, B0.pk on N = jj := ⟨_, rfl⟩
    have HJ : Hid (∃ (hj : jj < bs.length), bs[B0.pk on N].b = bs[jj].b ∧ bs[B0.pk on N].r = bs[jj].r) := by
      subst hjj
      exact ⟨hjb, rfl, rfl⟩
    obtain ⟨pb, hpb⟩ : ∃ z, bs[B0.pk on N].b = z := ⟨_, rfl⟩
    obtain ⟨pr, hpr⟩ : ∃ z, bs[B0.pk on N].r = z := ⟨_, rfl⟩
    rw [hpb, hpr] at HJ
    rw [hpb, hjj] at hp0
    rw [hpr, hjj] at hp1
    rw [hjj] at hPK hjl
    have hj2 : (jj : Int) < (N : Int) := by omega
    have hj0 : (0 : Int) ≤ (jj : Int) := by omega
    have n1 := World.new_ne w1 _ a0
    have n2 := World.new_ne w1 _ o1
    have n3 := World.new_ne w1 _ hp0
    have n4 := World.new_ne w1 _ hp1
    clear hpb hpr hjj hjb HBC2
    go_region_held3 (fun w' => w'.cell? ⟨wb, 0, none⟩ = some (.slice (some ⟨gb, 0, none⟩) N bc) ∧ w'.cell? ⟨w.heap.size, 1, none⟩ = some (.int .i64 on) ∧ w'.cell? ⟨gb, jj * 2, none⟩ = some (.pointer (some ⟨pb, 0, none⟩)) ∧ w'.cell? ⟨gb, jj * 2 + 1, none⟩ = some (.pointer (some ⟨pr, 0, none⟩))) (go_keep)
      ((go_at_call 34; refine (unhide hPK _).mono ?_; rintro e w2 ⟨rfl, rfl⟩))
    all_goals
      go_wp2_with fail
      go_meet
      obtain ⟨hj, e1, e2⟩ := unhide HJ
      refine ⟨rfl, ((Below.refl _ _).alloc (Nat.le_refl _) _).drew, jj, hj, ?_⟩
      rw [← e1, ← e2]
      exact blkN w1 _ _ rfl
  case rest =>
  obtain ⟨rfl, hb3, i, hi, hxb⟩ := hcut
  have hWI := (unhide HH).below ((unhide HBW1).trans (hb3.mono (unhide HBW1).size))
  have HWI := hide hWI
  have HE0 : Hid (Ext w wc col col) := Ext.below ((unhide HBW1).trans (hb3.mono (unhide HBW1).size))
  have hob : wc.heap[w.heap.size]? = some (.cells #[.int .i64 2, .int .i64 on, .int .i64 a, .int .i64 b, .slice tp tn tc, .slice pp pn pc] 76 (0, 0)) := (hb3.block _ (Array.getElem?_eq_some_iff.1 (unhide HOB)).1).trans (unhide HOB)
  have hz0 : ∀ k, w.heap.size ≤ k → col k = 0 := fun k hk => Classical.byContradiction (fun hn => by have := ((unhide HH).cb k hn).2; omega)
  have HOB2 := hide hob
  have HXB := hide hxb
  have HZ0 := hide hz0
  have hs1 := (unhide HBW1).size
  have x0 : wc.cell? ⟨w1.heap.size, 0, none⟩ = some (.pointer (some ⟨bs[i].b, 0, none⟩)) := by simp [World.cell?, hxb]
  have x1 : wc.cell? ⟨w1.heap.size, 1, none⟩ = some (.pointer (some ⟨bs[i].r, 0, none⟩)) := by simp [World.cell?, hxb]
  have e0 : wc.cell? ⟨w.heap.size, 0, none⟩ = some (.int .i64 2) := by simp [World.cell?, hob]
  have e2 : wc.cell? ⟨w.heap.size, 2, none⟩ = some (.int .i64 a) := by simp [World.cell?, hob]
  have e3 : wc.cell? ⟨w.heap.size, 3, none⟩ = some (.int .i64 b) := by simp [World.cell?, hob]
  have e5 : wc.cell? ⟨w.heap.size, 5, none⟩ = some (.slice pp pn pc) := by simp [World.cell?, hob]
  obtain ⟨w3, hw3⟩ : ∃ w3, w3 = wc := ⟨_, rfl⟩
  subst hw3
  clear hb3 hWI hob hxb hz0 a0 o1 HBC2 HOB hb0' hb8 bk1 bk2
  have HT := hide (wtells_any (unhide HWI) (unhide HC) hi a)
  clear e3 e5
  go_wp2_with fail
  refine (unhide HT).mono ?_
  rintro e w4 ⟨rfl, hO⟩
  have HO := hide hO
  clear hO HT
  go_wp2
  go_ret
  obtain ⟨col', nl', yl', c', k1, k2, k3⟩ := unhide HO
  exact ⟨rfl, col', bs, ps, nl', yl', c', k1, k2, (unhide HE0).trans k3⟩


end Go.Proofs.Ytgpplekabohneaa

namespace Go.Proofs.Ytgpplekabohneaa
open Go.RowKit

attribute [local go_sem ↓] Go.wp_at_zero Go.wp_at_succ

set_option maxRecDepth 100000 in
set_option maxHeartbeats 4000000 in
theorem wstep_3 {w : World} {B : Nat} {col : Nat → Nat} {wb : Nat} {bs : List BX} {ps : List Pk} {nl yl : List (Value × Nat)} {c : Nat} (h : WI w B col wb bs ps nl yl c) (hc : c ≤ 800000000) (on a b : Int) (hon : -9223372036854775808 ≤ on ∧ on ≤ 9223372036854775807) (tp pp : Option Addr) (tn tc pn pc : Nat) (hb0 : bs.length ≠ 0) :
    Calls Try.prog 24 #[.pointer (some ⟨wb, 0, none⟩), .agg #[.int .i64 3, .int .i64 on, .int .i64 a, .int .i64 b, .slice tp tn tc, .slice pp pn pc]] w fun e w' => e = .returned (.bool true) ∧ StepOut w B col wb c w' := by
  obtain ⟨rv, ln, xs, hW, hX⟩ := h.rows
  have hr2 := WI.row2 hW hX
  obtain ⟨ba, bc, hrv, bk1, bk2, bk3⟩ := rowN_cells hr2.1
  obtain ⟨gb, rfl, hgb, hbcell⟩ := bk3 (by omega)
  obtain ⟨c0, -, -, -, -, -, -, -, -, -⟩ := hW.cells
  rw [hrv] at c0
  have hb8 := h.nb
  have HH := hide h
  have HC := hide hc
  have HON := hide hon
  have HBC := hide hbcell
  have hb0' : ((bs.length : Int) == 0) = false := by rw [beq_eq_false_iff_ne]; omega
  have ca : ∀ X, (w.alloc X).cell? ⟨wb, 0, none⟩ = some (.slice (some ⟨gb, 0, none⟩) bs.length bc) := fun X => cellA c0
  unfold maxLen at bk2
  clear hW hX hr2 hrv bk3 hbcell hc h
  go_enter Try.func24, Try.ntmps24
  go_upto_region 5 with fail
  have ob : (w.alloc (.cells #[.int .i64 3, .int .i64 on, .int .i64 a, .int .i64 b, .slice tp tn tc, .slice pp pn pc] 76)).heap[w.heap.size]? = some (.cells #[.int .i64 3, .int .i64 on, .int .i64 a, .int .i64 b, .slice tp tn tc, .slice pp pn pc] 76 (0, 0)) := blkN _ _ _ rfl
  have a0 := ca (.cells #[.int .i64 3, .int .i64 on, .int .i64 a, .int .i64 b, .slice tp tn tc, .slice pp pn pc] 76)
  have hbw1 : Below w.heap.size w (w.alloc (.cells #[.int .i64 3, .int .i64 on, .int .i64 a, .int .i64 b, .slice tp tn tc, .slice pp pn pc] 76)) := (Below.refl _ _).alloc (Nat.le_refl _) _
  have hbc2 : ∀ (j : Nat) (u : Value), (boxC bs)[j]? = some u → (w.alloc (.cells #[.int .i64 3, .int .i64 on, .int .i64 a, .int .i64 b, .slice tp tn tc, .slice pp pn pc] 76)).cell? ⟨gb, j, none⟩ = some u := fun j u hu => cellA (unhide HBC j u hu)
  generalize w.alloc (.cells #[.int .i64 3, .int .i64 on, .int .i64 a, .int .i64 b, .slice tp tn tc, .slice pp pn pc] 76) = w1 at *
  have HBW1 := hide hbw1
  have HBC2 := hide hbc2
  have HOB := hide ob
  have o1 : w1.cell? ⟨w.heap.size, 1, none⟩ = some (.int .i64 on) := by simp [World.cell?, ob]
  obtain ⟨N, hN⟩ : ∃ N, bs.length = N := ⟨_, rfl⟩
  have HN := hide hN
  rw [hN] at a0 hb0' hb8 bk1
  clear ca c0 HBC hbw1 hbc2 ob hN
  rw [unhide HN]
  go_cut [5] from 23 to 36 (fun z wx => z = .pointer (some ⟨w1.heap.size, 0, none⟩) ∧ Below w1.heap.size w1 wx ∧ ∃ (j : Nat) (hj : j < bs.length), wx.heap[w1.heap.size]? = some (.cells #[.pointer (some ⟨bs[j].b, 0, none⟩), .pointer (some ⟨bs[j].r, 0, none⟩)] 94 (0, 0)))
  case first =>
    have hPK := hide (fun W => wpick_eq on N W (unhide HON).1 (unhide HON).2 (by have := unhide HN; omega) (by omega))
    have hjl : B0.pk on N < N := B0.pk_lt on N (by have := unhide HN; omega)
    have hjb : B0.pk on N < bs.length := by have := unhide HN; omega
    have hp0 := unhide HBC2 _ _ (boxC_at bs _ hjb).1
    have hp1 := unhide HBC2 _ _ (boxC_at bs _ hjb).2
    obtain ⟨jj, hjj⟩ : ∃ jj, B0.pk on N = jj := ⟨_, rfl⟩
    have HJ : Hid (∃ (hj : jj < bs.length), bs[B0.pk on N].b = bs[jj].b ∧ bs[B0.pk on N].r = bs[jj].r) := by
      subst hjj
      exact ⟨hjb, rfl, rfl⟩
    obtain ⟨pb, hpb⟩ : ∃ z, bs[B0.pk on N].b = z := ⟨_, rfl⟩
    obtain ⟨pr, hpr⟩ : ∃ z, bs[B0.pk on N].r = z := ⟨_, rfl⟩
    rw [hpb, hpr] at HJ
    rw [hpb, hjj] at hp0
    rw [hpr, hjj] at hp1
    rw [hjj] at hPK hjl
    have hj2 : (jj : Int) < (N : Int) := by omega
    have hj0 : (0 : Int) ≤ (jj : Int) := by omega
    have n1 := World.new_ne w1 _ a0
    have n2 := World.new_ne w1 _ o1
    have n3 := World.new_ne w1 _ hp0
    have n4 := World.new_ne w1 _ hp1
    clear hpb hpr hjj hjb HBC2
    go_region_held3 (fun w' => w'.cell? ⟨wb, 0, none⟩ = some (.slice (some ⟨gb, 0, none⟩) N bc) ∧ w'.cell? ⟨w.heap.size, 1, none⟩ = some (.int .i64 on) ∧ w'.cell? ⟨gb, jj * 2, none⟩ = some (.pointer (some ⟨pb, 0, none⟩)) ∧ w'.cell? ⟨gb, jj * 2 + 1, none⟩ = some (.pointer (some ⟨pr, 0, none⟩))) (go_keep)
      ((go_at_call 34; refine (unhide hPK _).mono ?_; rintro e w2 ⟨rfl, rfl⟩))
    all_goals
      go_wp2_with fail
      go_meet
      obtain ⟨hj, e1, e2⟩ := unhide HJ
      refine ⟨rfl, ((Below.refl _ _).alloc (Nat.le_refl _) _).drew, jj, hj, ?_⟩
      rw [← e1, ← e2]
      exact blkN w1 _ _ rfl
  case rest =>
  obtain ⟨rfl, hb3, i, hi, hxb⟩ := hcut
  have hWI := (unhide HH).below ((unhide HBW1).trans (hb3.mono (unhide HBW1).size))
  have HWI := hide hWI
  have HE0 : Hid (Ext w wc col col) := Ext.below ((unhide HBW1).trans (hb3.mono (unhide HBW1).size))
  have hob : wc.heap[w.heap.size]? = some (.cells #[.int .i64 3, .int .i64 on, .int .i64 a, .int .i64 b, .slice tp tn tc, .slice pp pn pc] 76 (0, 0)) := (hb3.block _ (Array.getElem?_eq_some_iff.1 (unhide HOB)).1).trans (unhide HOB)
  have hz0 : ∀ k, w.heap.size ≤ k → col k = 0 := fun k hk => Classical.byContradiction (fun hn => by have := ((unhide HH).cb k hn).2; omega)
  have HOB2 := hide hob
  have HXB := hide hxb
  have HZ0 := hide hz0
  have hs1 := (unhide HBW1).size
  have x0 : wc.cell? ⟨w1.heap.size, 0, none⟩ = some (.pointer (some ⟨bs[i].b, 0, none⟩)) := by simp [World.cell?, hxb]
  have x1 : wc.cell? ⟨w1.heap.size, 1, none⟩ = some (.pointer (some ⟨bs[i].r, 0, none⟩)) := by simp [World.cell?, hxb]
  have e0 : wc.cell? ⟨w.heap.size, 0, none⟩ = some (.int .i64 3) := by simp [World.cell?, hob]
  have e2 : wc.cell? ⟨w.heap.size, 2, none⟩ = some (.int .i64 a) := by simp [World.cell?, hob]
  have e3 : wc.cell? ⟨w.heap.size, 3, none⟩ = some (.int .i64 b) := by simp [World.cell?, hob]
  have e5 : wc.cell? ⟨w.heap.size, 5, none⟩ = some (.slice pp pn pc) := by simp [World.cell?, hob]
  obtain ⟨w3, hw3⟩ : ∃ w3, w3 = wc := ⟨_, rfl⟩
  subst hw3
  clear hb3 hWI hob hxb hz0 a0 o1 HBC2 HOB hb0' hb8 bk1 bk2
  have hbx := (unhide HWI).boxes i hi
  have HP1 := hide (ptick_any hbx.box a)
  have HP2 := fun W (hW : Fr (fun k => col k = 9 + 2 * i) w3 W) => hide (rtick_all (hbx.ref.keep hW (fun k hk => by omega)) a hbx.idle)
  have HOK := hide (tkB_ok a hbx.okx hbx.okp)
  have HFAR := hide hbx.far
  have hl0 := (Array.getElem?_eq_some_iff.1 (unhide HOB2)).1
  have hl1 := (Array.getElem?_eq_some_iff.1 (unhide HXB)).1
  clear hbx e3 e5
  go_wp2_with fail
  refine (unhide HP1).mono ?_
  rintro e w4 ⟨rfl, hB4, hF4⟩
  have y1 : w4.cell? ⟨w1.heap.size, 1, none⟩ = some (.pointer (some ⟨bs[i].r, 0, none⟩)) := (hF4.cell (k := w1.heap.size) (o := 1) hl1 (by rw [unhide HZ0 _ hs1]; omega)).trans x1
  have y2 : w4.cell? ⟨w.heap.size, 2, none⟩ = some (.int .i64 a) := (hF4.cell (k := w.heap.size) (o := 2) hl0 (by rw [unhide HZ0 _ (Nat.le_refl _)]; omega)).trans e2
  have HR := HP2 w4 hF4
  have H4 := hide (And.intro hB4 hF4)
  obtain ⟨te, hte⟩ : ∃ te, tkE a = te := ⟨_, rfl⟩
  rw [hte] at HR
  rw [hte]
  clear hB4 hF4 HP1 HP2 x0 x1 e0 e2 hte
  go_wp2_with fail
  refine (unhide HR).mono ?_
  rintro e w5 ⟨rfl, L', lv', hR5, hF5, hE5, hfar5⟩
  have HO : Hid (StepOut w B col wb c w5) := by
    have hh := (unhide HWI).both hi (Below.refl _ _) (unhide H4).2 (unhide H4).1 (Below.refl _ _) hF5 hR5 hE5 (fun j hj => hfar5 j (unhide HFAR j hj)) (unhide HOK).1 (unhide HOK).2 (Below.refl _ _)
    exact ⟨_, _, ps, nl, yl, c, hh.1, by omega, (unhide HE0).trans hh.2⟩
  clear hR5 hF5 hE5 hfar5 HR H4 y1 y2
  go_wp2
  go_ret
  exact ⟨by simp, unhide HO⟩


end Go.Proofs.Ytgpplekabohneaa

namespace Go.Proofs.Ytgpplekabohneaa
open Go.RowKit

attribute [local go_sem ↓] Go.wp_at_zero Go.wp_at_succ

set_option maxRecDepth 100000 in
set_option maxHeartbeats 4000000 in
theorem wstep_0 {w : World} {B : Nat} {col : Nat → Nat} {wb : Nat} {bs : List BX} {ps : List Pk} {nl yl : List (Value × Nat)} {c : Nat} (h : WI w B col wb bs ps nl yl c) (hc : c ≤ 800000000) (kd : Int) (on a b : Int) (hon : -9223372036854775808 ≤ on ∧ on ≤ 9223372036854775807) (tp pp : Option Addr) (tn tc pn pc : Nat) (hb0 : bs.length ≠ 0) (hk1 : (kd == 1) = false) (b2 : (kd == 2) = false) (b3 : (kd == 3) = false) (b4 : (kd == 4) = false) (b5 : (kd == 5) = false) (b6 : (kd == 6) = false) :
    Calls Try.prog 24 #[.pointer (some ⟨wb, 0, none⟩), .agg #[.int .i64 kd, .int .i64 on, .int .i64 a, .int .i64 b, .slice tp tn tc, .slice pp pn pc]] w fun e w' => e = .returned (.bool true) ∧ StepOut w B col wb c w' := by
  obtain ⟨rv, ln, xs, hW, hX⟩ := h.rows
  have hr2 := WI.row2 hW hX
  obtain ⟨ba, bc, hrv, bk1, bk2, bk3⟩ := rowN_cells hr2.1
  obtain ⟨gb, rfl, hgb, hbcell⟩ := bk3 (by omega)
  obtain ⟨c0, -, -, -, -, -, -, -, -, -⟩ := hW.cells
  rw [hrv] at c0
  have hb8 := h.nb
  have HH := hide h
  have HC := hide hc
  have HON := hide hon
  have HBC := hide hbcell
  have hb0' : ((bs.length : Int) == 0) = false := by rw [beq_eq_false_iff_ne]; omega
  have ca : ∀ X, (w.alloc X).cell? ⟨wb, 0, none⟩ = some (.slice (some ⟨gb, 0, none⟩) bs.length bc) := fun X => cellA c0
  unfold maxLen at bk2
  clear hW hX hr2 hrv bk3 hbcell hc h
  go_enter Try.func24, Try.ntmps24
  go_upto_region 5 with fail
  have ob : (w.alloc (.cells #[.int .i64 kd, .int .i64 on, .int .i64 a, .int .i64 b, .slice tp tn tc, .slice pp pn pc] 76)).heap[w.heap.size]? = some (.cells #[.int .i64 kd, .int .i64 on, .int .i64 a, .int .i64 b, .slice tp tn tc, .slice pp pn pc] 76 (0, 0)) := blkN _ _ _ rfl
  have a0 := ca (.cells #[.int .i64 kd, .int .i64 on, .int .i64 a, .int .i64 b, .slice tp tn tc, .slice pp pn pc] 76)
  have hbw1 : Below w.heap.size w (w.alloc (.cells #[.int .i64 kd, .int .i64 on, .int .i64 a, .int .i64 b, .slice tp tn tc, .slice pp pn pc] 76)) := (Below.refl _ _).alloc (Nat.le_refl _) _
  have hbc2 : ∀ (j : Nat) (u : Value), (boxC bs)[j]? = some u → (w.alloc (.cells #[.int .i64 kd, .int .i64 on, .int .i64 a, .int .i64 b, .slice tp tn tc, .slice pp pn pc] 76)).cell? ⟨gb, j, none⟩ = some u := fun j u hu => cellA (unhide HBC j u hu)
  generalize w.alloc (.cells #[.int .i64 kd, .int .i64 on, .int .i64 a, .int .i64 b, .slice tp tn tc, .slice pp pn pc] 76) = w1 at *
  have HBW1 := hide hbw1
  have HBC2 := hide hbc2
  have HOB := hide ob
  have o1 : w1.cell? ⟨w.heap.size, 1, none⟩ = some (.int .i64 on) := by simp [World.cell?, ob]
  obtain ⟨N, hN⟩ : ∃ N, bs.length = N := ⟨_, rfl⟩
  have HN := hide hN
  rw [hN] at a0 hb0' hb8 bk1
  clear ca c0 HBC hbw1 hbc2 ob hN
  rw [unhide HN]
  go_cut [5] from 23 to 36 (fun z wx => z = .pointer (some ⟨w1.heap.size, 0, none⟩) ∧ Below w1.heap.size w1 wx ∧ ∃ (j : Nat) (hj : j < bs.length), wx.heap[w1.heap.size]? = some (.cells #[.pointer (some ⟨bs[j].b, 0, none⟩), .pointer (some ⟨bs[j].r, 0, none⟩)] 94 (0, 0)))
  case first =>
    have hPK := hide (fun W => wpick_eq on N W (unhide HON).1 (unhide HON).2 (by have := unhide HN; omega) (by omega))
    have hjl : B0.pk on N < N := B0.pk_lt on N (by have := unhide HN; omega)
    have hjb : B0.pk on N < bs.length := by have := unhide HN; omega
    have hp0 := unhide HBC2 _ _ (boxC_at bs _ hjb).1
    have hp1 := unhide HBC2 _ _ (boxC_at bs _ hjb).2
    obtain ⟨jj, hjj⟩ : ∃ jj, B0.pk on N = jj := ⟨_, rfl⟩
    have HJ : Hid (∃ (hj : jj < bs.length), bs[B0.pk on N].b = bs[jj].b ∧ bs[B0.pk on N].r = bs[jj].r) := by
      subst hjj
      exact ⟨hjb, rfl, rfl⟩
    obtain ⟨pb, hpb⟩ : ∃ z, bs[B0.pk on N].b = z := ⟨_, rfl⟩
    obtain ⟨pr, hpr⟩ : ∃ z, bs[B0.pk on N].r = z := ⟨_, rfl⟩
    rw [hpb, hpr] at HJ
    rw [hpb, hjj] at hp0
    rw [hpr, hjj] at hp1
    rw [hjj] at hPK hjl
    have hj2 : (jj : Int) < (N : Int) := by omega
    have hj0 : (0 : Int) ≤ (jj : Int) := by omega
    have n1 := World.new_ne w1 _ a0
    have n2 := World.new_ne w1 _ o1
    have n3 := World.new_ne w1 _ hp0
    have n4 := World.new_ne w1 _ hp1
    clear hpb hpr hjj hjb HBC2
    go_region_held3 (fun w' => w'.cell? ⟨wb, 0, none⟩ = some (.slice (some ⟨gb, 0, none⟩) N bc) ∧ w'.cell? ⟨w.heap.size, 1, none⟩ = some (.int .i64 on) ∧ w'.cell? ⟨gb, jj * 2, none⟩ = some (.pointer (some ⟨pb, 0, none⟩)) ∧ w'.cell? ⟨gb, jj * 2 + 1, none⟩ = some (.pointer (some ⟨pr, 0, none⟩))) (go_keep)
      ((go_at_call 34; refine (unhide hPK _).mono ?_; rintro e w2 ⟨rfl, rfl⟩))
    all_goals
      go_wp2_with fail
      go_meet
      obtain ⟨hj, e1, e2⟩ := unhide HJ
      refine ⟨rfl, ((Below.refl _ _).alloc (Nat.le_refl _) _).drew, jj, hj, ?_⟩
      rw [← e1, ← e2]
      exact blkN w1 _ _ rfl
  case rest =>
  obtain ⟨rfl, hb3, i, hi, hxb⟩ := hcut
  have hWI := (unhide HH).below ((unhide HBW1).trans (hb3.mono (unhide HBW1).size))
  have HWI := hide hWI
  have HE0 : Hid (Ext w wc col col) := Ext.below ((unhide HBW1).trans (hb3.mono (unhide HBW1).size))
  have hob : wc.heap[w.heap.size]? = some (.cells #[.int .i64 kd, .int .i64 on, .int .i64 a, .int .i64 b, .slice tp tn tc, .slice pp pn pc] 76 (0, 0)) := (hb3.block _ (Array.getElem?_eq_some_iff.1 (unhide HOB)).1).trans (unhide HOB)
  have hz0 : ∀ k, w.heap.size ≤ k → col k = 0 := fun k hk => Classical.byContradiction (fun hn => by have := ((unhide HH).cb k hn).2; omega)
  have HOB2 := hide hob
  have HXB := hide hxb
  have HZ0 := hide hz0
  have hs1 := (unhide HBW1).size
  have x0 : wc.cell? ⟨w1.heap.size, 0, none⟩ = some (.pointer (some ⟨bs[i].b, 0, none⟩)) := by simp [World.cell?, hxb]
  have x1 : wc.cell? ⟨w1.heap.size, 1, none⟩ = some (.pointer (some ⟨bs[i].r, 0, none⟩)) := by simp [World.cell?, hxb]
  have e0 : wc.cell? ⟨w.heap.size, 0, none⟩ = some (.int .i64 kd) := by simp [World.cell?, hob]
  have e2 : wc.cell? ⟨w.heap.size, 2, none⟩ = some (.int .i64 a) := by simp [World.cell?, hob]
  have e3 : wc.cell? ⟨w.heap.size, 3, none⟩ = some (.int .i64 b) := by simp [World.cell?, hob]
  have e5 : wc.cell? ⟨w.heap.size, 5, none⟩ = some (.slice pp pn pc) := by simp [World.cell?, hob]
  obtain ⟨w3, hw3⟩ : ∃ w3, w3 = wc := ⟨_, rfl⟩
  subst hw3
  clear hb3 hWI hob hxb hz0 a0 o1 HBC2 HOB hb0' hb8 bk1 bk2
  have HO : Hid (StepOut w B col wb c w3) := ⟨col, bs, ps, nl, yl, c, unhide HWI, by omega, unhide HE0⟩
  clear x0 x1 e2 e3 e5
  go_wp2
  go_ret
  exact ⟨rfl, unhide HO⟩


end Go.Proofs.Ytgpplekabohneaa
