/- Tenants, checked. -/
import Derived.Test.YtgpplekabohneaaPq
import Derived.Deep.LoopGhost
import Derived.Deep.QuietTactic
import Derived.BigQuiet
import Derived.Deep.RegionHeld3
import Derived.Deep.DrawnRows
namespace Go.Proofs.Ytgpplekabohneaa
section
open Go.RowKit

/-- the i-th tenant of a row of tenants from cell 'off' of block b on -/
def TenAt (w : World) (b off : Nat) (ts : List Ten) : Prop :=
  ∀ i (h : i < ts.length), w.cell? ⟨b, off + i * 4, none⟩ = some (.int .i64 ts[i].tag) ∧ w.cell? ⟨b, off + i * 4 + 1, none⟩ = some (.int .i64 ts[i].outer) ∧ w.cell? ⟨b, off + i * 4 + 2, none⟩ = some (.int .i64 ts[i].low) ∧ w.cell? ⟨b, off + i * 4 + 3, none⟩ = some (.int .i64 ts[i].high)

theorem TenAt.below {w w' : World} {b off : Nat} {ts : List Ten} (h : TenAt w b off ts) {B : Nat} (hb : Below B w w') (hB : b < B) : TenAt w' b off ts := by
  intro i hi
  obtain ⟨h1, h2, h3, h4⟩ := h i hi
  exact ⟨(hb.cell (p := ⟨b, _, none⟩) hB).trans h1, (hb.cell (p := ⟨b, _, none⟩) hB).trans h2, (hb.cell (p := ⟨b, _, none⟩) hB).trans h3, (hb.cell (p := ⟨b, _, none⟩) hB).trans h4⟩

theorem TenAt.take {w : World} {b off : Nat} {ts : List Ten} (h : TenAt w b off ts) (j : Nat) : TenAt w b off (ts.take j) := by
  intro i hi
  have hi' : i < ts.length := by simp at hi; omega
  have := h i hi'
  simpa using this

def twiceIn (ts : List Ten) (t : Ten) : Bool := ts.any fun a => a.tag == t.tag || a.outer == t.outer

theorem twiceIn_snoc (ts : List Ten) (t : Ten) (j : Nat) (h : j < ts.length) : twiceIn (ts.take (j + 1)) t = (twiceIn (ts.take j) t || (ts[j].tag == t.tag || ts[j].outer == t.outer)) := by
  unfold twiceIn
  rw [List.take_succ_eq_append_getElem h, List.any_append]
  simp

theorem twiceIn_true {ts : List Ten} {t : Ten} {j : Nat} (h : j < ts.length) (hh : (ts[j].tag == t.tag || ts[j].outer == t.outer) = true) : twiceIn ts t = true := by
  unfold twiceIn
  rw [List.any_eq_true]
  exact ⟨ts[j], List.getElem_mem h, hh⟩

theorem isTwice_nil (t0 t1 t2 t3 : Int) (w : World) :
    Calls Try.prog 64 #[.slice none 0 0, .agg #[.int .i64 t0, .int .i64 t1, .int .i64 t2, .int .i64 t3]] w fun e w' => e = .returned (.bool false) ∧ Below w.heap.size w w' := by
  go_enter Try.func64, Try.ntmps64
  go_wp2
  go_loopg [9] 1 (fun k i wr => i = .int .i64 0 ∧ Below w.heap.size w wr)
  case atStart => exact ⟨rfl, (Below.refl _ _).alloc (Nat.le_refl _) _⟩
  case round =>
    obtain ⟨rfl, hb⟩ := hrel
    go_wp2
    go_ret
    exact ⟨rfl, hb⟩

set_option maxHeartbeats 400000 in
theorem isTwice_some (b off n cap : Nat) (ts : List Ten) (t0 t1 t2 t3 : Int) (w : World) (hn : n = ts.length) (hc : n ≤ cap) (hm : cap ≤ maxLen) (hb : b < w.heap.size) (hT : TenAt w b off ts) :
    Calls Try.prog 64 #[.slice (some ⟨b, off, none⟩) n cap, .agg #[.int .i64 t0, .int .i64 t1, .int .i64 t2, .int .i64 t3]] w fun e w' => e = .returned (.bool (twiceIn ts ⟨t0, t1, t2, t3⟩)) ∧ Below w.heap.size w w' := by
  unfold maxLen at hm
  have HT : Hid (TenAt w b off ts) := hT
  have HN : Hid (n = ts.length) := hn
  clear hT hn
  go_enter Try.func64, Try.ntmps64
  go_wp2
  go_loopg [9] n (fun k i wr => ∃ j : Nat, j ≤ n ∧ k = n - j ∧ i = .int .i64 j ∧ twiceIn (ts.take j) ⟨t0, t1, t2, t3⟩ = false ∧ Below w.heap.size w wr ∧ w.heap.size < wr.heap.size ∧ wr.cell? ⟨w.heap.size, 0, none⟩ = some (.int .i64 t0) ∧ wr.cell? ⟨w.heap.size, 1, none⟩ = some (.int .i64 t1))
  case atStart => exact ⟨0, Nat.zero_le _, by omega, rfl, rfl, (Below.refl _ _).alloc (Nat.le_refl _) _, by simp, by simp, by simp⟩
  case round =>
    obtain ⟨j, hj, hk, rfl, htw, hbl, hsz, hc0, hc1⟩ := hrel
    have HK : Hid (gk = n - j) := hk
    have HW : Hid (twiceIn (ts.take j) ⟨t0, t1, t2, t3⟩ = false) := htw
    have HB : Hid (Below w.heap.size w wr) := hbl
    clear hk htw
    by_cases hlt : j < n
    · have hjt : j < ts.length := by have := HN.out; omega
      obtain ⟨g0, g1, g2, g3⟩ := (HT.out.below hbl hb) j hjt
      clear hbl
      generalize hT0 : ts[j].tag = u0 at *
      generalize hT1 : ts[j].outer = u1 at *
      generalize hT2 : ts[j].low = u2 at *
      generalize hT3 : ts[j].high = u3 at *
      have HU : Hid (ts[j].tag = u0 ∧ ts[j].outer = u1) := ⟨hT0, hT1⟩
      clear hT0 hT1 hT2 hT3
      by_cases hhit : (u0 == t0 || u1 == t1) = true
      · have hfin : Hid (twiceIn ts ⟨t0, t1, t2, t3⟩ = true) := twiceIn_true hjt (by rw [HU.out.1, HU.out.2]; exact hhit)
        by_cases he : u0 = t0
        · go_wp2
          go_ret
          exact ⟨by rw [hfin.out]; rfl, HB.out.alloc (by omega) _⟩
        · have he2 : u1 = t1 := by simpa [he] using hhit
          clear hhit
          go_wp2
          go_ret
          exact ⟨by rw [hfin.out]; rfl, HB.out.alloc (by omega) _⟩
      · have he : (u0 == t0) = false := by cases h : (u0 == t0) <;> simp_all
        have he2 : (u1 == t1) = false := by cases h : (u1 == t1) <;> simp_all
        have hfin : Hid (twiceIn (ts.take (j + 1)) ⟨t0, t1, t2, t3⟩ = false) := by
          have := twiceIn_snoc ts ⟨t0, t1, t2, t3⟩ j hjt
          rw [HW.out, HU.out.1, HU.out.2, he, he2] at this
          exact this
        clear hhit
        go_wp2
        go_roundg (n - (j + 1))
        case measure => have := HK.out; omega
        case rel => 
          exact ⟨j + 1, by omega, rfl, by go_num, hfin.out, HB.out.alloc (by omega) _, by simp; omega, cellA hc0, cellA hc1⟩
    · have hjn : j = ts.length := by have := HN.out; omega
      have hfin : Hid (twiceIn ts ⟨t0, t1, t2, t3⟩ = false) := by
        have := HW.out
        rwa [hjn, List.take_length] at this
      clear hjn hbl
      go_wp2
      go_ret
      exact ⟨by rw [hfin.out]; rfl, HB.out⟩
end

section
open Go.RowKit

attribute [local go_sem ↓] Go.wp_at_zero Go.wp_at_succ

/-- what the tenants behind 'done' come to -/
def errFrom : List Ten → List Ten → Int
  | _, [] => 0
  | done, t :: r => if okT t then (if twiceIn done t then 3 else errFrom (done ++ [t]) r) else 2

def newErr (ts : List Ten) : Int := if 8 < ts.length then 1 else errFrom [] ts

theorem errFrom_at (ts : List Ten) (j : Nat) (h : j < ts.length) :
    errFrom (ts.take j) (ts.drop j) = if okT ts[j] then (if twiceIn (ts.take j) ts[j] then 3 else errFrom (ts.take (j + 1)) (ts.drop (j + 1))) else 2 := by
  rw [List.drop_eq_getElem_cons h, List.take_succ_eq_append_getElem h]
  rfl

theorem errFrom_end (ts : List Ten) (j : Nat) (h : ts.length ≤ j) : errFrom (ts.take j) (ts.drop j) = 0 := by
  rw [List.drop_eq_nil_of_le h]
  rfl

theorem check_nil (w : World) : Calls Try.prog 40 #[.slice none 0 0] w fun e w' => e = .returned (.int .i64 0) ∧ Below w.heap.size w w' := by
  go_enter Try.func40, Try.ntmps40
  go_wp2
  go_loopg [10] 1 (fun k i wr => i = .int .i64 0 ∧ Below w.heap.size w wr)
  case atStart => exact ⟨rfl, Below.refl _ _⟩
  case round =>
    obtain ⟨rfl, hb⟩ := hrel
    go_wp2
    go_ret
    exact ⟨rfl, hb⟩

set_option maxHeartbeats 400000 in
theorem check_some (b off n cap : Nat) (ts : List Ten) (w : World) (hn : n = ts.length) (hc : n ≤ cap) (hm : cap ≤ maxLen) (hb : b < w.heap.size) (hT : TenAt w b off ts) :
    Calls Try.prog 40 #[.slice (some ⟨b, off, none⟩) n cap] w fun e w' => e = .returned (.int .i64 (newErr ts)) ∧ Below w.heap.size w w' := by
  have hm0 := hm
  unfold maxLen at hm
  have HT : Hid (TenAt w b off ts) := hT
  have HN : Hid (n = ts.length) := hn
  clear hT hn
  by_cases h8 : 8 < n
  · have hfin : Hid (newErr ts = 1) := by unfold newErr; rw [if_pos (by have := HN.out; omega)]; rfl
    go_enter Try.func40, Try.ntmps40
    go_wp2
    go_ret
    exact ⟨by rw [hfin.out]; rfl, Below.refl _ _⟩
  · have hnew : Hid (newErr ts = errFrom [] ts) := by unfold newErr; rw [if_neg (by have := HN.out; omega)]; rfl
    go_enter Try.func40, Try.ntmps40
    go_wp2
    go_loopg [10] n (fun k i wr => ∃ j : Nat, j ≤ n ∧ k = n - j ∧ i = .int .i64 j ∧ newErr ts = errFrom (ts.take j) (ts.drop j) ∧ Below w.heap.size w wr)
    case atStart => exact ⟨0, Nat.zero_le _, by omega, rfl, hnew.out, Below.refl _ _⟩
    case round =>
      obtain ⟨j, hj, hk, rfl, her, hbl⟩ := hrel
      have HK : Hid (gk = n - j) := hk
      have HE : Hid (newErr ts = errFrom (ts.take j) (ts.drop j)) := her
      have HB : Hid (Below w.heap.size w wr) := hbl
      clear hk her hnew
      by_cases hlt : j < n
      · have hjt : j < ts.length := by have := HN.out; omega
        have hsz : w.heap.size ≤ wr.heap.size := hbl.size
        obtain ⟨g0, g1, g2, g3⟩ := (HT.out.below hbl hb) j hjt
        clear hbl
        have HEA := errFrom_at ts j hjt
        generalize hT0 : ts[j] = t at *
        obtain ⟨u0, u1, u2, u3⟩ := t
        simp only at g0 g1 g2 g3
        have HA : Hid (errFrom (ts.take j) (ts.drop j) = if okT ⟨u0, u1, u2, u3⟩ then (if twiceIn (ts.take j) ⟨u0, u1, u2, u3⟩ then 3 else errFrom (ts.take (j + 1)) (ts.drop (j + 1))) else 2) := HEA
        clear HEA hT0
        go_wp2_with fail
        refine (isTenant_raw _ _ _ _ _).mono ?_
        rintro e w1 ⟨rfl, hb1⟩
        have hc0 := fun o => hb1.cell (p := ⟨wr.heap.size, o, none⟩) (by simp)
        have hs1 : wr.heap.size + 1 ≤ w1.heap.size := by have := hb1.size; simpa using this
        have HB1 : Hid (Below w.heap.size w w1) := (HB.out.alloc (by omega) _).trans (hb1.mono (by simp; omega))
        clear hb1
        cases hok : okT ⟨u0, u1, u2, u3⟩
        · have hfin : Hid (newErr ts = 2) := by
            show newErr ts = 2
            rw [HE.out, HA.out, hok]; rfl
          go_wp2
          go_ret
          exact ⟨by rw [hfin.out]; rfl, HB1.out⟩
        · go_wp2
          go_region_with ((go_at_call 64; refine (isTwice_some b off j cap (ts.take j) u0 u1 u2 u3 _ (by simp; omega) (by omega) hm0 (by show b < w1.heap.size; omega) (by exact ((HT.out.below HB1.out.drew hb).take j))).mono ?_; rintro e w2 ⟨rfl, hb2⟩))
          all_goals
            have HB2 : Hid (Below w.heap.size w w2) := HB1.out.drew.trans (hb2.mono (by show w.heap.size ≤ w1.heap.size; omega))
            clear hb2
            cases htw : twiceIn (ts.take j) ⟨u0, u1, u2, u3⟩
            · have hfin : Hid (newErr ts = errFrom (ts.take (j + 1)) (ts.drop (j + 1))) := by
                show newErr ts = _
                rw [HE.out, HA.out, hok, htw]; rfl
              go_wp2
              go_roundg (n - (j + 1))
              case measure => have := HK.out; omega
              case rel => exact ⟨j + 1, by omega, rfl, by go_num, hfin.out, HB2.out⟩
            · have hfin : Hid (newErr ts = 3) := by
                show newErr ts = 3
                rw [HE.out, HA.out, hok, htw]; rfl
              go_wp2
              go_ret
              exact ⟨by rw [hfin.out]; rfl, HB2.out⟩
      · have hfin : Hid (newErr ts = 0) := by
          show newErr ts = 0
          rw [HE.out, errFrom_end ts j (by have := HN.out; omega)]
        go_wp2
        go_ret
        exact ⟨by rw [hfin.out]; rfl, hbl⟩
end

end Go.Proofs.Ytgpplekabohneaa
