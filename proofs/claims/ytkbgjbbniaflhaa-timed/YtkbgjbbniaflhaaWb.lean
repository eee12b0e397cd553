/- 'isTwice', 'checkTenants': the program's look at the tenants. -/
import Derived.Test.YtkbgjbbniaflhaaPa
import Derived.Deep.LoopGhost
import Derived.Deep.QuietTactic
import Derived.BigQuiet
namespace Go.Proofs.Ytkbgjbbniaflhaa
open Go.RowKit

/-- the i-th tenant of a row of tenants from cell 'off' of block b on -/
def TenAt (w : World) (b off : Nat) (ts : List Ten) : Prop :=
  ∀ i (h : i < ts.length), w.cell? ⟨b, off + i * 4, none⟩ = some (.int .i64 ts[i].tag) ∧ w.cell? ⟨b, off + i * 4 + 1, none⟩ = some (.int .i64 ts[i].outer) ∧ w.cell? ⟨b, off + i * 4 + 2, none⟩ = some (.int .i64 ts[i].low) ∧ w.cell? ⟨b, off + i * 4 + 3, none⟩ = some (.int .i64 ts[i].high)

theorem TenAt.below {w w' : World} {b off : Nat} {ts : List Ten} (h : TenAt w b off ts) {B : Nat} (hb : Below B w w') (hB : b < B) : TenAt w' b off ts := by
  intro i hi
  obtain ⟨h1, h2, h3, h4⟩ := h i hi
  exact ⟨(hb.cell (p := ⟨b, _, none⟩) hB).trans h1, (hb.cell (p := ⟨b, _, none⟩) hB).trans h2, (hb.cell (p := ⟨b, _, none⟩) hB).trans h3, (hb.cell (p := ⟨b, _, none⟩) hB).trans h4⟩

theorem TenAt.take {w : World} {b off : Nat} {ts : List Ten} (h : TenAt w b off ts) (j : Nat) : TenAt w b off (ts.take j) := by
  intro i hi
  have hi' : i < ts.length := by simp at hi; omega
  have := h i hi'
  simpa using this

def twiceIn (ts : List Ten) (t : Ten) : Bool := ts.any fun a => a.tag == t.tag || a.outer == t.outer

theorem twiceIn_snoc (ts : List Ten) (t : Ten) (j : Nat) (h : j < ts.length) : twiceIn (ts.take (j + 1)) t = (twiceIn (ts.take j) t || (ts[j].tag == t.tag || ts[j].outer == t.outer)) := by
  unfold twiceIn
  rw [List.take_succ_eq_append_getElem h, List.any_append]
  simp

theorem twiceIn_true {ts : List Ten} {t : Ten} {j : Nat} (h : j < ts.length) (hh : (ts[j].tag == t.tag || ts[j].outer == t.outer) = true) : twiceIn ts t = true := by
  unfold twiceIn
  rw [List.any_eq_true]
  exact ⟨ts[j], List.getElem_mem h, hh⟩

theorem isTwice_nil (t0 t1 t2 t3 : Int) (w : World) :
    Calls Try.prog 57 #[.slice none 0 0, .agg #[.int .i64 t0, .int .i64 t1, .int .i64 t2, .int .i64 t3]] w fun e w' => e = .returned (.bool false) ∧ Below w.heap.size w w' := by
  go_enter Try.func57, Try.ntmps57
  go_wp2
  go_loopg [9] 1 (fun k i wr => i = .int .i64 0 ∧ Below w.heap.size w wr)
  case atStart => exact ⟨rfl, (Below.refl _ _).alloc (Nat.le_refl _) _⟩
  case round =>
    obtain ⟨rfl, hb⟩ := hrel
    go_wp2
    go_ret
    exact ⟨rfl, hb⟩

set_option maxHeartbeats 400000 in
theorem isTwice_some (b off n cap : Nat) (ts : List Ten) (t0 t1 t2 t3 : Int) (w : World) (hn : n = ts.length) (hc : n ≤ cap) (hm : cap ≤ maxLen) (hb : b < w.heap.size) (hT : TenAt w b off ts) :
    Calls Try.prog 57 #[.slice (some ⟨b, off, none⟩) n cap, .agg #[.int .i64 t0, .int .i64 t1, .int .i64 t2, .int .i64 t3]] w fun e w' => e = .returned (.bool (twiceIn ts ⟨t0, t1, t2, t3⟩)) ∧ Below w.heap.size w w' := by
  unfold maxLen at hm
  have HT : Hid (TenAt w b off ts) := hT
  have HN : Hid (n = ts.length) := hn
  clear hT hn
  go_enter Try.func57, Try.ntmps57
  go_wp2
  go_loopg [9] n (fun k i wr => ∃ j : Nat, j ≤ n ∧ k = n - j ∧ i = .int .i64 j ∧ twiceIn (ts.take j) ⟨t0, t1, t2, t3⟩ = false ∧ Below w.heap.size w wr ∧ w.heap.size < wr.heap.size ∧ wr.cell? ⟨w.heap.size, 0, none⟩ = some (.int .i64 t0) ∧ wr.cell? ⟨w.heap.size, 1, none⟩ = some (.int .i64 t1))
  case atStart => exact ⟨0, Nat.zero_le _, by omega, rfl, rfl, (Below.refl _ _).alloc (Nat.le_refl _) _, by simp, by simp, by simp⟩
  case round =>
    obtain ⟨j, hj, hk, rfl, htw, hbl, hsz, hc0, hc1⟩ := hrel
    have HK : Hid (gk = n - j) := hk
    have HW : Hid (twiceIn (ts.take j) ⟨t0, t1, t2, t3⟩ = false) := htw
    have HB : Hid (Below w.heap.size w wr) := hbl
    clear hk htw
    by_cases hlt : j < n
    · have hjt : j < ts.length := by have := HN.out; omega
      obtain ⟨g0, g1, g2, g3⟩ := (HT.out.below hbl hb) j hjt
      clear hbl
      generalize hT0 : ts[j].tag = u0 at *
      generalize hT1 : ts[j].outer = u1 at *
      generalize hT2 : ts[j].low = u2 at *
      generalize hT3 : ts[j].high = u3 at *
      have HU : Hid (ts[j].tag = u0 ∧ ts[j].outer = u1) := ⟨hT0, hT1⟩
      clear hT0 hT1 hT2 hT3
      by_cases hhit : (u0 == t0 || u1 == t1) = true
      · have hfin : Hid (twiceIn ts ⟨t0, t1, t2, t3⟩ = true) := twiceIn_true hjt (by rw [HU.out.1, HU.out.2]; exact hhit)
        by_cases he : u0 = t0
        · go_wp2
          go_ret
          exact ⟨by rw [hfin.out]; rfl, HB.out.alloc (by omega) _⟩
        · have he2 : u1 = t1 := by simpa [he] using hhit
          clear hhit
          go_wp2
          go_ret
          exact ⟨by rw [hfin.out]; rfl, HB.out.alloc (by omega) _⟩
      · have he : (u0 == t0) = false := by cases h : (u0 == t0) <;> simp_all
        have he2 : (u1 == t1) = false := by cases h : (u1 == t1) <;> simp_all
        have hfin : Hid (twiceIn (ts.take (j + 1)) ⟨t0, t1, t2, t3⟩ = false) := by
          have := twiceIn_snoc ts ⟨t0, t1, t2, t3⟩ j hjt
          rw [HW.out, HU.out.1, HU.out.2, he, he2] at this
          exact this
        clear hhit
        go_wp2
        go_roundg (n - (j + 1))
        case measure => have := HK.out; omega
        case rel => 
          exact ⟨j + 1, by omega, rfl, by go_num, hfin.out, HB.out.alloc (by omega) _, by simp; omega, cellA hc0, cellA hc1⟩
    · have hjn : j = ts.length := by have := HN.out; omega
      have hfin : Hid (twiceIn ts ⟨t0, t1, t2, t3⟩ = false) := by
        have := HW.out
        rwa [hjn, List.take_length] at this
      clear hjn hbl
      go_wp2
      go_ret
      exact ⟨by rw [hfin.out]; rfl, HB.out⟩

end Go.Proofs.Ytkbgjbbniaflhaa
