/- The document's box without mappings. -/
import Derived.Test.YtgpplekabohneaaHa
import Derived.Deep.RegionLaw
namespace Go.Proofs.Ytgpplekabohneaa.B0
open Go.RowKit

attribute [local go_sem ↓] Go.wp_at_zero Go.wp_at_succ

/-- a list of tenants in memory: nil, or a row of a block of S -/
def TenSl (w : World) (S : Nat → Prop) (v : Value) (ts : List Ten) : Prop :=
  (v = .slice none 0 0 ∧ ts = []) ∨ ∃ b off cap, v = .slice (some ⟨b, off, none⟩) ts.length cap ∧ S b ∧ ts.length ≤ cap ∧ cap ≤ maxLen ∧ b < w.heap.size ∧ TenAt w b off ts

theorem tenAt_of_block {w w' : World} {b off : Nat} {ts : List Ten} (h : TenAt w b off ts) (hb : w'.heap[b]? = w.heap[b]?) : TenAt w' b off ts := by
  intro i hi
  obtain ⟨h1, h2, h3, h4⟩ := h i hi
  exact ⟨(World.cell?_of_block (a := ⟨b, _, none⟩) hb).trans h1, (World.cell?_of_block (a := ⟨b, _, none⟩) hb).trans h2, (World.cell?_of_block (a := ⟨b, _, none⟩) hb).trans h3, (World.cell?_of_block (a := ⟨b, _, none⟩) hb).trans h4⟩

theorem TenSl.keep {w w' : World} {S S' : Nat → Prop} {v : Value} {ts : List Ten} (h : TenSl w S v ts) (hsz : w.heap.size ≤ w'.heap.size) (hS : ∀ k, S k → k < w.heap.size → S' k) (hk : ∀ k, S k → k < w.heap.size → w'.heap[k]? = w.heap[k]?) : TenSl w' S' v ts := by
  rcases h with h | ⟨b, off, cap, h1, h2, h3, h4, h5, h6⟩
  · exact .inl h
  · exact .inr ⟨b, off, cap, h1, hS _ h2 h5, h3, h4, by omega, tenAt_of_block h6 (hk _ h2 h5)⟩

/-- the document's box: its tenants, no mappings -/
def RefBox (w : World) (S : Nat → Prop) (q : Nat) (ts : List Ten) : Prop :=
  S q ∧ ts.length ≤ 8 ∧ (∀ t ∈ ts, okT t = true) ∧ ∃ v, w.heap[q]? = some (.cells #[v, .slice none 0 0] 137 (0, 0)) ∧ TenSl w S v ts

theorem RefBox.keep {w w' : World} {S S' : Nat → Prop} {q : Nat} {ts : List Ten} (h : RefBox w S q ts) (hsz : w.heap.size ≤ w'.heap.size) (hS : ∀ k, S k → k < w.heap.size → S' k) (hk : ∀ k, S k → k < w.heap.size → w'.heap[k]? = w.heap[k]?) : RefBox w' S' q ts := by
  obtain ⟨h1, h2, h3, v, h4, h5⟩ := h
  have l1 := (Array.getElem?_eq_some_iff.1 h4).1
  exact ⟨hS _ h1 l1, h2, h3, v, (hk _ h1 l1).trans h4, h5.keep hsz hS hk⟩

/-- the place of the first with the tag -/
def tagAt (ts : List Ten) (tag : Int) : Option Nat := ts.findIdx? fun t => t.tag == tag

theorem byPort_any (q : Nat) (v : Value) (t pr po : Int) (w : World) (hq : w.heap[q]? = some (.cells #[v, .slice none 0 0] 137 (0, 0))) :
    Calls Try.prog 93 #[.pointer (some ⟨q, 0, none⟩), .int .i64 t, .int .i64 pr, .int .i64 po] w fun e w' => e = .returned (.pointer none) ∧ w' = w := by
  have c1 : w.cell? ⟨q, 1, none⟩ = some (.slice none 0 0) := by simp [World.cell?, hq]
  clear hq
  go_enter Try.func93, Try.ntmps93
  go_wp2
  go_loop [9] (fun i => i = .int .i64 0) (fun _ => 0)
  case atStart => rfl
  case round =>
    obtain rfl := hrel
    go_wp2
    go_ret
    exact ⟨rfl, rfl⟩

/-- the nil list is stored where it lies: nothing turns -/
theorem setCell_idle {w : World} {q : Nat} {v : Value} (hq : w.heap[q]? = some (.cells #[v, .slice none 0 0] 137 (0, 0))) (k : Nat) : (w.setCell ⟨q, 1, none⟩ (.slice none 0 0)).heap[k]? = w.heap[k]? := by
  by_cases h : k = q
  · subst h
    simp [World.setCell, Array.getElem?_modify, hq]
  · exact Below.heap_setCell _ _ _ _ h

theorem tickRef_any (q : Nat) (v : Value) (t : Int) (w : World) (hq : w.heap[q]? = some (.cells #[v, .slice none 0 0] 137 (0, 0))) :
    Calls Try.prog 36 #[.pointer (some ⟨q, 0, none⟩), .int .i64 t] w fun e w' => e = .returned (.int .i64 (tickB t)) ∧ Below w.heap.size w w' := by
  have c1 : w.cell? ⟨q, 1, none⟩ = some (.slice none 0 0) := by simp [World.cell?, hq]
  have f1 : w.frozen? ⟨q, 1, none⟩ = false := by simp [World.frozen?, hq]
  have HQ := hide hq
  clear hq
  by_cases h1 : t < 0
  · have h : tickB t = 6 := by simp [tickB, h1]
    rw [h]; clear h
    go_enter Try.func36, Try.ntmps36
    go_wp2
    go_ret
    exact ⟨rfl, Below.refl _ _⟩
  · by_cases h2 : 100000 < t
    · have h : tickB t = 6 := by simp [tickB, h2]
      rw [h]; clear h
      go_enter Try.func36, Try.ntmps36
      go_wp2
      go_ret
      exact ⟨rfl, Below.refl _ _⟩
    · have h : tickB t = 0 := by simp [tickB, h1, h2]
      rw [h]; clear h
      go_enter Try.func36, Try.ntmps36
      go_wp2
      go_loop [5, 6] (fun l i => l = .slice none 0 0 ∧ i = .int .i64 0) (fun _ _ => 0)
      case atStart => exact ⟨rfl, rfl⟩
      case round =>
        obtain ⟨rfl, rfl⟩ := hrel
        go_wp2
        go_ret
        refine ⟨rfl, ⟨rfl, rfl, rfl, by simp [World.setCell], fun k hk => ?_⟩⟩
        exact setCell_idle (unhide HQ) k

theorem hasTag_take_snoc (ts : List Ten) (tag : Int) (j : Nat) (h : j < ts.length) : hasTag (ts.take (j + 1)) tag = (hasTag (ts.take j) tag || ts[j].tag == tag) := by
  unfold hasTag
  rw [List.take_succ_eq_append_getElem h, List.any_append]
  simp

theorem hasTag_true {ts : List Ten} {tag : Int} {j : Nat} (h : j < ts.length) (hh : (ts[j].tag == tag) = true) : hasTag ts tag = true := by
  unfold hasTag
  rw [List.any_eq_true]
  exact ⟨ts[j], List.getElem_mem h, hh⟩

/-- 'tenant': the place of one with the tag, or -1 -/
def tenEnd (ts : List Ten) (tag : Int) (w : World) (e : Ending) (w' : World) : Prop :=
  w' = w ∧ ((hasTag ts tag = false ∧ e = .returned (.int .i64 (-1))) ∨ (hasTag ts tag = true ∧ ∃ j : Nat, j < ts.length ∧ e = .returned (.int .i64 j)))

theorem tenant_nil (q : Nat) (tag : Int) (w : World) (hq : w.heap[q]? = some (.cells #[.slice none 0 0, .slice none 0 0] 137 (0, 0))) :
    Calls Try.prog 92 #[.pointer (some ⟨q, 0, none⟩), .int .i64 tag] w fun e w' => tenEnd [] tag w e w' := by
  have c0 : w.cell? ⟨q, 0, none⟩ = some (.slice none 0 0) := by simp [World.cell?, hq]
  clear hq
  go_enter Try.func92, Try.ntmps92
  go_wp2
  go_loop [5] (fun i => i = .int .i64 0) (fun _ => 0)
  case atStart => rfl
  case round =>
    obtain rfl := hrel
    go_wp2
    go_ret
    exact ⟨rfl, .inl ⟨rfl, rfl⟩⟩

set_option maxHeartbeats 400000 in
theorem tenant_some (q b off n cap : Nat) (ts : List Ten) (tag : Int) (w : World) (hq : w.heap[q]? = some (.cells #[.slice (some ⟨b, off, none⟩) n cap, .slice none 0 0] 137 (0, 0))) (hn : n = ts.length) (_h8 : n ≤ 8) (hc : n ≤ cap) (hm : cap ≤ maxLen) (hT : TenAt w b off ts) :
    Calls Try.prog 92 #[.pointer (some ⟨q, 0, none⟩), .int .i64 tag] w fun e w' => tenEnd ts tag w e w' := by
  have c0 : w.cell? ⟨q, 0, none⟩ = some (.slice (some ⟨b, off, none⟩) n cap) := by simp [World.cell?, hq]
  unfold maxLen at hm
  have HT : Hid (TenAt w b off ts) := hT
  have HN : Hid (n = ts.length) := hn
  clear hT hn hq
  go_enter Try.func92, Try.ntmps92
  go_wp2
  go_loop [5] (fun i => ∃ j : Nat, j ≤ n ∧ i = .int .i64 j ∧ hasTag (ts.take j) tag = false) (fun i => n - (intOf i).toNat)
  case atStart => exact ⟨0, Nat.zero_le _, rfl, rfl⟩
  case round =>
    obtain ⟨j, hj, rfl, hno⟩ := hrel
    have HO := hide hno
    clear hno
    by_cases hlt : j < n
    · have hjt : j < ts.length := by have := HN.out; omega
      obtain ⟨g0, _, _, _⟩ := HT.out j hjt
      have hst := hasTag_take_snoc ts tag j hjt
      have htr := fun hh => hasTag_true (ts := ts) (tag := tag) hjt hh
      rw [unhide HO] at hst
      generalize ts[j].tag = u0 at *
      have HST := hide hst
      have HTR := hide htr
      clear hst htr
      cases he : (u0 == tag)
      · go_wp2
        go_round
        case rel => exact ⟨j + 1, by omega, by go_num, by rw [unhide HST, he]; rfl⟩
        case measure => simp [intOf]; omega
      · go_wp2
        go_ret
        exact ⟨rfl, .inr ⟨(unhide HTR) he, j, hjt, rfl⟩⟩
    · have hno := unhide HO
      rw [List.take_of_length_le (by have := HN.out; omega)] at hno
      have HO2 := hide hno
      clear hno
      go_wp2
      go_ret
      exact ⟨rfl, .inl ⟨unhide HO2, rfl⟩⟩

set_option maxHeartbeats 400000 in
/-- 'Table' of the document's box: nothing, and ErrNone where no tenant has the tag -/
theorem tableRef_nil (q : Nat) (tag : Int) (w : World) (hq : w.heap[q]? = some (.cells #[.slice none 0 0, .slice none 0 0] 137 (0, 0))) :
    Calls Try.prog 56 #[.pointer (some ⟨q, 0, none⟩), .int .i64 tag] w fun e w' => e = .returned (.tuple #[.slice none 0 0, .int .i64 (tabErr [] tag)]) ∧ w' = w := by
  have HQ := hide hq
  clear hq
  go_enter Try.func56, Try.ntmps56
  go_wp2_with fail
  refine (tenant_nil q tag w (unhide HQ)).mono ?_
  rintro e w' ⟨rfl, h | h⟩
  · obtain ⟨_, rfl⟩ := h
    go_wp2
    go_ret2
    exact ⟨rfl, rfl⟩
  · cases h.1

set_option maxHeartbeats 400000 in
theorem tableRef_some (q b off n cap : Nat) (ts : List Ten) (tag : Int) (w : World) (hq : w.heap[q]? = some (.cells #[.slice (some ⟨b, off, none⟩) n cap, .slice none 0 0] 137 (0, 0))) (hn : n = ts.length) (h8 : n ≤ 8) (hc : n ≤ cap) (hm : cap ≤ maxLen) (hT : TenAt w b off ts) (hok : ∀ t ∈ ts, okT t = true) :
    Calls Try.prog 56 #[.pointer (some ⟨q, 0, none⟩), .int .i64 tag] w fun e w' => e = .returned (.tuple #[.slice none 0 0, .int .i64 (tabErr ts tag)]) ∧ w' = w := by
  have c0 : w.cell? ⟨q, 0, none⟩ = some (.slice (some ⟨b, off, none⟩) n cap) := by simp [World.cell?, hq]
  have HQ := hide hq
  have HT : Hid (TenAt w b off ts) := hT
  have HN : Hid (n = ts.length) := hn
  have HTEN := hide (tenant_some q b off n cap ts tag w hq hn h8 hc hm hT)
  have HOK := hide hok
  unfold maxLen at hm
  clear hT hn hq hok
  go_enter Try.func56, Try.ntmps56
  go_wp2_with fail
  refine (unhide HTEN).mono ?_
  rintro e w' ⟨rfl, h | h⟩
  · obtain ⟨h, rfl⟩ := h
    have HH := hide h
    clear h HTEN
    go_wp2
    go_ret2
    exact ⟨by unfold tabErr; rw [unhide HH]; rfl, rfl⟩
  · obtain ⟨h, j, hj, rfl⟩ := h
    have HH := hide h
    obtain ⟨g0, g1, g2, g3⟩ := HT.out j hj
    have hsp := okT_spans (a := ts[j].tag) (b := ts[j].outer) (c := ts[j].low) (d := ts[j].high) (unhide HOK _ (List.getElem_mem hj))
    have hjn : j < n := by have := HN.out; omega
    generalize ts[j].low = low at *
    generalize ts[j].high = high at *
    obtain ⟨hlo, hhi⟩ := hsp
    clear h HTEN g0 g1 hj
    go_wp2
    go_loopg [7, 8] 3 (fun z l p wr => wr = w' ∧ l = .slice none 0 0 ∧ ∃ k : Int, 1 ≤ k ∧ k ≤ 4 ∧ z = (4 - k).toNat ∧ p = .int .i64 k)
    case atStart => exact ⟨rfl, rfl, 1, by omega, by omega, by omega, rfl⟩
    case round =>
      obtain ⟨rfl, rfl, k, hk1, hk2, hz, rfl⟩ := hrel
      have HZ := hide hz
      clear hz
      by_cases hk : k ≤ 3
      · go_wp2
        go_loopg [7, 9] (65536 - low).toNat (fun z l p w2 => w2 = wr ∧ l = .slice none 0 0 ∧ ∃ x : Int, 0 ≤ x ∧ z = (65536 - x).toNat ∧ p = .int .i64 x)
        case atStart => exact ⟨rfl, rfl, low, hlo, rfl, rfl⟩
        case round =>
          obtain ⟨rfl, rfl, x, hx, hz, rfl⟩ := hrel
          have HY := hide hz
          clear hz
          by_cases hxh : x ≤ high
          · have HP := hide (byPort_any q _ j k x wr (unhide HQ))
            go_wp2_with fail
            refine (unhide HP).mono ?_
            rintro e w3 ⟨rfl, rfl⟩
            clear HP
            go_wp2
            go_roundg (65536 - (x + 1)).toNat
            case measure => have := unhide HY; omega
            case rel => exact ⟨rfl, rfl, x + 1, by omega, rfl, rfl⟩
          · go_wp2
            go_roundg (4 - (k + 1)).toNat
            case measure => have := unhide HZ; omega
            case rel => exact ⟨rfl, rfl, k + 1, by omega, by omega, rfl, rfl⟩
      · go_wp2
        go_ret2
        exact ⟨by unfold tabErr; rw [unhide HH]; rfl, rfl⟩

end Go.Proofs.Ytgpplekabohneaa.B0

namespace Go.Proofs.Ytgpplekabohneaa.B0
open Go.RowKit

attribute [local go_sem ↓] Go.wp_at_zero Go.wp_at_succ

def tenCells (ts : List Ten) : List Value := ts.flatMap fun t => [.int .i64 t.tag, .int .i64 t.outer, .int .i64 t.low, .int .i64 t.high]

theorem info73 : (Try.prog.info? 73).map (fun i => (i.zero, i.size, i.bytes)) = some (some (.agg #[.int .i64 0, .int .i64 0, .int .i64 0, .int .i64 0]), 4, 32) := by kernel_rfl

theorem okT_split (a b c d : Int) : okT ⟨a, b, c, d⟩ = (inB a 1 4094 && inB b 0 4294967295 && inB c 0 65535 && inB d 0 65535 && decide (c ≤ d) && decide (d - c < 64)) := by
  unfold okT inB
  rw [Bool.eq_iff_iff]
  simp
  omega

theorem twiceIn_take_true {ts : List Ten} {t : Ten} {m j : Nat} (hm : m < j) (h : m < ts.length) (hh : (ts[m].tag == t.tag || ts[m].outer == t.outer) = true) : twiceIn (ts.take j) t = true :=
  twiceIn_true (j := m) (by simp; omega) (by rw [List.getElem_take]; exact hh)

/-- a block that is not the row appended to is as it was -/
theorem kept_x {w0 w' : World} {v : Value} {g k : Nat} (hgr : (v.ownBlock = some g ∧ w0.grownBy w' (some g)) ∨ (g = w0.heap.size ∧ w0.grownBy w' none)) (hk : k < w0.heap.size) (hne : v.ownBlock ≠ some k) : w'.heap[k]? = w0.heap[k]? := by
  rcases hgr with ⟨h1, h2⟩ | ⟨h1, h2⟩
  · exact h2.block k hk (fun e => hne (by rw [h1, e]))
  · exact h2.block k hk (by simp)

theorem size_x {w0 w' : World} {v : Value} {g : Nat} (hgr : (v.ownBlock = some g ∧ w0.grownBy w' (some g)) ∨ (g = w0.heap.size ∧ w0.grownBy w' none)) : w0.heap.size ≤ w'.heap.size := by
  rcases hgr with ⟨_, h2⟩ | ⟨_, h2⟩ <;> exact h2.size

theorem below_x {w0 w' : World} {v : Value} {g B : Nat} (hgr : (v.ownBlock = some g ∧ w0.grownBy w' (some g)) ∨ (g = w0.heap.size ∧ w0.grownBy w' none)) (hB : B ≤ w0.heap.size) (hv : ∀ k, v.ownBlock = some k → B ≤ k) : Below B w0 w' := by
  rcases hgr with ⟨h1, h2⟩ | ⟨_, h2⟩
  · exact (Below.refl B w0).grown h2 hB (fun k hk => hv k (by rw [h1, hk]))
  · exact (Below.refl B w0).grown h2 hB (fun k hk => by cases hk)

theorem ownsRow_of_below {w w' : World} {base e size n : Nat} {v : Value} {xs : List Value} (h : w.ownsRow base e size v n xs) (hb : Below w.heap.size w w') : w'.ownsRow base e size v n xs :=
  h.kept (row := none) ⟨hb.os, hb.tape, hb.output, hb.size, fun k hk _ => hb.block k hk⟩ (by cases hv : v.ownBlock <;> simp)

/-- a round of the document's New, of the blocks alone -/
theorem ref_step {w W0 w5 : World} {v : Value} {j g cap : Nat} {xs : List Value} {W : World} (hW : W.heap = W0.heap) (hB : Below w.heap.size w W) (hq : W0.heap[w.heap.size]? = some (.cells #[v, .slice none 0 0] 137 (0, 0))) (hv : ∀ k, v.ownBlock = some k → w.heap.size + 1 ≤ k)
    (hown5 : w5.ownsRow (w.heap.size + 1) 73 4 (.slice (some ⟨g, 0, none⟩) (j + 1) cap) (j + 1) xs) (hgr : (v.ownBlock = some g ∧ W.grownBy w5 (some g)) ∨ (g = W.heap.size ∧ W.grownBy w5 none)) :
    Below w.heap.size w (w5.setCell ⟨w.heap.size, 0, none⟩ (.slice (some ⟨g, 0, none⟩) (j + 1) cap)) ∧ w.heap.size < (w5.setCell ⟨w.heap.size, 0, none⟩ (.slice (some ⟨g, 0, none⟩) (j + 1) cap)).heap.size ∧
      (w5.setCell ⟨w.heap.size, 0, none⟩ (.slice (some ⟨g, 0, none⟩) (j + 1) cap)).heap[w.heap.size]? = some (.cells #[.slice (some ⟨g, 0, none⟩) (j + 1) cap, .slice none 0 0] 137 (0, 0)) ∧
      (w5.setCell ⟨w.heap.size, 0, none⟩ (.slice (some ⟨g, 0, none⟩) (j + 1) cap)).ownsRow (w.heap.size + 1) 73 4 (.slice (some ⟨g, 0, none⟩) (j + 1) cap) (j + 1) xs := by
  have hq' : W.heap[w.heap.size]? = some (.cells #[v, .slice none 0 0] 137 (0, 0)) := by rw [hW]; exact hq
  have hlt := (Array.getElem?_eq_some_iff.1 hq').1
  have hsz := size_x hgr
  have hq5 : w5.heap[w.heap.size]? = some (.cells #[v, .slice none 0 0] 137 (0, 0)) := (kept_x hgr hlt (fun e => by have := hv _ e; omega)).trans hq'
  refine ⟨?_, ?_, ?_, ownsRow_setCell_below hown5 (by show w.heap.size < _; omega) _⟩
  · exact (hB.trans (below_x hgr (by omega) (fun k hk => by have := hv k hk; omega))).setCell (by show w.heap.size ≤ w.heap.size; omega) _
  · simp [World.setCell]
    omega
  · simp [World.setCell, Array.getElem?_modify, hq5]

theorem tenCells_at : ∀ (ts : List Ten) (i : Nat) (h : i < ts.length), (tenCells ts)[i * 4]? = some (.int .i64 ts[i].tag) ∧ (tenCells ts)[i * 4 + 1]? = some (.int .i64 ts[i].outer) ∧ (tenCells ts)[i * 4 + 2]? = some (.int .i64 ts[i].low) ∧ (tenCells ts)[i * 4 + 3]? = some (.int .i64 ts[i].high)
  | t :: r, 0, _ => ⟨rfl, rfl, rfl, rfl⟩
  | t :: r, i + 1, h => by
    have := tenCells_at r i (by simpa using h)
    have e : tenCells (t :: r) = .int .i64 t.tag :: .int .i64 t.outer :: .int .i64 t.low :: .int .i64 t.high :: tenCells r := rfl
    rw [e]
    have e0 : (i + 1) * 4 = i * 4 + 1 + 1 + 1 + 1 := by omega
    rw [e0]
    simpa using this

theorem tenSl_of_owns {w : World} {B j : Nat} {v : Value} {ts : List Ten} (hj : j = ts.length) (h : w.ownsRow (B + 1) 73 4 v j (tenCells ts)) : TenSl w (fun k => B ≤ k) v ts := by
  subst hj
  rcases h.2 with ⟨rfl, h0⟩ | ⟨g, cap, cur, rfl, hbg, hg, hnc, hcm, hcs, htake⟩
  · exact .inl ⟨rfl, List.eq_nil_of_length_eq_zero h0⟩
  · refine .inr ⟨g, 0, cap, rfl, by show B ≤ g; omega, hnc, hcm, (Array.getElem?_eq_some_iff.1 hg).1, fun i hi => ?_⟩
    obtain ⟨q0, q1, q2, q3⟩ := tenCells_at ts i hi
    have hc := h.cells (g := g) rfl
    have hadd : ∀ o, (⟨g, 0, none⟩ : Addr).add o = ⟨g, o, none⟩ := fun o => by unfold Addr.add; split <;> simp_all
    refine ⟨?_, ?_, ?_, ?_⟩
    · have := hc _ _ q0; rw [hadd] at this; simpa using this
    · have := hc _ _ q1; rw [hadd] at this; simpa using this
    · have := hc _ _ q2; rw [hadd] at this; simpa using this
    · have := hc _ _ q3; rw [hadd] at this; simpa using this

/-- what the document's New leaves -/
def RefEnd (w : World) (ts : List Ten) (e : Ending) (w' : World) : Prop :=
  Below w.heap.size w w' ∧ ((newErr ts ≠ 0 ∧ e = .returned (.tuple #[.pointer none, .int .i64 (newErr ts)])) ∨
    (newErr ts = 0 ∧ ∃ q, e = .returned (.tuple #[.pointer (some ⟨q, 0, none⟩), .int .i64 0]) ∧ RefBox w' (fun k => w.heap.size ≤ k) q ts))

set_option maxRecDepth 100000 in
theorem refNew_nil (w : World) : Calls Try.prog 55 #[.slice none 0 0] w fun e w' => RefEnd w [] e w' := by
  go_enter Try.func55, Try.ntmps55
  go_wp2
  go_loopg [5] 1 (fun k i wr => i = .int .i64 0 ∧ wr = w.alloc (.cells #[.slice none 0 0, .slice none 0 0] 137))
  case atStart => exact ⟨rfl, rfl⟩
  case round =>
    obtain ⟨rfl, hwr⟩ := hrel
    have HW := hide hwr
    clear hwr
    go_wp2
    go_ret2
    have hwr := unhide HW
    refine ⟨?_, .inr ⟨rfl, _, rfl, ?_⟩⟩
    · rw [hwr]
      exact (Below.refl _ _).alloc (Nat.le_refl _) _
    · exact ⟨Nat.le_refl _, by simp, by simp, .slice none 0 0, by rw [hwr]; exact blkN _ _ _ rfl, .inl ⟨rfl, rfl⟩⟩

set_option maxRecDepth 100000 in
set_option maxHeartbeats 1000000 in
theorem refNew_some (b off n cap : Nat) (ts : List Ten) (w : World) (hn : n = ts.length) (_hc : n ≤ cap) (hm : cap ≤ maxLen) (hb : b < w.heap.size) (hT : TenAt w b off ts) :
    Calls Try.prog 55 #[.slice (some ⟨b, off, none⟩) n cap] w fun e w' => RefEnd w ts e w' := by
  have hm0 := hm
  unfold maxLen at hm
  have HT : Hid (TenAt w b off ts) := hT
  have HN : Hid (n = ts.length) := hn
  clear hT hn
  by_cases h8 : 8 < n
  · have hfin : Hid (newErr ts = 1) := by unfold newErr; rw [if_pos (by have := HN.out; omega)]; rfl
    go_enter Try.func55, Try.ntmps55
    go_wp2
    go_ret2
    exact ⟨Below.refl _ _, .inl ⟨by rw [hfin.out]; decide, by rw [hfin.out]; rfl⟩⟩
  · have hnew : Hid (newErr ts = errFrom [] ts) := by unfold newErr; rw [if_neg (by have := HN.out; omega)]; rfl
    go_enter Try.func55, Try.ntmps55
    go_wp2
    go_loopg [5] n (fun k i wr => ∃ (j : Nat) (v : Value), j ≤ n ∧ k = n - j ∧ i = .int .i64 j ∧ newErr ts = errFrom (ts.take j) (ts.drop j) ∧ Below w.heap.size w wr ∧ w.heap.size < wr.heap.size ∧
      wr.heap[w.heap.size]? = some (.cells #[v, .slice none 0 0] 137 (0, 0)) ∧ wr.ownsRow (w.heap.size + 1) 73 4 v j (tenCells (ts.take j)) ∧ ∀ t ∈ ts.take j, okT t = true)
    case atStart => exact ⟨0, .slice none 0 0, Nat.zero_le _, by omega, rfl, hnew.out, (Below.refl _ _).alloc (Nat.le_refl _) _, by simp, blkN _ _ _ rfl, World.ownsRow_nil _ _ _ _, by simp⟩
    case round =>
      obtain ⟨j, v, hj, hk, rfl, her, hbl, hsz, hbox, hown, hoks⟩ := hrel
      have HK := hide hk
      have HE := hide her
      have HB := hide hbl
      have HX := hide hbox
      have HO := hide hown
      have HS := hide hoks
      clear hk her hnew hbox hown hoks
      by_cases hlt : j < n
      · have hjt : j < ts.length := by have := HN.out; omega
        obtain ⟨g0, g1, g2, g3⟩ := (HT.out.below hbl hb) j hjt
        clear hbl
        have HEA := errFrom_at ts j hjt
        have hsn := List.take_succ_eq_append_getElem hjt
        generalize hT0 : ts[j] = t at *
        obtain ⟨x0, x1, x2, x3⟩ := t
        simp only at g0 g1 g2 g3
        have HA := hide HEA
        have HSN := hide hsn
        have HOS := hide (okT_split x0 x1 x2 x3)
        clear HEA hT0 hsn
        have hbad : okT ⟨x0, x1, x2, x3⟩ = false → newErr ts = 2 := by
          intro hok
          rw [unhide HE, unhide HA, hok]; rfl
        have HBAD := hide hbad
        clear hbad
        by_cases hok : okT ⟨x0, x1, x2, x3⟩ = true
        · have hsp := unhide HOS
          rw [hok] at hsp
          simp at hsp
          obtain ⟨⟨⟨⟨⟨a1, a2⟩, a3⟩, a4⟩, a5⟩, a6⟩ := hsp
          have hspan := okT_spans hok
          have HOK := hide hok
          clear HBAD HOS hok
          obtain ⟨b1, b2⟩ := hspan
          go_wp2_with (go_at_call 91; refine (within_any _ _ _ _).mono ?_; rintro e w' ⟨rfl, rfl⟩)
          obtain ⟨wo, hwo⟩ : ∃ wo, wo = wr := ⟨_, rfl⟩
          subst hwo
          go_loopg [11] j (fun z i w2 => ∃ m : Nat, m ≤ j ∧ z = j - m ∧ i = .int .i64 m ∧ twiceIn (ts.take m) ⟨x0, x1, x2, x3⟩ = false ∧ Below (wo.heap.size + 1) (wo.alloc (.cells #[.int .i64 x0, .int .i64 x1, .int .i64 x2, .int .i64 x3] 73)) w2)
          case atStart => exact ⟨0, Nat.zero_le _, by omega, rfl, rfl, Below.refl _ _⟩
          case round =>
            obtain ⟨m, hmj, hz, rfl, htw, hb2⟩ := hrel
            have HZ := hide hz
            have HW := hide htw
            have HB2 := hide hb2
            have hs2 : wo.heap.size + 1 ≤ wr.heap.size := by have := hb2.size; simpa using this
            have t0 : wr.cell? ⟨wo.heap.size, 0, none⟩ = some (.int .i64 x0) := (hb2.cell (p := ⟨wo.heap.size, 0, none⟩) (by simp)).trans (by simp)
            have t1 : wr.cell? ⟨wo.heap.size, 1, none⟩ = some (.int .i64 x1) := (hb2.cell (p := ⟨wo.heap.size, 1, none⟩) (by simp)).trans (by simp)
            have HBW := hide ((HB.out.alloc (by omega) _).trans (hb2.mono (by omega)))
            clear hz htw hb2 g0 g1 g2 g3
            by_cases hmlt : m < j
            · have hmt : m < ts.length := by omega
              obtain ⟨g0, g1, _, _⟩ := (HT.out.below (unhide HBW) hb) m hmt
              have hst := twiceIn_snoc ts ⟨x0, x1, x2, x3⟩ m hmt
              have htr := fun hh => twiceIn_take_true (ts := ts) (t := ⟨x0, x1, x2, x3⟩) hmlt hmt hh
              rw [unhide HW] at hst
              generalize ts[m].tag = y0 at *
              generalize ts[m].outer = y1 at *
              have HST := hide hst
              have HTR := hide htr
              have hmn : (m : Int) < (n : Int) := by omega
              clear hst htr
              cases e0 : (y0 == x0)
              · cases e1 : (y1 == x1)
                · go_wp2
                  go_quiet (fail)
                  go_wp2
                  go_roundg (j - (m + 1))
                  case measure => have := unhide HZ; omega
                  case rel => exact ⟨m + 1, by omega, rfl, by go_num, by rw [unhide HST, e0, e1]; rfl, (unhide HB2).trans ⟨rfl, rfl, rfl, by simp, fun _ _ => rfl⟩⟩
                · have hfin : Hid (newErr ts = 3) := by
                    show newErr ts = 3
                    rw [unhide HE, unhide HA, unhide HOK, unhide HTR (by rw [e0, e1]; rfl)]; rfl
                  go_wp2
                  go_quiet (fail)
                  go_wp2
                  go_ret2
                  exact ⟨(unhide HBW).trans ⟨rfl, rfl, rfl, by simp, fun _ _ => rfl⟩, .inl ⟨by rw [unhide hfin]; decide, by rw [unhide hfin]; rfl⟩⟩
              · have hfin : Hid (newErr ts = 3) := by
                  show newErr ts = 3
                  rw [unhide HE, unhide HA, unhide HOK, unhide HTR (by rw [e0]; rfl)]; rfl
                go_wp2
                go_quiet (fail)
                go_wp2
                go_ret2
                exact ⟨(unhide HBW).trans ⟨rfl, rfl, rfl, by simp, fun _ _ => rfl⟩, .inl ⟨by rw [unhide hfin]; decide, by rw [unhide hfin]; rfl⟩⟩
            · have hmj2 : m = j := by omega
              have HW2 := unhide HW
              rw [hmj2] at HW2
              have HW3 := hide HW2
              clear HW2 HW hmj2
              have HNX : Hid (newErr ts = errFrom (ts.take (j + 1)) (ts.drop (j + 1))) := by
                show newErr ts = _
                rw [unhide HE, unhide HA, unhide HOK, unhide HW3]; rfl
              have hq0 : wr.heap[w.heap.size]? = some (.cells #[v, .slice none 0 0] 137 (0, 0)) := ((unhide HB2).block w.heap.size (by omega)).trans (blkA (unhide HX))
              have ho0 : wr.ownsRow (w.heap.size + 1) 73 4 v j (tenCells (ts.take j)) := ownsRow_of_below ((unhide HO).alloc _) (by simpa using unhide HB2)
              have hvb : ∀ k, v.ownBlock = some k → w.heap.size + 1 ≤ k ∧ k < wo.heap.size := (unhide HO).lt
              have hX : ∀ X, (wr.alloc X).heap[w.heap.size]? = some (.cells #[v, .slice none 0 0] 137 (0, 0)) := fun X => blkA hq0
              have hO : ∀ X, (wr.alloc X).ownsRow (w.heap.size + 1) 73 4 v j (tenCells (ts.take j)) := fun X => ho0.alloc X
              have c0 : wr.cell? ⟨w.heap.size, 0, none⟩ = some v := by simp [World.cell?, hq0]
              have t2 : wr.cell? ⟨wo.heap.size, 2, none⟩ = some (.int .i64 x2) := ((unhide HB2).cell (p := ⟨wo.heap.size, 2, none⟩) (by simp)).trans (by simp)
              have t3 : wr.cell? ⟨wo.heap.size, 3, none⟩ = some (.int .i64 x3) := ((unhide HB2).cell (p := ⟨wo.heap.size, 3, none⟩) (by simp)).trans (by simp)
              have f0 : wr.frozen? ⟨w.heap.size, 0, none⟩ = false := by simp [World.frozen?, hq0]
              have Z1 : Hid (v.ownBlock ≠ some w.heap.size) := fun e => by have := hvb _ e; omega
              have Z2 : Hid (v.ownBlock ≠ some wo.heap.size) := fun e => by have := hvb _ e; omega
              have HXX := hide hX
              have HOO := hide hO
              have HVB := hide hvb
              obtain ⟨i0, hi, hz0, hz1, hz2⟩ := info_parts info73
              have HI := hide (And.intro hi (And.intro hz0 (And.intro hz1 hz2)))
              have ca : ∀ X, (wr.alloc X).cell? ⟨w.heap.size, 0, none⟩ = some v := fun X => cellA c0
              have ta0 : ∀ X, (wr.alloc X).cell? ⟨wo.heap.size, 0, none⟩ = some (.int .i64 x0) := fun X => cellA t0
              have ta1 : ∀ X, (wr.alloc X).cell? ⟨wo.heap.size, 1, none⟩ = some (.int .i64 x1) := fun X => cellA t1
              have ta2 : ∀ X, (wr.alloc X).cell? ⟨wo.heap.size, 2, none⟩ = some (.int .i64 x2) := fun X => cellA t2
              have ta3 : ∀ X, (wr.alloc X).cell? ⟨wo.heap.size, 3, none⟩ = some (.int .i64 x3) := fun X => cellA t3
              clear hX hO hvb hq0 ho0 hi hz0 hz1 hz2
              go_wp2
              go_region_law
                ((refine step_append_x _ (by rfl) _ _ _ (by rfl) (w.heap.size + 1) 73 i0 _ 4 32 Try.underlying74 (unhide HI).1 (unhide HI).2.1 (unhide HI).2.2.1 (unhide HI).2.2.2 rfl (by omega) v j (tenCells (ts.take j)) (by rfl) (by exact unhide HOO _) ⟨wr.heap.size, 0, none⟩ 1 1 [.int .i64 x0, .int .i64 x1, .int .i64 x2, .int .i64 x3] (by rfl) (by rfl) (World.news_of_block (by exact blkN wr _ _ rfl)) (by simp [Value.oneCell']) (by omega) (by unfold maxLen; omega) (by omega) (by simp; omega) ?_; intro g cap5 w5 hown5 hgr5;
                  have kp : (∀ (k : Nat), k < wr.heap.size → v.ownBlock ≠ some k → w5.heap[k]? = wr.heap[k]?) := (fun (k : Nat) (hk : k < wr.heap.size) (hne : v.ownBlock ≠ some k) => (kept_x hgr5 (by simp; omega) hne).trans (Below.heap_alloc wr _ k hk));
                  have k0 : w5.cell? ⟨w.heap.size, 0, none⟩ = some v := (World.cell?_of_block (a := ⟨w.heap.size, 0, none⟩) (kp w.heap.size (by omega) (unhide Z1))).trans c0;
                  have k1 : (∀ o, w5.cell? ⟨wo.heap.size, o, none⟩ = wr.cell? ⟨wo.heap.size, o, none⟩) := (fun o => World.cell?_of_block (a := ⟨wo.heap.size, o, none⟩) (kp wo.heap.size (by omega) (unhide Z2)));
                  have fz : w5.frozen? ⟨w.heap.size, 0, none⟩ = false := (World.frozen?_of_block (a := ⟨w.heap.size, 0, none⟩) (kp w.heap.size (by omega) (unhide Z1))).trans f0;
                  have HOWN5 := hide hown5; have HGR5 := hide hgr5; clear hown5 hgr5 kp))
              all_goals
                clear k0 k1 fz
                go_wp2
                go_roundg (n - (j + 1))
                case measure => have := unhide HK; omega
                case rel =>
                  have hbw : Below w.heap.size w (wr.alloc (Obj.cells #[Value.int IntKind.i64 x0, Value.int IntKind.i64 x1, Value.int IntKind.i64 x2, Value.int IntKind.i64 x3] 73)).drew := ((unhide HBW).alloc (by omega) _).drew
                  obtain ⟨s1, s2, s3, s4⟩ := ref_step (W := (wr.alloc (Obj.cells #[Value.int IntKind.i64 x0, Value.int IntKind.i64 x1, Value.int IntKind.i64 x2, Value.int IntKind.i64 x3] 73)).drew) (W0 := wr.alloc (Obj.cells #[Value.int IntKind.i64 x0, Value.int IntKind.i64 x1, Value.int IntKind.i64 x2, Value.int IntKind.i64 x3] 73)) rfl hbw (unhide HXX _) (fun k hk => ((unhide HVB) k hk).1) (unhide HOWN5) (unhide HGR5)
                  refine ⟨j + 1, _, by omega, rfl, by go_num, unhide HNX, s1, s2, s3, ?_, ?_⟩
                  · rw [unhide HSN]
                    have e : tenCells (ts.take j ++ [⟨x0, x1, x2, x3⟩]) = tenCells (ts.take j) ++ [.int .i64 x0, .int .i64 x1, .int .i64 x2, .int .i64 x3] := by simp [tenCells]
                    rw [e]
                    exact s4
                  · intro t ht
                    rw [unhide HSN] at ht
                    rcases List.mem_append.1 ht with ht | ht
                    · exact (unhide HS) t ht
                    · simp at ht
                      rw [ht]
                      exact unhide HOK
        · have hok' : okT ⟨x0, x1, x2, x3⟩ = false := by simpa using hok
          have hfin := hide (unhide HBAD hok')
          have hsp := unhide HOS
          rw [hok'] at hsp
          have HSP := hide hsp
          clear hok hok' HOS HBAD hsp
          cases a1 : inB x0 1 4094
          · go_wp2_with (go_at_call 91; refine (within_any _ _ _ _).mono ?_; rintro e w' ⟨rfl, rfl⟩)
            go_ret2
            exact ⟨HB.out.alloc (by omega) _, .inl ⟨by rw [unhide hfin]; decide, by rw [unhide hfin]; rfl⟩⟩
          cases a2 : inB x1 0 4294967295
          · go_wp2_with (go_at_call 91; refine (within_any _ _ _ _).mono ?_; rintro e w' ⟨rfl, rfl⟩)
            go_ret2
            exact ⟨HB.out.alloc (by omega) _, .inl ⟨by rw [unhide hfin]; decide, by rw [unhide hfin]; rfl⟩⟩
          cases a3 : inB x2 0 65535
          · go_wp2_with (go_at_call 91; refine (within_any _ _ _ _).mono ?_; rintro e w' ⟨rfl, rfl⟩)
            go_ret2
            exact ⟨HB.out.alloc (by omega) _, .inl ⟨by rw [unhide hfin]; decide, by rw [unhide hfin]; rfl⟩⟩
          cases a4 : inB x3 0 65535
          · go_wp2_with (go_at_call 91; refine (within_any _ _ _ _).mono ?_; rintro e w' ⟨rfl, rfl⟩)
            go_ret2
            exact ⟨HB.out.alloc (by omega) _, .inl ⟨by rw [unhide hfin]; decide, by rw [unhide hfin]; rfl⟩⟩
          have hsp2 : ¬ x2 ≤ x3 ∨ ¬ x3 - x2 < 64 := by
            have hsp := unhide HSP
            rw [a1, a2, a3, a4] at hsp
            simp at hsp
            omega
          have hb3 : 0 ≤ x2 ∧ x2 ≤ 65535 := by simpa [inB] using a3
          have hb4 : 0 ≤ x3 ∧ x3 ≤ 65535 := by simpa [inB] using a4
          obtain ⟨c1, c2⟩ := hb3
          obtain ⟨c3, c4⟩ := hb4
          by_cases a5 : x3 < x2
          · clear hsp2
            go_wp2_with (go_at_call 91; refine (within_any _ _ _ _).mono ?_; rintro e w' ⟨rfl, rfl⟩)
            go_ret2
            exact ⟨HB.out.alloc (by omega) _, .inl ⟨by rw [unhide hfin]; decide, by rw [unhide hfin]; rfl⟩⟩
          · have a6 : ¬ x3 - x2 < 64 := by omega
            clear hsp2
            go_wp2_with (go_at_call 91; refine (within_any _ _ _ _).mono ?_; rintro e w' ⟨rfl, rfl⟩)
            go_ret2
            exact ⟨HB.out.alloc (by omega) _, .inl ⟨by rw [unhide hfin]; decide, by rw [unhide hfin]; rfl⟩⟩
      · have hjn : ts.take j = ts := List.take_of_length_le (by have := HN.out; omega)
        have hjl : j = ts.length := by have := HN.out; omega
        have h0 : newErr ts = 0 := by rw [unhide HE]; exact errFrom_end ts j (by omega)
        have H0 := hide h0
        have HJN := hide hjn
        have HJL := hide hjl
        clear h0 hjn hjl
        go_wp2
        go_ret2
        have hown := unhide HO
        have hoks := unhide HS
        rw [unhide HJN] at hown hoks
        have hjl := unhide HJL
        have hlen8 : ts.length ≤ 8 := by omega
        refine ⟨hbl, .inr ⟨unhide H0, _, rfl, Nat.le_refl _, hlen8, hoks, v, unhide HX, ?_⟩⟩
        exact tenSl_of_owns hjl hown

end Go.Proofs.Ytgpplekabohneaa.B0
