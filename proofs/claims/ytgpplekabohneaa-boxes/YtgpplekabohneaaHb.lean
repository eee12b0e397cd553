/- The document's box: 'tenant', 'byPort', 'Table', 'Tick' of a box without mappings. -/
import Derived.Test.YtgpplekabohneaaHa
namespace Go.Proofs.Ytgpplekabohneaa.B0
open Go.RowKit

attribute [local go_sem ↓] Go.wp_at_zero Go.wp_at_succ

/-- a list of tenants in memory: nil, or a row of a block of S -/
def TenSl (w : World) (S : Nat → Prop) (v : Value) (ts : List Ten) : Prop :=
  (v = .slice none 0 0 ∧ ts = []) ∨ ∃ b off cap, v = .slice (some ⟨b, off, none⟩) ts.length cap ∧ S b ∧ ts.length ≤ cap ∧ cap ≤ maxLen ∧ b < w.heap.size ∧ TenAt w b off ts

theorem tenAt_of_block {w w' : World} {b off : Nat} {ts : List Ten} (h : TenAt w b off ts) (hb : w'.heap[b]? = w.heap[b]?) : TenAt w' b off ts := by
  intro i hi
  obtain ⟨h1, h2, h3, h4⟩ := h i hi
  exact ⟨(World.cell?_of_block (a := ⟨b, _, none⟩) hb).trans h1, (World.cell?_of_block (a := ⟨b, _, none⟩) hb).trans h2, (World.cell?_of_block (a := ⟨b, _, none⟩) hb).trans h3, (World.cell?_of_block (a := ⟨b, _, none⟩) hb).trans h4⟩

theorem TenSl.keep {w w' : World} {S S' : Nat → Prop} {v : Value} {ts : List Ten} (h : TenSl w S v ts) (hsz : w.heap.size ≤ w'.heap.size) (hS : ∀ k, S k → k < w.heap.size → S' k) (hk : ∀ k, S k → k < w.heap.size → w'.heap[k]? = w.heap[k]?) : TenSl w' S' v ts := by
  rcases h with h | ⟨b, off, cap, h1, h2, h3, h4, h5, h6⟩
  · exact .inl h
  · exact .inr ⟨b, off, cap, h1, hS _ h2 h5, h3, h4, by omega, tenAt_of_block h6 (hk _ h2 h5)⟩

/-- the document's box: its tenants, no mappings -/
def RefBox (w : World) (S : Nat → Prop) (q : Nat) (ts : List Ten) : Prop :=
  S q ∧ ts.length ≤ 8 ∧ (∀ t ∈ ts, okT t = true) ∧ ∃ v, w.heap[q]? = some (.cells #[v, .slice none 0 0] 137 (0, 0)) ∧ TenSl w S v ts

theorem RefBox.keep {w w' : World} {S S' : Nat → Prop} {q : Nat} {ts : List Ten} (h : RefBox w S q ts) (hsz : w.heap.size ≤ w'.heap.size) (hS : ∀ k, S k → k < w.heap.size → S' k) (hk : ∀ k, S k → k < w.heap.size → w'.heap[k]? = w.heap[k]?) : RefBox w' S' q ts := by
  obtain ⟨h1, h2, h3, v, h4, h5⟩ := h
  have l1 := (Array.getElem?_eq_some_iff.1 h4).1
  exact ⟨hS _ h1 l1, h2, h3, v, (hk _ h1 l1).trans h4, h5.keep hsz hS hk⟩

/-- the place of the first with the tag -/
def tagAt (ts : List Ten) (tag : Int) : Option Nat := ts.findIdx? fun t => t.tag == tag

theorem byPort_any (q : Nat) (v : Value) (t pr po : Int) (w : World) (hq : w.heap[q]? = some (.cells #[v, .slice none 0 0] 137 (0, 0))) :
    Calls Try.prog 93 #[.pointer (some ⟨q, 0, none⟩), .int .i64 t, .int .i64 pr, .int .i64 po] w fun e w' => e = .returned (.pointer none) ∧ w' = w := by
  have c1 : w.cell? ⟨q, 1, none⟩ = some (.slice none 0 0) := by simp [World.cell?, hq]
  clear hq
  go_enter Try.func93, Try.ntmps93
  go_wp2
  go_loop [9] (fun i => i = .int .i64 0) (fun _ => 0)
  case atStart => rfl
  case round =>
    obtain rfl := hrel
    go_wp2
    go_ret
    exact ⟨rfl, rfl⟩

/-- the nil list is stored where it lies: nothing turns -/
theorem setCell_idle {w : World} {q : Nat} {v : Value} (hq : w.heap[q]? = some (.cells #[v, .slice none 0 0] 137 (0, 0))) (k : Nat) : (w.setCell ⟨q, 1, none⟩ (.slice none 0 0)).heap[k]? = w.heap[k]? := by
  by_cases h : k = q
  · subst h
    simp [World.setCell, Array.getElem?_modify, hq]
  · exact Below.heap_setCell _ _ _ _ h

theorem tickRef_any (q : Nat) (v : Value) (t : Int) (w : World) (hq : w.heap[q]? = some (.cells #[v, .slice none 0 0] 137 (0, 0))) :
    Calls Try.prog 36 #[.pointer (some ⟨q, 0, none⟩), .int .i64 t] w fun e w' => e = .returned (.int .i64 (tickB t)) ∧ Below w.heap.size w w' := by
  have c1 : w.cell? ⟨q, 1, none⟩ = some (.slice none 0 0) := by simp [World.cell?, hq]
  have f1 : w.frozen? ⟨q, 1, none⟩ = false := by simp [World.frozen?, hq]
  have HQ := hide hq
  clear hq
  by_cases h1 : t < 0
  · have h : tickB t = 6 := by simp [tickB, h1]
    rw [h]; clear h
    go_enter Try.func36, Try.ntmps36
    go_wp2
    go_ret
    exact ⟨rfl, Below.refl _ _⟩
  · by_cases h2 : 100000 < t
    · have h : tickB t = 6 := by simp [tickB, h2]
      rw [h]; clear h
      go_enter Try.func36, Try.ntmps36
      go_wp2
      go_ret
      exact ⟨rfl, Below.refl _ _⟩
    · have h : tickB t = 0 := by simp [tickB, h1, h2]
      rw [h]; clear h
      go_enter Try.func36, Try.ntmps36
      go_wp2
      go_loop [5, 6] (fun l i => l = .slice none 0 0 ∧ i = .int .i64 0) (fun _ _ => 0)
      case atStart => exact ⟨rfl, rfl⟩
      case round =>
        obtain ⟨rfl, rfl⟩ := hrel
        go_wp2
        go_ret
        refine ⟨rfl, ⟨rfl, rfl, rfl, by simp [World.setCell], fun k hk => ?_⟩⟩
        exact setCell_idle (unhide HQ) k

theorem hasTag_take_snoc (ts : List Ten) (tag : Int) (j : Nat) (h : j < ts.length) : hasTag (ts.take (j + 1)) tag = (hasTag (ts.take j) tag || ts[j].tag == tag) := by
  unfold hasTag
  rw [List.take_succ_eq_append_getElem h, List.any_append]
  simp

theorem hasTag_true {ts : List Ten} {tag : Int} {j : Nat} (h : j < ts.length) (hh : (ts[j].tag == tag) = true) : hasTag ts tag = true := by
  unfold hasTag
  rw [List.any_eq_true]
  exact ⟨ts[j], List.getElem_mem h, hh⟩

/-- 'tenant': the place of one with the tag, or -1 -/
def tenEnd (ts : List Ten) (tag : Int) (w : World) (e : Ending) (w' : World) : Prop :=
  w' = w ∧ ((hasTag ts tag = false ∧ e = .returned (.int .i64 (-1))) ∨ (hasTag ts tag = true ∧ ∃ j : Nat, j < ts.length ∧ e = .returned (.int .i64 j)))

theorem tenant_nil (q : Nat) (tag : Int) (w : World) (hq : w.heap[q]? = some (.cells #[.slice none 0 0, .slice none 0 0] 137 (0, 0))) :
    Calls Try.prog 92 #[.pointer (some ⟨q, 0, none⟩), .int .i64 tag] w fun e w' => tenEnd [] tag w e w' := by
  have c0 : w.cell? ⟨q, 0, none⟩ = some (.slice none 0 0) := by simp [World.cell?, hq]
  clear hq
  go_enter Try.func92, Try.ntmps92
  go_wp2
  go_loop [5] (fun i => i = .int .i64 0) (fun _ => 0)
  case atStart => rfl
  case round =>
    obtain rfl := hrel
    go_wp2
    go_ret
    exact ⟨rfl, .inl ⟨rfl, rfl⟩⟩

set_option maxHeartbeats 400000 in
theorem tenant_some (q b off n cap : Nat) (ts : List Ten) (tag : Int) (w : World) (hq : w.heap[q]? = some (.cells #[.slice (some ⟨b, off, none⟩) n cap, .slice none 0 0] 137 (0, 0))) (hn : n = ts.length) (_h8 : n ≤ 8) (hc : n ≤ cap) (hm : cap ≤ maxLen) (hT : TenAt w b off ts) :
    Calls Try.prog 92 #[.pointer (some ⟨q, 0, none⟩), .int .i64 tag] w fun e w' => tenEnd ts tag w e w' := by
  have c0 : w.cell? ⟨q, 0, none⟩ = some (.slice (some ⟨b, off, none⟩) n cap) := by simp [World.cell?, hq]
  unfold maxLen at hm
  have HT : Hid (TenAt w b off ts) := hT
  have HN : Hid (n = ts.length) := hn
  clear hT hn hq
  go_enter Try.func92, Try.ntmps92
  go_wp2
  go_loop [5] (fun i => ∃ j : Nat, j ≤ n ∧ i = .int .i64 j ∧ hasTag (ts.take j) tag = false) (fun i => n - (intOf i).toNat)
  case atStart => exact ⟨0, Nat.zero_le _, rfl, rfl⟩
  case round =>
    obtain ⟨j, hj, rfl, hno⟩ := hrel
    have HO := hide hno
    clear hno
    by_cases hlt : j < n
    · have hjt : j < ts.length := by have := HN.out; omega
      obtain ⟨g0, _, _, _⟩ := HT.out j hjt
      have hst := hasTag_take_snoc ts tag j hjt
      have htr := fun hh => hasTag_true (ts := ts) (tag := tag) hjt hh
      rw [unhide HO] at hst
      generalize ts[j].tag = u0 at *
      have HST := hide hst
      have HTR := hide htr
      clear hst htr
      cases he : (u0 == tag)
      · go_wp2
        go_round
        case rel => exact ⟨j + 1, by omega, by go_num, by rw [unhide HST, he]; rfl⟩
        case measure => simp [intOf]; omega
      · go_wp2
        go_ret
        exact ⟨rfl, .inr ⟨(unhide HTR) he, j, hjt, rfl⟩⟩
    · have hno := unhide HO
      rw [List.take_of_length_le (by have := HN.out; omega)] at hno
      have HO2 := hide hno
      clear hno
      go_wp2
      go_ret
      exact ⟨rfl, .inl ⟨unhide HO2, rfl⟩⟩

set_option maxHeartbeats 400000 in
/-- 'Table' of the document's box: nothing, and ErrNone where no tenant has the tag -/
theorem tableRef_nil (q : Nat) (tag : Int) (w : World) (hq : w.heap[q]? = some (.cells #[.slice none 0 0, .slice none 0 0] 137 (0, 0))) :
    Calls Try.prog 56 #[.pointer (some ⟨q, 0, none⟩), .int .i64 tag] w fun e w' => e = .returned (.tuple #[.slice none 0 0, .int .i64 (tabErr [] tag)]) ∧ w' = w := by
  have HQ := hide hq
  clear hq
  go_enter Try.func56, Try.ntmps56
  go_wp2_with fail
  refine (tenant_nil q tag w (unhide HQ)).mono ?_
  rintro e w' ⟨rfl, h | h⟩
  · obtain ⟨_, rfl⟩ := h
    go_wp2
    go_ret2
    exact ⟨rfl, rfl⟩
  · cases h.1

set_option maxHeartbeats 400000 in
theorem tableRef_some (q b off n cap : Nat) (ts : List Ten) (tag : Int) (w : World) (hq : w.heap[q]? = some (.cells #[.slice (some ⟨b, off, none⟩) n cap, .slice none 0 0] 137 (0, 0))) (hn : n = ts.length) (h8 : n ≤ 8) (hc : n ≤ cap) (hm : cap ≤ maxLen) (hT : TenAt w b off ts) (hok : ∀ t ∈ ts, okT t = true) :
    Calls Try.prog 56 #[.pointer (some ⟨q, 0, none⟩), .int .i64 tag] w fun e w' => e = .returned (.tuple #[.slice none 0 0, .int .i64 (tabErr ts tag)]) ∧ w' = w := by
  have c0 : w.cell? ⟨q, 0, none⟩ = some (.slice (some ⟨b, off, none⟩) n cap) := by simp [World.cell?, hq]
  have HQ := hide hq
  have HT : Hid (TenAt w b off ts) := hT
  have HN : Hid (n = ts.length) := hn
  have HTEN := hide (tenant_some q b off n cap ts tag w hq hn h8 hc hm hT)
  have HOK := hide hok
  unfold maxLen at hm
  clear hT hn hq hok
  go_enter Try.func56, Try.ntmps56
  go_wp2_with fail
  refine (unhide HTEN).mono ?_
  rintro e w' ⟨rfl, h | h⟩
  · obtain ⟨h, rfl⟩ := h
    have HH := hide h
    clear h HTEN
    go_wp2
    go_ret2
    exact ⟨by unfold tabErr; rw [unhide HH]; rfl, rfl⟩
  · obtain ⟨h, j, hj, rfl⟩ := h
    have HH := hide h
    obtain ⟨g0, g1, g2, g3⟩ := HT.out j hj
    have hsp := okT_spans (a := ts[j].tag) (b := ts[j].outer) (c := ts[j].low) (d := ts[j].high) (unhide HOK _ (List.getElem_mem hj))
    have hjn : j < n := by have := HN.out; omega
    generalize ts[j].low = low at *
    generalize ts[j].high = high at *
    obtain ⟨hlo, hhi⟩ := hsp
    clear h HTEN g0 g1 hj
    go_wp2
    go_loopg [7, 8] 3 (fun z l p wr => wr = w' ∧ l = .slice none 0 0 ∧ ∃ k : Int, 1 ≤ k ∧ k ≤ 4 ∧ z = (4 - k).toNat ∧ p = .int .i64 k)
    case atStart => exact ⟨rfl, rfl, 1, by omega, by omega, by omega, rfl⟩
    case round =>
      obtain ⟨rfl, rfl, k, hk1, hk2, hz, rfl⟩ := hrel
      have HZ := hide hz
      clear hz
      by_cases hk : k ≤ 3
      · go_wp2
        go_loopg [7, 9] (65536 - low).toNat (fun z l p w2 => w2 = wr ∧ l = .slice none 0 0 ∧ ∃ x : Int, 0 ≤ x ∧ z = (65536 - x).toNat ∧ p = .int .i64 x)
        case atStart => exact ⟨rfl, rfl, low, hlo, rfl, rfl⟩
        case round =>
          obtain ⟨rfl, rfl, x, hx, hz, rfl⟩ := hrel
          have HY := hide hz
          clear hz
          by_cases hxh : x ≤ high
          · have HP := hide (byPort_any q _ j k x wr (unhide HQ))
            go_wp2_with fail
            refine (unhide HP).mono ?_
            rintro e w3 ⟨rfl, rfl⟩
            clear HP
            go_wp2
            go_roundg (65536 - (x + 1)).toNat
            case measure => have := unhide HY; omega
            case rel => exact ⟨rfl, rfl, x + 1, by omega, rfl, rfl⟩
          · go_wp2
            go_roundg (4 - (k + 1)).toNat
            case measure => have := unhide HZ; omega
            case rel => exact ⟨rfl, rfl, k + 1, by omega, by omega, rfl, rfl⟩
      · go_wp2
        go_ret2
        exact ⟨by unfold tabErr; rw [unhide HH]; rfl, rfl⟩

end Go.Proofs.Ytgpplekabohneaa.B0
