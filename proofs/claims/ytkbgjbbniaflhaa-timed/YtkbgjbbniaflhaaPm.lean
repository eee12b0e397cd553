/- 'slices.Index', 'slices.Contains', 'slices.Delete' on a list of peers; 'hasPeer'. -/
import Derived.Test.YtkbgjbbniaflhaaPd
import Derived.Test.YtkbgjbbniaflhaaPl
import Derived.Laws.OwnMore
namespace Go.Proofs.Ytkbgjbbniaflhaa
open Go.RowKit
open Go.Sort Go.Lib

/-- where an address stands in a list; -1: nowhere -/
def idxF (zs : List Int) (x : Int) : Int := if zs.contains x then (zs.idxOf x : Int) else -1

theorem idxF_at {zs : List Int} {x : Int} {j : Nat} (hj : j < zs.length) (hx : zs[j] = x) (hn : (zs.take j).contains x = false) : idxF zs x = j := by
  have hm : x ∈ zs := hx ▸ List.getElem_mem hj
  have hn' : x ∉ zs.take j := by simpa using hn
  have e : zs = zs.take j ++ zs[j] :: zs.drop (j + 1) := by
    rw [← List.drop_eq_getElem_cons hj, List.take_append_drop]
  unfold idxF
  rw [if_pos (by simpa using hm)]
  have : zs.idxOf x = j := by
    have e2 : zs.idxOf x = (zs.take j ++ zs[j] :: zs.drop (j + 1)).idxOf x := by rw [← e]
    rw [e2, List.idxOf_append, if_neg hn', hx, List.idxOf_cons_self]
    simp
    omega
  rw [this]

theorem contains_snoc {zs : List Int} {x : Int} {j : Nat} (hj : j < zs.length) (hx : (x == zs[j]) = false) (hn : (zs.take j).contains x = false) : (zs.take (j + 1)).contains x = false := by
  have hn' : x ∉ zs.take j := by simpa using hn
  have hx' : ¬ x = zs[j] := by simpa using hx
  have : x ∉ zs.take (j + 1) := by
    rw [List.take_succ_eq_append_getElem hj, List.mem_append]
    rintro (h | h)
    · exact hn' h
    · exact hx' (by simpa using h)
  simpa using this

theorem row_cell {w : World} {b n cap : Nat} {zs : List Int} (hown : w.ownsRow 0 3 1 (.slice (some ⟨b, 0, none⟩) n cap) n (intsV zs)) {j : Nat} (hj : j < zs.length) : w.cell? ⟨b, j, none⟩ = some (.int .i64 zs[j]) := by
  have hl : n = zs.length := by have := hown.1; simp [intsV] at this; omega
  rw [hown.cellAt j (by omega)]
  simp [intsV, hj]

theorem row_facts {w : World} {b n cap : Nat} {zs : List Int} (hown : w.ownsRow 0 3 1 (.slice (some ⟨b, 0, none⟩) n cap) n (intsV zs)) : n = zs.length ∧ n ≤ cap ∧ cap ≤ maxLen ∧ b < w.heap.size := by
  have hl : n = zs.length := by have := hown.1; simp [intsV] at this; omega
  rcases hown.2 with ⟨h, _⟩ | ⟨g, c, cur, h, _, hg, h1, h2, _⟩
  · cases h
  · cases h
    exact ⟨hl, h1, h2, (Array.getElem?_eq_some_iff.1 hg).1⟩

theorem index_nil (x : Int) (w : World) : Calls Try.prog 78 #[.slice none 0 0, .int .i64 x] w fun e w' => e = .returned (.int .i64 (-1)) ∧ w' = w := by
  go_enter Try.func78, Try.ntmps78
  go_wp2
  go_loop [8] (fun i => i = .int .i64 0) (fun _ => 1)
  case atStart => rfl
  case round =>
    obtain rfl := hrel
    go_wp2
    go_ret
    exact ⟨rfl, rfl⟩

set_option maxHeartbeats 400000 in
theorem index_some (b n cap : Nat) (zs : List Int) (x : Int) (w : World) (hown : w.ownsRow 0 3 1 (.slice (some ⟨b, 0, none⟩) n cap) n (intsV zs)) :
    Calls Try.prog 78 #[.slice (some ⟨b, 0, none⟩) n cap, .int .i64 x] w fun e w' => e = .returned (.int .i64 (idxF zs x)) ∧ w' = w := by
  obtain ⟨hn, hc, hm, hb⟩ := row_facts hown
  unfold maxLen at hm
  have HO := hide hown
  have HN := hide hn
  clear hown hn
  go_enter Try.func78, Try.ntmps78
  go_wp2
  go_loop [8] (fun i => ∃ j : Nat, j ≤ n ∧ i = .int .i64 j ∧ (zs.take j).contains x = false) (fun i => n - (RowKit.intOf i).toNat)
  case atStart => exact ⟨0, Nat.zero_le _, rfl, by simp⟩
  case round =>
    obtain ⟨j, hj, rfl, hcn⟩ := hrel
    have HC := hide hcn
    clear hcn
    by_cases hlt : j < n
    · have hjt : j < zs.length := by have := unhide HN; omega
      have hcell := row_cell (unhide HO) hjt
      generalize hz : zs[j] = z at *
      have HZ := hide hz
      clear hz
      by_cases he : x = z
      · subst he
        have hfin := hide (idxF_at hjt (unhide HZ) (unhide HC))
        go_wp2
        go_ret
        exact ⟨by rw [unhide hfin]; rfl, rfl⟩
      · have he' : (x == z) = false := by simpa using he
        have hfin := hide (contains_snoc hjt (show (x == zs[j]) = false by rw [unhide HZ]; exact he') (unhide HC))
        clear he
        go_wp2
        go_round
        case rel => exact ⟨j + 1, by omega, by go_num, unhide hfin⟩
        case measure => simp [RowKit.intOf]; omega
    · have hjn : zs.take j = zs := List.take_of_length_le (by have := unhide HN; omega)
      have hfin : Hid (idxF zs x = -1) := by
        have h := unhide HC
        rw [hjn] at h
        show idxF zs x = -1
        unfold idxF
        rw [h]
        rfl
      clear hjn
      go_wp2
      go_ret
      exact ⟨by rw [unhide hfin]; rfl, rfl⟩

/-- slices.Contains, of a list of peers, nil too -/
theorem contains_any (sv : Value) (zs : List Int) (x : Int) (w : World) (hown : w.ownsRow 0 3 1 sv zs.length (intsV zs)) :
    Calls Try.prog 74 #[sv, .int .i64 x] w fun e w' => e = .returned (.bool (zs.contains x)) ∧ w' = w := by
  rcases hown.2 with ⟨rfl, hn⟩ | ⟨b, cap, cur, rfl, _⟩
  · have hz : zs = [] := List.eq_nil_of_length_eq_zero hn
    subst hz
    clear hown hn
    go_enter Try.func74, Try.ntmps74
    go_wp2_with (go_at_call 78; refine (index_nil x _).mono ?_; rintro e w' ⟨rfl, rfl⟩)
    go_ret
    exact ⟨rfl, rfl⟩
  · have HC := hide (index_some b zs.length cap zs x w hown)
    clear hown
    cases hc : zs.contains x
    · have he : idxF zs x = -1 := by unfold idxF; rw [hc]; rfl
      rw [he] at HC
      clear he hc
      go_enter Try.func74, Try.ntmps74
      go_wp2_with (go_at_call 78; refine (unhide HC).mono ?_; rintro e w' ⟨rfl, rfl⟩)
      go_ret
      exact ⟨rfl, rfl⟩
    · have he : idxF zs x = (zs.idxOf x : Nat) := by unfold idxF; rw [hc]; rfl
      rw [he] at HC
      clear he hc
      generalize zs.idxOf x = k at HC
      go_enter Try.func74, Try.ntmps74
      go_wp2_with (go_at_call 78; refine (unhide HC).mono ?_; rintro e w' ⟨rfl, rfl⟩)
      go_ret
      exact ⟨by simp, rfl⟩

theorem hasPeer_any (g : Nat) (sv : Value) (m : Mp) (x : Int) (w : World) (hM : Mem w g sv m) :
    Calls Try.prog 58 #[.pointer (some ⟨g, 0, none⟩), .int .i64 x] w fun e w' => e = .returned (.bool (m.peers.contains x)) ∧ w' = w := by
  have HC := hide (contains_any sv m.peers x w hM.2)
  have hb := hM.1
  have c4 : w.cell? ⟨g, 4, none⟩ = some sv := by simp [World.cell?, hb, mpC]
  clear hM hb
  generalize m.peers.contains x = r at HC
  go_enter Try.func58, Try.ntmps58
  go_wp2_with (go_at_call 74; refine (unhide HC).mono ?_; rintro e w' ⟨rfl, rfl⟩)
  go_ret
  exact ⟨rfl, rfl⟩

/-- slices.Delete of one place of a list of peers -/
theorem delete_any (b n cap i : Nat) (zs : List Int) (w : World) (hown : w.ownsRow 0 3 1 (.slice (some ⟨b, 0, none⟩) n cap) n (intsV zs)) (hi : i < n) :
    Calls Try.prog 79 #[.slice (some ⟨b, 0, none⟩) n cap, .int .i64 i, .int .i64 ((i : Int) + 1)] w fun e w' => e = .returned (.slice (some ⟨b, 0, none⟩) (n - 1) cap) ∧
      w'.ownsRow 0 3 1 (.slice (some ⟨b, 0, none⟩) (n - 1) cap) (n - 1) (intsV (zs.eraseIdx i)) ∧ Fr (fun k => k = b) w w' ∧ w'.heap.size = w.heap.size := by
  obtain ⟨hn, hc, hm, hb⟩ := row_facts hown
  unfold maxLen at hm
  have hH : Holds encI w b 0 zs.toArray := by
    intro j hj
    simp at hj
    refine ⟨?_, ?_⟩
    · rw [Nat.zero_add, row_cell hown hj]
      simp [encI, hj]
    · rw [Nat.zero_add]
      exact hown.frozenAt j
  have key := delete_raw b cap i (i + 1) zs.toArray w hH (by simp; omega) (by omega) (by omega) (by simp; omega)
  have e1 : zs.toArray.size = n := by simp [hn]
  have e2 : ((i + 1 : Nat) : Int) = (i : Int) + 1 := by omega
  rw [e1, e2] at key
  refine key.mono ?_
  rintro e w' ⟨rfl, q, rfl⟩
  have e3 : n - (i + 1 - i) = n - 1 := by omega
  refine ⟨by rw [e3], ?_, ?_, ?_⟩
  · rcases hown.2 with ⟨h, _⟩ | ⟨g, c, cur, h, _, hg, h1, h2, h3, h4⟩
    · cases h
    · cases h
      refine ⟨by simp [intsV, List.length_eraseIdx]; split <;> omega, .inr ⟨b, cap, putCells encI 0 (List.take i zs.toArray.toList ++ List.drop (i + 1) zs.toArray.toList ++ List.replicate (i + 1 - i) (0 : Int)).toArray cur, rfl, Nat.zero_le _, ?_, by omega, h2, ?_, ?_⟩⟩
      · exact (Array.getElem?_modify ..).trans (by rw [if_pos rfl]; show Option.map _ (w.heap[b]?) = _; rw [hg]; rfl)
      · simpa [Go.Sort.putCells] using h3
      · apply List.ext_getElem?
        intro k
        simp only [intsV, Go.Sort.putCells, List.getElem?_take, List.getElem?_map, Nat.mul_one, Array.toList_mapIdx, List.getElem?_mapIdx]
        have hsz : cur.size = cap := by simpa using h3
        by_cases hk : k < n - 1
        · have hkc : k < cur.toList.length := by simp; omega
          rw [if_pos hk, List.getElem?_eq_getElem hkc]
          simp only [Option.map_some]
          have hl : (List.take i zs.toArray.toList ++ List.drop (i + 1) zs.toArray.toList ++ List.replicate (i + 1 - i) (0 : Int)).length = n := by simp; omega
          rw [if_pos ⟨Nat.zero_le _, by rw [List.size_toArray, hl]; omega⟩, Nat.sub_zero]
          have hke : k < (zs.eraseIdx i).length := by rw [List.length_eraseIdx]; split <;> omega
          have e5 : (List.take i zs.toArray.toList ++ List.drop (i + 1) zs.toArray.toList ++ List.replicate (i + 1 - i) (0 : Int)).toArray[k]! = (zs.eraseIdx i)[k] := by
            rw [getElem!_pos _ k (by rw [List.size_toArray, hl]; omega)]
            simp only [List.getElem_toArray]
            rw [List.getElem_append_left (by simp; omega)]
            simp [List.eraseIdx_eq_take_drop_succ]
          rw [e5, List.getElem?_eq_getElem hke]
          rfl
        · rw [if_neg hk, List.getElem?_eq_none (by rw [List.length_eraseIdx]; split <;> omega)]
          rfl
  · refine ⟨rfl, rfl, rfl, by simp [putRow, Go.Sort.mapBlock, Go.Sort.ahead], fun k _ hk => ?_⟩
    simp [putRow, Go.Sort.mapBlock, Go.Sort.ahead, Array.getElem?_modify, Ne.symm hk]
  · simp [putRow, Go.Sort.mapBlock, Go.Sort.ahead]

end Go.Proofs.Ytkbgjbbniaflhaa
