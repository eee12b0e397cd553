/- 'freePort', 'add'. -/
import Derived.Test.YtkbgjbbniaflhaaQd
namespace Go.Proofs.Ytkbgjbbniaflhaa
open Go.RowKit
open Go.ChangeMaps (setBlock)

theorem freeF_hit {l : List Mp} {p q high : Int} {n : Nat} (hn : n = (high + 1 - q).toNat) (hq : q ≤ high) {m : Mp} (h : l.find? (isP p q) = some m) : freeF l p n q = freeF l p (high + 1 - (q + 1)).toNat (q + 1) := by
  obtain ⟨k, hk⟩ : ∃ k, (high + 1 - q).toNat = k + 1 := ⟨(high + 1 - q).toNat - 1, by omega⟩
  rw [hn, hk, freeF, h]
  have : (high + 1 - (q + 1)).toNat = k := by omega
  rw [this]
  rfl

theorem freeF_free {l : List Mp} {p q high : Int} {n : Nat} (hn : n = (high + 1 - q).toNat) (hq : q ≤ high) (h : l.find? (isP p q) = none) : freeF l p n q = some q := by
  obtain ⟨k, hk⟩ : ∃ k, (high + 1 - q).toNat = k + 1 := ⟨(high + 1 - q).toNat - 1, by omega⟩
  rw [hn, hk, freeF, h]
  rfl

def freeV : Option Int → Value
  | none => .tuple #[.int .i64 0, .bool false]
  | some q => .tuple #[.int .i64 q, .bool true]

set_option maxHeartbeats 1000000 in
theorem freePort_any {w : World} {S : Nat → Prop} {g hp hi : Nat} {T : Tn} {L : List Cl} (h : TenR w S g hp hi T L) (p : Int) :
    Calls Try.prog 75 #[.pointer (some ⟨g, 0, none⟩), .int .i64 p] w fun e w' => e = .returned (freeV (freeF T.maps p (T.high + 1 - T.low).toNat T.low)) ∧ w' = w := by
  obtain ⟨l1, -, c1, c2, c3, -⟩ := h.cells
  have hlo := h.good.low
  have hhi := h.good.high
  have HT := hide h
  clear h
  generalize hR : freeF T.maps p (T.high + 1 - T.low).toNat T.low = R
  have HR := hide hR
  clear hR
  go_enter Try.func75, Try.ntmps75
  go_wp2
  go_loop [6] (fun i => ∃ q : Int, T.low ≤ q ∧ q ≤ 65536 ∧ i = .int .i64 q ∧ freeF T.maps p (T.high + 1 - q).toNat q = R) (fun i => (T.high + 1 - intOf i).toNat)
  case atStart => exact ⟨T.low, Int.le_refl _, by have := (unhide HT).good.le; omega, rfl, unhide HR⟩
  case round =>
    obtain ⟨q, h1, h2, rfl, h3⟩ := hrel
    by_cases hq : q ≤ T.high
    · cases hf : T.maps.find? (isP p q) with
      | none =>
        have hl := (unhide HT).lookP_none hf
        have hfin : Hid (R = some q) := by
          rw [← h3]
          exact freeF_free rfl hq hf
        clear h3 hf
        go_wp2
        go_ret2
        exact ⟨by rw [unhide hfin]; rfl, rfl⟩
      | some m =>
        obtain ⟨x, hx, rfl⟩ := (unhide HT).ofFind hf
        have hl := (unhide HT).lookP_some hx hf
        have hfin : Hid (freeF T.maps p (T.high + 1 - (q + 1)).toNat (q + 1) = R) := by
          rw [← h3]
          exact (freeF_hit rfl hq hf).symm
        clear h3 hf hx
        go_wp2
        go_round
        case rel => exact ⟨q + 1, by omega, by omega, rfl, unhide hfin⟩
        case measure => simp [intOf]; omega
    · have hfin : Hid (R = none) := by
        rw [← h3]
        have : (T.high + 1 - q).toNat = 0 := by omega
        rw [this]
        rfl
      clear h3
      go_wp2
      go_ret2
      exact ⟨by rw [unhide hfin]; rfl, rfl⟩

theorem setBlock_other (w : World) (r : Nat) (o : Obj) (b : Nat) (h : b ≠ r) : (setBlock w r o).heap[b]? = w.heap[b]? := by
  show (w.heap.setIfInBounds r o)[b]? = w.heap[b]?
  simp [Ne.symm h]

theorem setBlock_same {w : World} {r : Nat} {o o' : Obj} (h : w.heap[r]? = some o) : (setBlock w r o').heap[r]? = some o' := by
  have hlt : r < w.heap.size := (Array.getElem?_eq_some_iff.1 h).1
  show (w.heap.setIfInBounds r o')[r]? = some o'
  simp [hlt]

theorem Fr.setBlock {X : Nat → Prop} {a b : World} (h : Fr X a b) {r : Nat} (o : Obj) (hX : r < a.heap.size → X r) : Fr X a (setBlock b r o) :=
  h.trans' (Y := fun k => k = r) ⟨rfl, rfl, rfl, by simp [Go.ChangeMaps.setBlock], fun k _ hk => setBlock_other b r o k hk⟩ (fun i hi hl => by subst hi; exact hX hl)

set_option maxHeartbeats 1000000 in
theorem add_raw {w : World} {g hp hi n : Nat} {t0 t1 t2 p a b q : Int} {sv x5 x6 x7 x8 : Value} {es es' : Array MapEntry} {c c' : Nat}
    (hg : w.heap[g]? = some (.cells #[.int .i64 t0, .int .i64 t1, .int .i64 t2, .map (some hp), .map (some hi)] 100 (0, 0))) (hn : w.heap[n]? = some (.cells #[.int .i64 p, .int .i64 a, .int .i64 b, .int .i64 q, sv, x5, x6, x7, x8] 105 (0, 0)))
    (h1 : w.heap[hp]? = some (.map es c)) (h2 : w.heap[hi]? = some (.map es' c')) (hne : hp ≠ hi) (k1 : ∀ e ∈ es.toList, KP e.key ∧ e.key ≠ .agg #[.int .i64 p, .int .i64 q]) (k2 : ∀ e ∈ es'.toList, KI e.key ∧ e.key ≠ .agg #[.int .i64 p, .int .i64 a, .int .i64 b]) :
    Calls Try.prog 77 #[.pointer (some ⟨g, 0, none⟩), .pointer (some ⟨n, 0, none⟩)] w fun e w' => e = .returned (.tuple #[]) ∧ Fr (fun k => k = hp ∨ k = hi) w w' ∧ w'.heap.size = w.heap.size ∧
      w'.heap[hp]? = some (.map (es.push { key := .agg #[.int .i64 p, .int .i64 q], val := .pointer (some ⟨n, 0, none⟩), born := c }) (c + 1)) ∧ w'.heap[hi]? = some (.map (es'.push { key := .agg #[.int .i64 p, .int .i64 a, .int .i64 b], val := .pointer (some ⟨n, 0, none⟩), born := c' }) (c' + 1)) := by
  have g1 : g < w.heap.size := (Array.getElem?_eq_some_iff.1 hg).1
  have n1 : n < w.heap.size := (Array.getElem?_eq_some_iff.1 hn).1
  have hpg : hp ≠ g := map_ne_cells h1 hg
  have hpn : hp ≠ n := map_ne_cells h1 hn
  have c3 : w.cell? ⟨g, 3, none⟩ = some (.map (some hp)) := by simp [World.cell?, hg]
  have d0 : w.cell? ⟨n, 0, none⟩ = some (.int .i64 p) := by simp [World.cell?, hn]
  have d3 : w.cell? ⟨n, 3, none⟩ = some (.int .i64 q) := by simp [World.cell?, hn]
  have hup := run_upd keyP w.drew hp es c (.agg #[.int .i64 p, .int .i64 q]) (.pointer (some ⟨n, 0, none⟩)) h1 ⟨p, q, rfl⟩ (fun e he => (k1 e he).1) (fun e he => (k1 e he).2)
  have hg2 := (setBlock_other w.drew hp (.map (es.push { key := .agg #[.int .i64 p, .int .i64 q], val := .pointer (some ⟨n, 0, none⟩), born := c }) (c + 1)) g (Ne.symm hpg)).trans hg
  have hn2 := (setBlock_other w.drew hp (.map (es.push { key := .agg #[.int .i64 p, .int .i64 q], val := .pointer (some ⟨n, 0, none⟩), born := c }) (c + 1)) n (Ne.symm hpn)).trans hn
  have hi2 := (setBlock_other w.drew hp (.map (es.push { key := .agg #[.int .i64 p, .int .i64 q], val := .pointer (some ⟨n, 0, none⟩), born := c }) (c + 1)) hi (Ne.symm hne)).trans h2
  have hp2 := setBlock_same (w := w.drew) (o' := (.map (es.push { key := .agg #[.int .i64 p, .int .i64 q], val := .pointer (some ⟨n, 0, none⟩), born := c }) (c + 1))) h1
  have hF2 : Fr (fun k => k = hp ∨ k = hi) w (setBlock w.drew hp (.map (es.push { key := .agg #[.int .i64 p, .int .i64 q], val := .pointer (some ⟨n, 0, none⟩), born := c }) (c + 1))) := (Fr.refl _ w).drew.setBlock _ (fun _ => .inl rfl)
  have hS2 : (setBlock w.drew hp (.map (es.push { key := .agg #[.int .i64 p, .int .i64 q], val := .pointer (some ⟨n, 0, none⟩), born := c }) (c + 1))).heap.size = w.heap.size := by simp [setBlock]
  generalize hw2 : setBlock w.drew hp (.map (es.push { key := .agg #[.int .i64 p, .int .i64 q], val := .pointer (some ⟨n, 0, none⟩), born := c }) (c + 1)) = w2 at *
  have c4 : w2.cell? ⟨g, 4, none⟩ = some (.map (some hi)) := by simp [World.cell?, hg2]
  have e0 : w2.cell? ⟨n, 0, none⟩ = some (.int .i64 p) := by simp [World.cell?, hn2]
  have e1 : w2.cell? ⟨n, 1, none⟩ = some (.int .i64 a) := by simp [World.cell?, hn2]
  have e2 : w2.cell? ⟨n, 2, none⟩ = some (.int .i64 b) := by simp [World.cell?, hn2]
  have hup2 := run_upd keyI w2.drew hi es' c' (.agg #[.int .i64 p, .int .i64 a, .int .i64 b]) (.pointer (some ⟨n, 0, none⟩)) hi2 ⟨p, a, b, rfl⟩ (fun e he => (k2 e he).1) (fun e he => (k2 e he).2)
  have HX := hide (And.intro hF2 (And.intro hS2 (And.intro hp2 hi2)))
  clear hF2 hS2 hp2 hi2 hg2 hn2 hg hn h1 h2 k1 k2 hw2
  go_enter Try.func77, Try.ntmps77
  go_wp2
  go_region
  all_goals
    clear hup
    go_wp2
    go_region
    all_goals
      go_wp2
      go_end0
      obtain ⟨hF2, hS2, hp2, hi2⟩ := unhide HX
      exact ⟨rfl, hF2.drew.setBlock _ (fun _ => .inr rfl), by simpa [setBlock] using hS2, (setBlock_other _ _ _ _ hne).trans hp2, setBlock_same (w := w2.drew) hi2⟩

end Go.Proofs.Ytkbgjbbniaflhaa
