/- 'newTenant', 'New': the program's box. -/
import Derived.Test.YtkbgjbbniaflhaaRb
import Derived.Test.YtkbgjbbniaflhaaWc
namespace Go.Proofs.Ytkbgjbbniaflhaa
open Go.RowKit
open Go.ChangeMaps (setBlock)

attribute [local go_sem ↓] Go.wp_at_zero Go.wp_at_succ

theorem newTenant_any (a b c d : Int) (w : World) :
    Calls Try.prog 36 #[.agg #[.int .i64 a, .int .i64 b, .int .i64 c, .int .i64 d]] w fun e w' =>
      e = .returned (.pointer (some ⟨w.heap.size + 3, 0, none⟩)) ∧
      (Below w.heap.size w w' ∧ w'.heap.size = w.heap.size + 4 ∧ w'.heap[w.heap.size + 3]? = some (.cells #[.int .i64 b, .int .i64 c, .int .i64 d, .map (some (w.heap.size + 1)), .map (some (w.heap.size + 2))] 100 (0, 0)) ∧ w'.heap[w.heap.size + 1]? = some (.map #[] 0) ∧ w'.heap[w.heap.size + 2]? = some (.map #[] 0)) := by
  have hmm := @run_makeMap Try.prog
  go_enter Try.func36, Try.ntmps36
  go_wp2
  go_ret
  exact ⟨rfl, ((((Below.refl _ _).alloc (Nat.le_refl _) _).alloc (by simp) _).alloc (by simp; omega) _).alloc (by simp; omega) _, by simp, blkN _ _ _ (by simp), blkA (blkA (blkN _ _ _ (by simp))), blkA (blkN _ _ _ (by simp))⟩

/-- the tenants of a new box -/
def newB (ts : List Ten) : List (Int × Tn) := ts.map fun t => (t.tag, ⟨t.outer, t.low, t.high, []⟩)

theorem errFrom_zero {ts : List Ten} {j : Nat} (h : j < ts.length) (h0 : errFrom (ts.take j) (ts.drop j) = 0) :
    okT ts[j] = true ∧ twiceIn (ts.take j) ts[j] = false ∧ errFrom (ts.take (j + 1)) (ts.drop (j + 1)) = 0 := by
  rw [errFrom_at ts j h] at h0
  split at h0
  · split at h0
    · cases h0
    · rename_i a1 a2
      exact ⟨a1, by simpa using a2, h0⟩
  · cases h0

theorem tag_apart {ts : List Ten} {t : Ten} (h : twiceIn ts t = false) : ∀ a ∈ ts, a.tag ≠ t.tag := by
  intro a ha e
  have : twiceIn ts t = true := by
    unfold twiceIn
    rw [List.any_eq_true]
    exact ⟨a, ha, by simp [e]⟩
  rw [this] at h
  cases h

/-- what New leaves: a refusal, or a box of the tenants in new blocks -/
def NewEnd (w : World) (ts : List Ten) (e : Ending) (w' : World) : Prop :=
  Below w.heap.size w w' ∧ ((newErr ts ≠ 0 ∧ e = .returned (.tuple #[.pointer none, .int .i64 (newErr ts)])) ∨
    (newErr ts = 0 ∧ ∃ p, e = .returned (.tuple #[.pointer (some ⟨p, 0, none⟩), .int .i64 0]) ∧ BoxR w' (fun k => w.heap.size ≤ k ∧ k < w'.heap.size) p (newB ts)))

theorem run_makeHint (n : Int) (w : World) : (Instr.makeMap 75 (some (.int .i64 n))).run Try.prog w = .ok (.map (some w.heap.size)) (w.alloc (.map #[] 0)) := by
  simp [Instr.makeMap, run_underlying Try.underlying75, Result.andThen, asInt, asIntOf]

theorem setBlock_cell (w : World) (r : Nat) (o : Obj) (b off : Nat) (h : b ≠ r) : (setBlock w r o).cell? ⟨b, off, none⟩ = w.cell? ⟨b, off, none⟩ := by
  apply World.cell?_of_block
  show (w.heap.setIfInBounds r o)[b]? = w.heap[b]?
  simp [Ne.symm h]

theorem setBlock_other' (w : World) (r : Nat) (o : Obj) (b : Nat) (h : b ≠ r) : (setBlock w r o).heap[b]? = w.heap[b]? := by
  show (w.heap.setIfInBounds r o)[b]? = w.heap[b]?
  simp [Ne.symm h]

theorem okT_good {a b c d : Int} (h : okT ⟨a, b, c, d⟩ = true) : GoodT ⟨b, c, d, []⟩ := by
  unfold okT at h
  have := of_decide_eq_true h
  simp only at this
  exact ⟨by show 0 ≤ c; omega, by show d ≤ 65535; omega, by show d - c < 64; omega, by show c ≤ d; omega, by simp, by simp⟩

/-- the box that New is at, in the blocks from base on -/
def NewAt (wr : World) (r : Nat) (ts : List Ten) : Prop :=
  ∃ C, BoxC wr (r + 1) r C ∧ C.map (fun x => (x.tag, x.T)) = newB ts ∧ ∀ x ∈ C, ∀ k, x.S k → r + 1 < k

theorem setBlock_back {w : World} {r : Nat} {o o' : Obj} (h : w.heap[r]? = some o) : (setBlock w r o').heap[r]? = some o' := by
  have hlt : r < w.heap.size := (Array.getElem?_eq_some_iff.1 h).1
  show (w.heap.setIfInBounds r o')[r]? = some o'
  simp [hlt]

/-- a round of New, of the blocks alone -/
theorem new_step {wr w2 : World} {X : Obj} {r : Nat} {ts : List Ten} {u0 u1 u2 u3 : Int} (hN : NewAt wr r ts) (hok : okT ⟨u0, u1, u2, u3⟩ = true) (htag : ∀ a ∈ ts, a.tag ≠ u0)
    (hb2 : Below (wr.alloc X).drew.heap.size (wr.alloc X).drew w2) (hs2 : w2.heap.size = (wr.alloc X).drew.heap.size + 4) (hg2 : w2.heap[(wr.alloc X).drew.heap.size + 3]? = some (.cells #[.int .i64 u1, .int .i64 u2, .int .i64 u3, .map (some ((wr.alloc X).drew.heap.size + 1)), .map (some ((wr.alloc X).drew.heap.size + 2))] 100 (0, 0)))
    (hh2 : w2.heap[(wr.alloc X).drew.heap.size + 1]? = some (.map #[] 0)) (hi2 : w2.heap[(wr.alloc X).drew.heap.size + 2]? = some (.map #[] 0)) :
    ∃ es c, wr.heap[r]? = some (.map es c) ∧ (∀ e ∈ es.toList, ∃ b, e.key = .int .i64 b ∧ b ≠ u0) ∧
      NewAt (setBlock w2 r (.map (es.push { key := .int .i64 u0, val := .pointer (some ⟨wr.heap.size + 1 + 3, 0, none⟩), born := c }) (c + 1))) r (ts ++ [⟨u0, u1, u2, u3⟩]) := by
  obtain ⟨C, hC, hT, hS⟩ := hN
  obtain ⟨es, c, h1, h2, h3, h4⟩ := hC.map
  have esz : (wr.alloc X).drew.heap.size = wr.heap.size + 1 := by simp
  rw [esz] at hs2 hg2 hh2 hi2
  have hrl : r < wr.heap.size := (Array.getElem?_eq_some_iff.1 h1).1
  have hbl := hC.cell.1
  have hbw : Below wr.heap.size wr w2 := (((Below.refl _ _).alloc (Nat.le_refl _) X).drew).trans (hb2.mono (by rw [esz]; omega))
  have hC2 := hC.new hbw
  have hr2 : w2.heap[r]? = some (.map es c) := (hbw.block r hrl).trans h1
  have hmem : ∀ x ∈ C, ∃ t ∈ ts, x.tag = t.tag := fun x hx => by
    have : (x.tag, x.T) ∈ newB ts := by rw [← hT]; exact List.mem_map.2 ⟨x, hx, rfl⟩
    obtain ⟨t, ht, e⟩ := List.mem_map.1 this
    exact ⟨t, ht, (Prod.mk.inj e).1.symm⟩
  have hlow : ∀ x ∈ C, ∀ k, x.S k → k < wr.heap.size := fun x hx => (hC.ten x hx).1.bound
  refine ⟨es, c, h1, fun e he => ?_, ?_⟩
  · obtain ⟨x, hx, hk, _⟩ := (keysB h2).1 e he
    obtain ⟨t, ht, e1⟩ := hmem x hx
    exact ⟨x.tag, hk, by rw [e1]; exact htag t ht⟩
  · have hoth : ∀ (o : Obj) k, k ≠ r → (setBlock w2 r o).heap[k]? = w2.heap[k]? := fun o k hk => setBlock_other' w2 r o k hk
    have hF : ∀ o, Fr (fun k => k = r) w2 (setBlock w2 r o) := fun o => ⟨rfl, rfl, rfl, by simp [setBlock], fun k _ hk => hoth o k hk⟩
    refine ⟨C ++ [⟨u0, ⟨u1, u2, u3, []⟩, wr.heap.size + 1 + 3, wr.heap.size + 1 + 1, wr.heap.size + 1 + 2, fun k => k = wr.heap.size + 1 + 3 ∨ k = wr.heap.size + 1 + 1 ∨ k = wr.heap.size + 1 + 2, []⟩], ⟨?_, ⟨_, _, setBlock_back hr2, ?_, ?_, ?_⟩, ?_, ?_⟩, ?_, ?_⟩
    · exact (hoth _ _ (by omega)).trans hC2.blk
    · simp [h2, ptrV]
    · intro e he
      simp at he
      rcases he with he | rfl
      · have := h3 e (by simpa using he)
        omega
      · exact Nat.lt_succ_self _
    · rw [Array.toList_push, List.map_append, List.nodup_append]
      refine ⟨h4, by simp, fun a ha b hb => ?_⟩
      obtain ⟨e, he, rfl⟩ := List.mem_map.1 ha
      have := h3 e he
      simp at hb
      omega
    · intro x hx
      rcases List.mem_append.1 hx with hx | hx
      · refine ⟨(hC2.ten x hx).1.keep (hF _) (fun k hk e => ?_), (hC2.ten x hx).2⟩
        have := hS x hx k hk
        omega
      · rw [List.mem_singleton.1 hx]
        refine ⟨⟨.inl rfl, .inr (.inl rfl), .inr (.inr rfl), by show wr.heap.size + 1 + 1 ≠ wr.heap.size + 1 + 2; omega, ?_, ?_, ⟨#[], 0, ?_, rfl, by simp, by simp⟩, ⟨#[], 0, ?_, rfl⟩, rfl, by simp, by simp, okT_good hok⟩, ?_, ?_⟩
        · intro k hk
          have e1 : (setBlock w2 r (.map (es.push { key := .int .i64 u0, val := .pointer (some ⟨wr.heap.size + 1 + 3, 0, none⟩), born := c }) (c + 1))).heap.size = w2.heap.size := by simp [setBlock]
          rw [e1]
          have hk' : k = wr.heap.size + 1 + 3 ∨ k = wr.heap.size + 1 + 1 ∨ k = wr.heap.size + 1 + 2 := hk
          omega
        · exact (hoth _ _ (show wr.heap.size + 1 + 3 ≠ r by omega)).trans hg2
        · exact (hoth _ _ (show wr.heap.size + 1 + 1 ≠ r by omega)).trans hh2
        · exact (hoth _ _ (show wr.heap.size + 1 + 2 ≠ r by omega)).trans hi2
        · intro hk
          have hk' : r + 1 = wr.heap.size + 1 + 3 ∨ r + 1 = wr.heap.size + 1 + 1 ∨ r + 1 = wr.heap.size + 1 + 2 := hk
          omega
        · intro hk
          have hk' : r = wr.heap.size + 1 + 3 ∨ r = wr.heap.size + 1 + 1 ∨ r = wr.heap.size + 1 + 2 := hk
          omega
    · refine List.pairwise_append.2 ⟨hC2.apart, by simp, fun a ha b hb => ?_⟩
      rw [List.mem_singleton.1 hb]
      obtain ⟨t, ht, e1⟩ := hmem a ha
      refine ⟨by rw [e1]; exact htag t ht, fun k hk hk' => ?_⟩
      have := hlow a ha k hk
      have hk2 : k = wr.heap.size + 1 + 3 ∨ k = wr.heap.size + 1 + 1 ∨ k = wr.heap.size + 1 + 2 := hk'
      omega
    · simp [hT, newB]
    · intro x hx k hk
      rcases List.mem_append.1 hx with hx | hx
      · exact hS x hx k hk
      · rw [List.mem_singleton.1 hx] at hk
        have hk' : k = wr.heap.size + 1 + 3 ∨ k = wr.heap.size + 1 + 1 ∨ k = wr.heap.size + 1 + 2 := hk
        omega

end Go.Proofs.Ytkbgjbbniaflhaa
