/- Pass and New. -/
import Derived.Test.YtgpplekabohneaaRv
import Derived.Test.YtgpplekabohneaaQx
import Derived.Test.YtgpplekabohneaaRu
namespace Go.Proofs.Ytgpplekabohneaa
section
open Go.RowKit
open Go.ChangeMaps (setBlock)

theorem finish3 {w W0 w2 wz : World} {S : Nat → Prop} {g hp hi : Nat} {T : Tn} (hbW : Below w.heap.size w W0) (hs : w.heap.size + 2 ≤ W0.heap.size) (hS : ∀ k, S k → k < w.heap.size) (hA : After W0 S g hp hi T w2) (hz : Fr (fun k => k = w.heap.size + 1) w2 wz) : After w S g hp hi T wz := by
  obtain ⟨L, hT, hF⟩ := hA
  have e1 := hF.size
  have hfar : ∀ k, grow S W0 w2 k → ¬ k = w.heap.size + 1 := by
    rintro k (hk | hk) e
    · have := hS k hk; omega
    · omega
  have hT' := hT.keep hz hfar
  refine ⟨L, hT'.mono (fun k hk => ?_) (fun k hk => ?_), ?_⟩
  · rcases hk with hk | hk
    · exact .inl hk
    · have e2 := hz.size
      exact .inr ⟨by omega, by omega⟩
  · rcases hk with hk | hk
    · have := hS k hk
      have e2 := hz.size
      omega
    · exact hk.2
  · exact ((Fr.of_below hbW).trans hF).trans' hz (fun k hk hl => by omega)

set_option maxHeartbeats 4000000 in
theorem Pass_some {w : World} {b r : Nat} {C : List BC} (h : BoxC w b r C) (p : Pk) (hg : goodB p = true) {x : BC} (hx : x ∈ C) (ht : x.tag = p.tag) (hpr : 1 ≤ p.proto ∧ p.proto ≤ 3) :
    Calls Try.prog 18 #[.pointer (some ⟨b, 0, none⟩), .agg (pkC p)] w fun e w' => e = .returned (.tuple #[.agg (pkC (passF x.T p).2.1), .int .i64 (passF x.T p).2.2, .int .i64 0]) ∧ After w x.S x.g x.hp x.hi (passF x.T p).1 w' := by
  have hC := fun W => hide (isPacket_any p W)
  rw [hg] at hC
  have hL : ∀ W, Below w.heap.size w W → W.cell? ⟨b, 0, none⟩ = some (.map (some r)) ∧ (Instr.lookup 80 (.map (some r)) (.int .i64 p.tag) true).run Try.prog W.drew = .ok (.tuple #[.pointer (some ⟨x.g, 0, none⟩), .bool true]) W.drew := fun W hb => ⟨(h.new hb).cell.2, by rw [← ht]; exact (h.new hb.drew).look_some hx⟩
  have hP : ∀ W, Below w.heap.size w W → Hid (Calls Try.prog 29 #[.pointer (some ⟨x.g, 0, none⟩), .agg (pkC p)] W fun e w' => e = .returned (.tuple #[.agg (pkC (passF x.T p).2.1), .int .i64 (passF x.T p).2.2]) ∧ After W x.S x.g x.hp x.hi (passF x.T p).1 w') := fun W hb => pass_any ((h.ten x hx).1.new hb) p hpr
  have hS := (h.ten x hx).1.bound
  have l1 := h.cell.1
  generalize passF x.T p = R at *
  obtain ⟨tag, proto, out, sa, sp, da, dp, syn, fin, rst, err, qsa, qsp, qda, qdp⟩ := p
  unfold pkC at *
  dsimp only at *
  clear hg h hx hpr ht
  go_enter Try.func18, Try.ntmps18
  go_wp2_with fail
  refine (unhide (hC _)).mono ?_
  rintro e w1 ⟨rfl, hb1⟩
  have hpk : w1.heap[w.heap.size]? = some (.cells (pkC ⟨tag, proto, out, sa, sp, da, dp, syn, fin, rst, err, qsa, qsp, qda, qdp⟩) 38 (0, 0)) := (hb1.block _ (by simp; omega)).trans (blkA (blkN _ _ _ rfl))
  have hrs : w1.heap[w.heap.size + 1]? = some (.cells (pkC pk0) 38 (0, 0)) := (hb1.block _ (by simp)).trans (blkN _ _ _ (by simp))
  obtain ⟨a0, a1, a2, a3, a4, a5, a6, a7, a8, a9, a10, a11, a12, a13, a14, az⟩ := pk_cells hpk
  dsimp only at a0 a1 a2 a3 a4 a5 a6 a7 a8 a9 a10 a11 a12 a13 a14
  have hz : w.heap.size + 2 ≤ w1.heap.size := by have := hb1.size; simpa using this
  have HB : Hid (Below w.heap.size w w1) := Below.trans (((Below.refl _ _).alloc (Nat.le_refl _) _).alloc (by simp) _) (hb1.mono (by simp; omega))
  have HRS := hide hrs
  obtain ⟨k1, k2⟩ := hL _ (unhide HB)
  clear hpk hrs hb1 hC hL
  go_wp2
  go_region
  all_goals
    go_wp2_with fail
    refine (unhide (hP _ (unhide HB).drew)).mono ?_
    rintro e w2 ⟨rfl, hA⟩
    have hs2 : w.heap.size + 2 ≤ w2.heap.size := by
      obtain ⟨L2, hT2, hF2⟩ := hA
      have := hF2.size
      have e3 : w1.drew.heap.size = w1.heap.size := rfl
      omega
    have hrs2 : w2.heap[w.heap.size + 1]? = some (.cells (pkC pk0) 38 (0, 0)) := by
      obtain ⟨L2, hT2, hF2⟩ := hA
      exact hF2.some (show w1.drew.heap[w.heap.size + 1]? = _ from unhide HRS) (fun hk => by have := hS _ hk; omega)
    have HA : Hid (∀ wz, Fr (fun k => k = w.heap.size + 1) w2 wz → After w x.S x.g x.hp x.hi R.1 wz) := fun wz hz' => finish3 (unhide HB).drew hz hS hA hz'
    clear hA a0 a1 a2 a3 a4 a5 a6 a7 a8 a9 a10 a11 a12 a13 a14 az k1 k2 hP
    obtain ⟨b0, b1, b2, b3, b4, b5, b6, b7, b8, b9, b10, b11, b12, b13, b14, bz⟩ := pk_cells hrs2
    dsimp only [pk0] at b0 b1 b2 b3 b4 b5 b6 b7 b8 b9 b10 b11 b12 b13 b14
    have hne : w.heap.size + 1 ≠ w2.heap.size := by omega
    have hlt2 : w.heap.size + 1 < w2.heap.size := by omega
    clear hrs2
    go_wp2
    refine bodyPost_ret (v := .tuple #[.agg #[.int .i64 R.2.1.tag, .int .i64 R.2.1.proto, .bool R.2.1.out, .int .i64 R.2.1.sa, .int .i64 R.2.1.sp, .int .i64 R.2.1.da, .int .i64 R.2.1.dp, .bool R.2.1.syn, .bool R.2.1.fin, .bool R.2.1.rst, .bool R.2.1.err, .int .i64 R.2.1.qsa, .int .i64 R.2.1.qsp, .int .i64 R.2.1.qda, .int .i64 R.2.1.qdp], .int .i64 R.2.2, .int .i64 0]) (by simp [results, Try.results18, go_sem, b0, b1, b2, b3, b4, b5, b6, b7, b8, b9, b10, b11, b12, b13, b14, hlt2]) rfl ⟨rfl, unhide HA _ ?_⟩
    refine Fr.alloc ?_ _
    repeat (refine Fr.setO ?_)
    exact Fr.refl _ _

theorem goodB_proto {p : Pk} (h : goodB p = true) : 1 ≤ p.proto ∧ p.proto ≤ 3 := by
  unfold goodB at h
  simp only [Bool.and_eq_true, decide_eq_true_eq] at h
  exact h.1.1.1.1

theorem Pass_any {w : World} {F : Nat → Prop} {b : Nat} {B : List (Int × Tn)} (h : BoxR w F b B) (p : Pk) :
    Calls Try.prog 18 #[.pointer (some ⟨b, 0, none⟩), .agg (pkC p)] w fun e w' => e = .returned (.tuple #[.agg (pkC (passB B p).2.1), .int .i64 (passB B p).2.2.1, .int .i64 (passB B p).2.2.2]) ∧ BoxR w' (grow F w w') b (passB B p).1 ∧ Fr F w w' := by
  have hstay : ∀ w', Below w.heap.size w w' → BoxR w' (grow F w w') b B ∧ Fr F w w' := fun w' hb => by
    obtain ⟨r, C, h1, h2, h3, h4⟩ := h
    refine ⟨BoxR.mono (BoxR.new ⟨r, C, h1, h2, h3, h4⟩ hb) (fun _ hk => .inl hk) ?_, Fr.of_below hb⟩
    rintro k (hk | hk)
    · exact Nat.lt_of_lt_of_le (h4 k hk) hb.size
    · exact hk.2
  unfold passB
  cases hg : goodB p
  · refine (Pass_bad b p w hg).mono ?_
    rintro e w' ⟨rfl, hb⟩
    exact ⟨rfl, hstay w' hb⟩
  · rw [if_pos rfl]
    obtain ⟨r, C, h1, h2, h3, h4⟩ := h
    cases hf : B.find? (isT p.tag) with
    | none =>
      refine (Pass_none h1 p hg (fun x hx e => ?_)).mono ?_
      · have := List.find?_eq_none.1 hf (x.tag, x.T) (by rw [← h2]; exact List.mem_map.2 ⟨x, hx, rfl⟩)
        simp [isT, e] at this
      · rintro e w' ⟨rfl, hb⟩
        exact ⟨rfl, hstay w' hb⟩
    | some y =>
      dsimp only
      have hy := List.mem_of_find?_eq_some hf
      have hty : y.1 = p.tag := by have := List.find?_some hf; simpa [isT] using this
      rw [← h2] at hy
      obtain ⟨x, hx, rfl⟩ := List.mem_map.1 hy
      dsimp only at hty
      refine (Pass_some h1 p hg hx hty (goodB_proto hg)).mono ?_
      rintro e w' ⟨rfl, L', hT, hF⟩
      refine ⟨rfl, ⟨r, _, h1.upd hx hT hF (fun k hk => h4 k (h3 k hk)), ?_, ?_, ?_⟩, hF.mono (fun k hk _ => h3 k (.inr (.inr ⟨x, hx, hk⟩)))⟩
      · rw [← h2]
        unfold putT
        rw [List.map_map, List.map_map]
        refine List.map_congr_left (fun z hz => ?_)
        show (fun x => (x.tag, x.T)) (if z.tag = x.tag then (⟨x.tag, _, x.g, x.hp, x.hi, grow x.S w w', L'⟩ : BC) else z) = if isT p.tag (z.tag, z.T) then _ else _
        by_cases e : z.tag = x.tag
        · rw [if_pos e, if_pos (by simp [isT, e, hty])]
          show (x.tag, _) = (z.tag, _)
          rw [e]
        · rw [if_neg e, if_neg (by simp [isT]; rw [← hty]; exact e)]
      · rintro k (hk | hk | ⟨z, hz, hk⟩)
        · exact .inl (h3 k (.inl hk))
        · exact .inl (h3 k (.inr (.inl hk)))
        · obtain ⟨y, hy, rfl⟩ := List.mem_map.1 hz
          by_cases e : y.tag = x.tag
          · rw [if_pos e] at hk
            rcases hk with hk | hk
            · exact .inl (h3 k (.inr (.inr ⟨x, hx, hk⟩)))
            · exact .inr hk
          · rw [if_neg e] at hk
            exact .inl (h3 k (.inr (.inr ⟨y, hy, hk⟩)))
      · rintro k (hk | hk)
        · exact Nat.lt_of_lt_of_le (h4 k hk) hF.size
        · exact hk.2
end

section
open Go.RowKit
open Go.ChangeMaps (setBlock)

attribute [local go_sem ↓] Go.wp_at_zero Go.wp_at_succ

theorem newTenant_any (a b c d : Int) (w : World) :
    Calls Try.prog 41 #[.agg #[.int .i64 a, .int .i64 b, .int .i64 c, .int .i64 d]] w fun e w' =>
      e = .returned (.pointer (some ⟨w.heap.size + 3, 0, none⟩)) ∧
      (Below w.heap.size w w' ∧ w'.heap.size = w.heap.size + 4 ∧ w'.heap[w.heap.size + 3]? = some (.cells #[.int .i64 b, .int .i64 c, .int .i64 d, .map (some (w.heap.size + 1)), .map (some (w.heap.size + 2))] 104 (0, 0)) ∧ w'.heap[w.heap.size + 1]? = some (.map #[] 0) ∧ w'.heap[w.heap.size + 2]? = some (.map #[] 0)) := by
  have hmm := @run_makeMap Try.prog
  go_enter Try.func41, Try.ntmps41
  go_wp2
  go_ret
  exact ⟨rfl, ((((Below.refl _ _).alloc (Nat.le_refl _) _).alloc (by simp) _).alloc (by simp; omega) _).alloc (by simp; omega) _, by simp, blkN _ _ _ (by simp), blkA (blkA (blkN _ _ _ (by simp))), blkA (blkN _ _ _ (by simp))⟩

/-- the tenants of a new box -/
def newB (ts : List Ten) : List (Int × Tn) := ts.map fun t => (t.tag, ⟨t.outer, t.low, t.high, []⟩)

theorem errFrom_zero {ts : List Ten} {j : Nat} (h : j < ts.length) (h0 : errFrom (ts.take j) (ts.drop j) = 0) :
    okT ts[j] = true ∧ twiceIn (ts.take j) ts[j] = false ∧ errFrom (ts.take (j + 1)) (ts.drop (j + 1)) = 0 := by
  rw [errFrom_at ts j h] at h0
  split at h0
  · split at h0
    · cases h0
    · rename_i a1 a2
      exact ⟨a1, by simpa using a2, h0⟩
  · cases h0

theorem tag_apart {ts : List Ten} {t : Ten} (h : twiceIn ts t = false) : ∀ a ∈ ts, a.tag ≠ t.tag := by
  intro a ha e
  have : twiceIn ts t = true := by
    unfold twiceIn
    rw [List.any_eq_true]
    exact ⟨a, ha, by simp [e]⟩
  rw [this] at h
  cases h

/-- what New leaves: a refusal, or a box of the tenants in new blocks -/
def NewEnd (w : World) (ts : List Ten) (e : Ending) (w' : World) : Prop :=
  Below w.heap.size w w' ∧ ((newErr ts ≠ 0 ∧ e = .returned (.tuple #[.pointer none, .int .i64 (newErr ts)])) ∨
    (newErr ts = 0 ∧ ∃ p, e = .returned (.tuple #[.pointer (some ⟨p, 0, none⟩), .int .i64 0]) ∧ BoxR w' (fun k => w.heap.size ≤ k ∧ k < w'.heap.size) p (newB ts)))

theorem run_makeHint (n : Int) (w : World) : (Instr.makeMap 80 (some (.int .i64 n))).run Try.prog w = .ok (.map (some w.heap.size)) (w.alloc (.map #[] 0)) := by
  simp [Instr.makeMap, run_underlying Try.underlying80, Result.andThen, asInt, asIntOf]

theorem setBlock_cell (w : World) (r : Nat) (o : Obj) (b off : Nat) (h : b ≠ r) : (setBlock w r o).cell? ⟨b, off, none⟩ = w.cell? ⟨b, off, none⟩ := by
  apply World.cell?_of_block
  show (w.heap.setIfInBounds r o)[b]? = w.heap[b]?
  simp [Ne.symm h]

theorem setBlock_other' (w : World) (r : Nat) (o : Obj) (b : Nat) (h : b ≠ r) : (setBlock w r o).heap[b]? = w.heap[b]? := by
  show (w.heap.setIfInBounds r o)[b]? = w.heap[b]?
  simp [Ne.symm h]

theorem okT_good {a b c d : Int} (h : okT ⟨a, b, c, d⟩ = true) : GoodT ⟨b, c, d, []⟩ := by
  unfold okT at h
  have := of_decide_eq_true h
  simp only at this
  exact ⟨by show 0 ≤ c; omega, by show d ≤ 65535; omega, by show d - c < 64; omega, by show c ≤ d; omega, by simp, by simp⟩

/-- the box that New is at, in the blocks from base on -/
def NewAt (wr : World) (r : Nat) (ts : List Ten) : Prop :=
  ∃ C, BoxC wr (r + 1) r C ∧ C.map (fun x => (x.tag, x.T)) = newB ts ∧ ∀ x ∈ C, ∀ k, x.S k → r + 1 < k

theorem setBlock_back {w : World} {r : Nat} {o o' : Obj} (h : w.heap[r]? = some o) : (setBlock w r o').heap[r]? = some o' := by
  have hlt : r < w.heap.size := (Array.getElem?_eq_some_iff.1 h).1
  show (w.heap.setIfInBounds r o')[r]? = some o'
  simp [hlt]

/-- a round of New, of the blocks alone -/
theorem new_step {wr w2 : World} {X : Obj} {r : Nat} {ts : List Ten} {u0 u1 u2 u3 : Int} (hN : NewAt wr r ts) (hok : okT ⟨u0, u1, u2, u3⟩ = true) (htag : ∀ a ∈ ts, a.tag ≠ u0)
    (hb2 : Below (wr.alloc X).drew.heap.size (wr.alloc X).drew w2) (hs2 : w2.heap.size = (wr.alloc X).drew.heap.size + 4) (hg2 : w2.heap[(wr.alloc X).drew.heap.size + 3]? = some (.cells #[.int .i64 u1, .int .i64 u2, .int .i64 u3, .map (some ((wr.alloc X).drew.heap.size + 1)), .map (some ((wr.alloc X).drew.heap.size + 2))] 104 (0, 0)))
    (hh2 : w2.heap[(wr.alloc X).drew.heap.size + 1]? = some (.map #[] 0)) (hi2 : w2.heap[(wr.alloc X).drew.heap.size + 2]? = some (.map #[] 0)) :
    ∃ es c, wr.heap[r]? = some (.map es c) ∧ (∀ e ∈ es.toList, ∃ b, e.key = .int .i64 b ∧ b ≠ u0) ∧
      NewAt (setBlock w2 r (.map (es.push { key := .int .i64 u0, val := .pointer (some ⟨wr.heap.size + 1 + 3, 0, none⟩), born := c }) (c + 1))) r (ts ++ [⟨u0, u1, u2, u3⟩]) := by
  obtain ⟨C, hC, hT, hS⟩ := hN
  obtain ⟨es, c, h1, h2, h3, h4⟩ := hC.map
  have esz : (wr.alloc X).drew.heap.size = wr.heap.size + 1 := by simp
  rw [esz] at hs2 hg2 hh2 hi2
  have hrl : r < wr.heap.size := (Array.getElem?_eq_some_iff.1 h1).1
  have hbl := hC.cell.1
  have hbw : Below wr.heap.size wr w2 := (((Below.refl _ _).alloc (Nat.le_refl _) X).drew).trans (hb2.mono (by rw [esz]; omega))
  have hC2 := hC.new hbw
  have hr2 : w2.heap[r]? = some (.map es c) := (hbw.block r hrl).trans h1
  have hmem : ∀ x ∈ C, ∃ t ∈ ts, x.tag = t.tag := fun x hx => by
    have : (x.tag, x.T) ∈ newB ts := by rw [← hT]; exact List.mem_map.2 ⟨x, hx, rfl⟩
    obtain ⟨t, ht, e⟩ := List.mem_map.1 this
    exact ⟨t, ht, (Prod.mk.inj e).1.symm⟩
  have hlow : ∀ x ∈ C, ∀ k, x.S k → k < wr.heap.size := fun x hx => (hC.ten x hx).1.bound
  refine ⟨es, c, h1, fun e he => ?_, ?_⟩
  · obtain ⟨x, hx, hk, _⟩ := (keysB h2).1 e he
    obtain ⟨t, ht, e1⟩ := hmem x hx
    exact ⟨x.tag, hk, by rw [e1]; exact htag t ht⟩
  · have hoth : ∀ (o : Obj) k, k ≠ r → (setBlock w2 r o).heap[k]? = w2.heap[k]? := fun o k hk => setBlock_other' w2 r o k hk
    have hF : ∀ o, Fr (fun k => k = r) w2 (setBlock w2 r o) := fun o => ⟨rfl, rfl, rfl, by simp [setBlock], fun k _ hk => hoth o k hk⟩
    refine ⟨C ++ [⟨u0, ⟨u1, u2, u3, []⟩, wr.heap.size + 1 + 3, wr.heap.size + 1 + 1, wr.heap.size + 1 + 2, fun k => k = wr.heap.size + 1 + 3 ∨ k = wr.heap.size + 1 + 1 ∨ k = wr.heap.size + 1 + 2, []⟩], ⟨?_, ⟨_, _, setBlock_back hr2, ?_, ?_, ?_⟩, ?_, ?_⟩, ?_, ?_⟩
    · exact (hoth _ _ (by omega)).trans hC2.blk
    · simp [h2, ptrV]
    · intro e he
      simp at he
      rcases he with he | rfl
      · have := h3 e (by simpa using he)
        omega
      · exact Nat.lt_succ_self _
    · rw [Array.toList_push, List.map_append, List.nodup_append]
      refine ⟨h4, by simp, fun a ha b hb => ?_⟩
      obtain ⟨e, he, rfl⟩ := List.mem_map.1 ha
      have := h3 e he
      simp at hb
      omega
    · intro x hx
      rcases List.mem_append.1 hx with hx | hx
      · refine ⟨(hC2.ten x hx).1.keep (hF _) (fun k hk e => ?_), (hC2.ten x hx).2⟩
        have := hS x hx k hk
        omega
      · rw [List.mem_singleton.1 hx]
        refine ⟨⟨.inl rfl, .inr (.inl rfl), .inr (.inr rfl), by show wr.heap.size + 1 + 1 ≠ wr.heap.size + 1 + 2; omega, ?_, ?_, ⟨#[], 0, ?_, rfl, by simp, by simp⟩, ⟨#[], 0, ?_, rfl⟩, rfl, by simp, by simp, okT_good hok⟩, ?_, ?_⟩
        · intro k hk
          have e1 : (setBlock w2 r (.map (es.push { key := .int .i64 u0, val := .pointer (some ⟨wr.heap.size + 1 + 3, 0, none⟩), born := c }) (c + 1))).heap.size = w2.heap.size := by simp [setBlock]
          rw [e1]
          have hk' : k = wr.heap.size + 1 + 3 ∨ k = wr.heap.size + 1 + 1 ∨ k = wr.heap.size + 1 + 2 := hk
          omega
        · exact (hoth _ _ (show wr.heap.size + 1 + 3 ≠ r by omega)).trans hg2
        · exact (hoth _ _ (show wr.heap.size + 1 + 1 ≠ r by omega)).trans hh2
        · exact (hoth _ _ (show wr.heap.size + 1 + 2 ≠ r by omega)).trans hi2
        · intro hk
          have hk' : r + 1 = wr.heap.size + 1 + 3 ∨ r + 1 = wr.heap.size + 1 + 1 ∨ r + 1 = wr.heap.size + 1 + 2 := hk
          omega
        · intro hk
          have hk' : r = wr.heap.size + 1 + 3 ∨ r = wr.heap.size + 1 + 1 ∨ r = wr.heap.size + 1 + 2 := hk
          omega
    · refine List.pairwise_append.2 ⟨hC2.apart, by simp, fun a ha b hb => ?_⟩
      rw [List.mem_singleton.1 hb]
      obtain ⟨t, ht, e1⟩ := hmem a ha
      refine ⟨by rw [e1]; exact htag t ht, fun k hk hk' => ?_⟩
      have := hlow a ha k hk
      have hk2 : k = wr.heap.size + 1 + 3 ∨ k = wr.heap.size + 1 + 1 ∨ k = wr.heap.size + 1 + 2 := hk'
      omega
    · simp [hT, newB]
    · intro x hx k hk
      rcases List.mem_append.1 hx with hx | hx
      · exact hS x hx k hk
      · rw [List.mem_singleton.1 hx] at hk
        have hk' : k = wr.heap.size + 1 + 3 ∨ k = wr.heap.size + 1 + 1 ∨ k = wr.heap.size + 1 + 2 := hk
        omega
end

section
open Go.RowKit
open Go.ChangeMaps (setBlock)

attribute [local go_sem ↓] Go.wp_at_zero Go.wp_at_succ

theorem newAt_start (w1 : World) : NewAt ((w1.alloc (.map #[] 0)).alloc (.cells #[.map (some w1.heap.size)] 82)) w1.heap.size [] :=
  ⟨[], ⟨blkN _ _ _ (by simp), ⟨#[], 0, blkA (blkN _ _ _ rfl), rfl, by simp, by simp⟩, by simp, by simp⟩, rfl, by simp⟩

theorem newAt_box {w wr : World} {r : Nat} {ts : List Ten} (h : NewAt wr r ts) (hr : w.heap.size ≤ r) : BoxR wr (fun k => w.heap.size ≤ k ∧ k < wr.heap.size) (r + 1) (newB ts) := by
  obtain ⟨C, hC, hT, hS⟩ := h
  refine ⟨r, C, hC, hT, ?_, fun k hk => hk.2⟩
  have h1 := hC.cell.1
  rintro k (rfl | rfl | ⟨x, hx, hk⟩)
  · exact ⟨by omega, h1⟩
  · exact ⟨hr, by omega⟩
  · have := hS x hx k hk
    exact ⟨by omega, (hC.ten x hx).1.bound k hk⟩

set_option maxHeartbeats 1000000 in
theorem new_some (b off n cap : Nat) (ts : List Ten) (w : World) (hn : n = ts.length) (hc : n ≤ cap) (hm : cap ≤ maxLen) (hb : b < w.heap.size) (hT : TenAt w b off ts) :
    Calls Try.prog 26 #[.slice (some ⟨b, off, none⟩) n cap] w fun e w' => NewEnd w ts e w' := by
  have hmm := run_makeHint
  have hm0 := hm
  unfold maxLen at hm
  have HT : Hid (TenAt w b off ts) := hT
  have HN : Hid (n = ts.length) := hn
  clear hT
  have hck := check_some b off n cap ts w hn hc hm0 hb HT.out
  clear hn
  by_cases h0 : newErr ts = 0
  · have H0 : Hid (newErr ts = 0) := h0
    rw [h0] at hck
    have HCK := hide hck
    have hlen : Hid (errFrom [] ts = 0) := by
      have := H0.out
      unfold newErr at this
      split at this
      · cases this
      · exact this
    clear h0 hck
    go_enter Try.func26, Try.ntmps26
    go_wp2_with fail
    refine (unhide HCK).mono ?_
    rintro e w1 ⟨rfl, hb1⟩
    have hs1 := hb1.size
    have HB1 : Hid (Below w.heap.size w w1) := hb1
    clear hb1 HCK
    go_wp2
    go_loopg [20] n (fun k i wr => ∃ (j : Nat), j ≤ n ∧ k = n - j ∧ i = .int .i64 j ∧ errFrom (ts.take j) (ts.drop j) = 0 ∧ Below w.heap.size w wr ∧ NewAt wr w1.heap.size (ts.take j))
    case atStart => exact ⟨0, Nat.zero_le _, by omega, rfl, hlen.out, (HB1.out.alloc hs1 _).alloc (by simp; omega) _, newAt_start w1⟩
    case round =>
      obtain ⟨j, hj, hk, rfl, her, hbl, hNA⟩ := hrel
      have HK : Hid (gk = n - j) := hk
      have HE : Hid (errFrom (ts.take j) (ts.drop j) = 0) := her
      have HB : Hid (Below w.heap.size w wr) := hbl
      have HNA := hide hNA
      have hcl : w1.heap.size + 1 < wr.heap.size ∧ wr.cell? ⟨w1.heap.size + 1, 0, none⟩ = some (.map (some w1.heap.size)) := by
        obtain ⟨C, hC, _⟩ := hNA
        exact hC.cell
      clear hk her hlen hNA
      by_cases hlt : j < n
      · have hjt : j < ts.length := by have := HN.out; omega
        have hsz : w.heap.size ≤ wr.heap.size := hbl.size
        obtain ⟨g0, g1, g2, g3⟩ := (HT.out.below hbl hb) j hjt
        clear hbl
        obtain ⟨q1, q2, q3⟩ := errFrom_zero hjt HE.out
        have hsn := List.take_succ_eq_append_getElem hjt
        generalize hT0 : ts[j] = t at *
        obtain ⟨u0, u1, u2, u3⟩ := t
        simp only at g0 g1 g2 g3
        have HQ : Hid (okT ⟨u0, u1, u2, u3⟩ = true ∧ twiceIn (ts.take j) ⟨u0, u1, u2, u3⟩ = false ∧ errFrom (ts.take (j + 1)) (ts.drop (j + 1)) = 0 ∧ ts.take (j + 1) = ts.take j ++ [⟨u0, u1, u2, u3⟩]) := ⟨q1, q2, q3, hsn⟩
        clear q1 q2 q3 hsn hT0
        obtain ⟨hsz1, hp0⟩ := hcl
        go_wp2
        go_region_held3 (fun w' => w'.cell? ⟨w1.heap.size + 1, 0, none⟩ = some (.map (some w1.heap.size)) ∧ w'.cell? ⟨wr.heap.size, 0, none⟩ = some (.int .i64 u0) ∧ w'.cell? ⟨wr.heap.size, 1, none⟩ = some (.int .i64 u1) ∧ w'.cell? ⟨wr.heap.size, 2, none⟩ = some (.int .i64 u2) ∧ w'.cell? ⟨wr.heap.size, 3, none⟩ = some (.int .i64 u3)) (go_keep)
          ((go_at_call 41; refine (newTenant_any u0 u1 u2 u3 _).mono ?_; rintro e w2 ⟨rfl, hn2⟩;
            obtain ⟨es, clock, hM, hap, hst⟩ := new_step (unhide HNA) HQ.out.1 (tag_apart HQ.out.2.1) hn2.1 hn2.2.1 hn2.2.2.1 hn2.2.2.2.1 hn2.2.2.2.2;
            have k0 : w2.cell? ⟨w1.heap.size + 1, 0, none⟩ = some (.map (some w1.heap.size)) := (hn2.1.cell (p := ⟨w1.heap.size + 1, 0, none⟩) (by simp; omega)).trans (cellA hp0);
            have k1 : ∀ o, w2.cell? ⟨wr.heap.size, o, none⟩ = (wr.alloc (Obj.cells #[Value.int IntKind.i64 u0, Value.int IntKind.i64 u1, Value.int IntKind.i64 u2, Value.int IntKind.i64 u3] 73)).cell? ⟨wr.heap.size, o, none⟩ := (fun o => (hn2.1.cell (p := ⟨wr.heap.size, o, none⟩) (by simp)));
            have hup : ∀ v, (Instr.mapUpdate 80 (.map (some w1.heap.size)) (.int .i64 u0) v).run Try.prog w2 = .ok () (setBlock w2 w1.heap.size (.map (es.push { key := .int .i64 u0, val := v, born := clock }) (clock + 1))) := (fun v => run_update_new w2 w1.heap.size es clock u0 v ((hn2.1.block w1.heap.size (by simp; omega)).trans (blkA hM)) hap);
            have f1 := (fun o off => setBlock_cell w2 w1.heap.size o (w1.heap.size + 1) off (by omega));
            have f2 := (fun o off => setBlock_cell w2 w1.heap.size o wr.heap.size off (by omega));
            have HST := hide (And.intro hst hn2); clear hn2 hst hM hap))
        clear hup k0 k1 f1 f2
        go_wp2
        go_roundg (n - (j + 1))
        case measure => have := HK.out; omega
        case rel =>
          obtain ⟨hst, hn2⟩ := unhide HST
          obtain ⟨q1, q2, q3, q4⟩ := HQ.out
          rw [← q4] at hst
          refine ⟨j + 1, by omega, rfl, by go_num, q3, ?_, hst⟩
          refine (((HB.out.alloc HB.out.size _).drew).trans (hn2.1.mono (by simp; omega))).trans ⟨rfl, rfl, rfl, by simp [setBlock], fun k hk => setBlock_other' w2 _ _ k (by omega)⟩
      · have hjn : ts.take j = ts := List.take_of_length_le (by have := HN.out; omega)
        go_wp2
        go_ret2
        refine ⟨hbl, .inr ⟨H0.out, _, rfl, ?_⟩⟩
        have ho := unhide HNA
        rw [hjn] at ho
        exact newAt_box ho hs1
  · have H0 : Hid (newErr ts ≠ 0) := h0
    have hb0 : (newErr ts == 0) = false := by simpa using h0
    generalize hq : newErr ts = q at *
    have HCK := hide hck
    have HQ := hide hq
    clear hck h0 hq
    go_enter Try.func26, Try.ntmps26
    go_wp2_with fail
    refine (unhide HCK).mono ?_
    rintro e w1 ⟨rfl, hb1⟩
    have HB1 : Hid (Below w.heap.size w w1) := hb1
    clear hb1 HCK
    go_wp2
    go_ret2
    exact ⟨HB1.out, .inl ⟨by rw [unhide HQ]; exact H0.out, by rw [unhide HQ]; rfl⟩⟩
end

end Go.Proofs.Ytgpplekabohneaa
