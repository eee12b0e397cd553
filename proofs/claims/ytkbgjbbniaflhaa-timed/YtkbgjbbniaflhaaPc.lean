/- 'isPacket', 'span', 'pick'. -/
import Derived.Test.YtkbgjbbniaflhaaPb
namespace Go.Proofs.Ytkbgjbbniaflhaa
open Go.RowKit

theorem bcell {W w1 : World} (hb : Below W.heap.size W w1) : (∀ b o, b < W.heap.size → w1.cell? ⟨b, o, none⟩ = W.cell? ⟨b, o, none⟩) ∧ (∀ b o, b < W.heap.size → w1.frozen? ⟨b, o, none⟩ = W.frozen? ⟨b, o, none⟩) :=
  ⟨fun b o h => hb.cell (p := ⟨b, o, none⟩) h, fun b o h => hb.frozen (p := ⟨b, o, none⟩) h⟩

set_option maxHeartbeats 1000000 in
theorem isPacket_any (p : Pk) (w : World) :
    Calls Try.prog 25 #[.agg (pkC p)] w fun e w' => e = .returned (.bool (goodB p)) ∧ Below w.heap.size w w' := by
  have hqC := fun w => hide (mayQuote_any p w)
  have hmC := fun w => hide (mayMark_any p w)
  obtain ⟨tag, proto, out, sa, sp, da, dp, syn, fin, rst, err, qsa, qsp, qda, qdp⟩ := p
  unfold goodB
  generalize hQ : quoteB ⟨tag, proto, out, sa, sp, da, dp, syn, fin, rst, err, qsa, qsp, qda, qdp⟩ = bq at *
  generalize hM : markB ⟨tag, proto, out, sa, sp, da, dp, syn, fin, rst, err, qsa, qsp, qda, qdp⟩ = bm at *
  clear hQ hM
  unfold pkC at *
  dsimp only at *
  by_cases h1 : 1 ≤ proto
  · by_cases h2 : proto ≤ 3
    · have hd : decide (1 ≤ proto ∧ proto ≤ 3) = true := by simp [h1, h2]
      rw [hd]
      clear hd
      cases hs : endB sa sp
      · go_enter Try.func25, Try.ntmps25
        go_wp2_with (go_at_call 39; refine (isEnd_any _ _ _).mono ?_; rintro e w' ⟨rfl, rfl⟩)
        go_ret
        exact ⟨by simp, ((Below.refl _ _).alloc (Nat.le_refl _) _).alloc (by simp) _⟩
      · cases hdd : endB da dp
        · go_enter Try.func25, Try.ntmps25
          go_wp2_with (go_at_call 39; refine (isEnd_any _ _ _).mono ?_; rintro e w' ⟨rfl, rfl⟩)
          go_ret
          exact ⟨by simp, (((Below.refl _ _).alloc (Nat.le_refl _) _).alloc (by simp) _).alloc (by simp; omega) _⟩
        · cases bq
          · go_enter Try.func25, Try.ntmps25
            go_wp2_with (first | (go_at_call 39; refine (isEnd_any _ _ _).mono ?_; rintro e w' ⟨rfl, rfl⟩) | (go_at_call 40; refine (unhide (hqC _)).mono ?_; rintro e w1 ⟨rfl, hb1⟩; obtain ⟨hc, hf⟩ := bcell hb1))
            go_ret
            exact ⟨by simp, ((((Below.refl _ _).alloc (Nat.le_refl _) _).alloc (by simp) _).alloc (by simp; omega) _).trans (hb1.mono (by simp; omega))⟩
          · go_enter Try.func25, Try.ntmps25
            go_wp2_with (first | (go_at_call 39; refine (isEnd_any _ _ _).mono ?_; rintro e w' ⟨rfl, rfl⟩) | (go_at_call 40; refine (unhide (hqC _)).mono ?_; rintro e w1 ⟨rfl, hb1⟩; obtain ⟨hc, hf⟩ := bcell hb1) | (go_at_call 41; refine (unhide (hmC _)).mono ?_; rintro e w2 ⟨rfl, rfl⟩))
            go_ret
            exact ⟨by simp, (((((Below.refl _ _).alloc (Nat.le_refl _) _).alloc (by simp) _).alloc (by simp; omega) _).trans (hb1.mono (by simp; omega))).alloc (by have := hb1.size; simp at this; omega) _⟩
    · have hd : decide (1 ≤ proto ∧ proto ≤ 3) = false := by simp [h2]
      rw [hd]
      clear hd
      go_enter Try.func25, Try.ntmps25
      go_wp2
      go_ret
      exact ⟨by simp, (Below.refl _ _).alloc (Nat.le_refl _) _⟩
  · have hd : decide (1 ≤ proto ∧ proto ≤ 3) = false := by simp [h1]
    rw [hd]
    clear hd
    go_enter Try.func25, Try.ntmps25
    go_wp2
    go_ret
    exact ⟨by simp, (Below.refl _ _).alloc (Nat.le_refl _) _⟩

/-- a mapping's span -/
def spanF (proto state : Int) : Int := if proto = 1 then 100 else if proto = 3 then 20 else if state = 1 then 30 else if state = 2 then 1000 else 10

theorem span_any (g : Nat) (proto state : Int) (w : World) (h0 : w.cell? ⟨g, 0, none⟩ = some (.int .i64 proto)) (h5 : w.cell? ⟨g, 5, none⟩ = some (.int .i64 state)) :
    Calls Try.prog 37 #[.pointer (some ⟨g, 0, none⟩)] w fun e w' => e = .returned (.int .i64 (spanF proto state)) ∧ w' = w := by
  unfold spanF
  by_cases h1 : proto = 1
  · rw [if_pos h1]
    go_enter Try.func37, Try.ntmps37
    go_wp2
    go_ret
    exact ⟨rfl, rfl⟩
  · rw [if_neg h1]
    by_cases h2 : proto = 3
    · rw [if_pos h2]
      go_enter Try.func37, Try.ntmps37
      go_wp2
      go_ret
      exact ⟨rfl, rfl⟩
    · rw [if_neg h2]
      by_cases h3 : state = 1
      · rw [if_pos h3]
        go_enter Try.func37, Try.ntmps37
        go_wp2
        go_ret
        exact ⟨rfl, rfl⟩
      · rw [if_neg h3]
        by_cases h4 : state = 2
        · rw [if_pos h4]
          go_enter Try.func37, Try.ntmps37
          go_wp2
          go_ret
          exact ⟨rfl, rfl⟩
        · rw [if_neg h4]
          go_enter Try.func37, Try.ntmps37
          go_wp2
          go_ret
          exact ⟨rfl, rfl⟩

/-- which of n things the raw number c speaks of -/
def pk (c : Int) (n : Nat) : Nat := if c < 0 then (-(c + 1)).toNat % n else c.toNat % n

theorem pk_lt (c : Int) (n : Nat) (h : 0 < n) : pk c n < n := by
  unfold pk
  split <;> exact Nat.mod_lt _ h

theorem pk_neg (c : Int) (n : Nat) (h1 : c < 0) : -((c + 1).tmod n) = (pk c n : Int) := by
  obtain ⟨m, hm⟩ := Int.eq_ofNat_of_zero_le (show 0 ≤ -(c + 1) by omega)
  have e : c + 1 = -(m : Int) := by omega
  have e2 : pk c n = m % n := by
    unfold pk
    rw [if_pos h1, hm]
    simp
  rw [e2, e, Int.neg_tmod, Int.neg_neg, Int.tmod_eq_emod_of_nonneg (by omega)]
  simp

theorem pk_pos (c : Int) (n : Nat) (h1 : ¬ c < 0) : c % n = (pk c n : Int) := by
  obtain ⟨m, hm⟩ := Int.eq_ofNat_of_zero_le (show 0 ≤ c by omega)
  have e2 : pk c n = m % n := by
    unfold pk
    rw [if_neg h1, hm]
    simp
  rw [e2, hm]
  simp

theorem pick_eq (c : Int) (n : Nat) (w : World) (hc : -9223372036854775808 ≤ c) (hc' : c ≤ 9223372036854775807) (hn : 0 < n) (hn' : n ≤ 100000) :
    Calls Try.prog 12 #[.int .i64 c, .int .i64 n] w fun e w' => e = .returned (.int .i64 (pk c n)) ∧ w' = w := by
  by_cases h1 : c < 0
  · have hp := hide (pk_neg c n h1)
    go_enter Try.func12, Try.ntmps12
    go_wp2
    go_ret
    exact ⟨by rw [← unhide hp]; rfl, rfl⟩
  · have hp := hide (pk_pos c n h1)
    go_enter Try.func12, Try.ntmps12
    go_wp2
    go_ret
    exact ⟨by rw [← unhide hp]; rfl, rfl⟩

end Go.Proofs.Ytkbgjbbniaflhaa
