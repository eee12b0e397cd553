/- 'passOut', whole: P5. -/
import Derived.Test.YtkbgjbbniaflhaaQm1
import Derived.Test.YtkbgjbbniaflhaaQm2
import Derived.Test.YtkbgjbbniaflhaaQm3
import Derived.Test.YtkbgjbbniaflhaaQm4
namespace Go.Proofs.Ytkbgjbbniaflhaa
open Go.RowKit

theorem passOut_with {w : World} {S : Nat → Prop} {g hp hi : Nat} {T1 : Tn} (m : Mp) (p : Pk) (hg : g < w.heap.size) (hS : ∀ k, S k → k < w.heap.size) (hC : ∀ W, Below w.heap.size w W → Hid (Calls Try.prog 61 #[.pointer (some ⟨g, 0, none⟩), .agg (pkC p)] W fun e w1 => ∃ x S1 L1, e = .returned (.tuple #[.pointer (some ⟨x.g, 0, none⟩), .int .i64 0]) ∧ x.m = m ∧ By W S g hp hi T1 x w1 S1 L1)) :
    Calls Try.prog 44 #[.pointer (some ⟨g, 0, none⟩), .agg (pkC p)] w fun e w' => e = .returned (.tuple #[.agg (pkC (outW T1 m p).2.1), .int .i64 (outW T1 m p).2.2]) ∧ After w S g hp hi (outW T1 m p).1 w' := by
  unfold outW
  by_cases hd : p.da = T1.outer
  · rw [if_pos hd]
    by_cases h2 : p.proto = 2
    · exact passOut_str_turn m p hg hS h2 hd hC
    · exact passOut_oth_turn m p hg hS (by simpa using h2) hd hC
  · rw [if_neg hd]
    by_cases h2 : p.proto = 2
    · exact passOut_str_go m p hg hS h2 (by simpa using hd) hC
    · exact passOut_oth_go m p hg hS (by simpa using h2) (by simpa using hd) hC

theorem passOut_any {w : World} {S : Nat → Prop} {g hp hi : Nat} {T : Tn} {L : List Cl} (h : TenR w S g hp hi T L) (p : Pk) (hpr : 1 ≤ p.proto ∧ p.proto ≤ 3) :
    Calls Try.prog 44 #[.pointer (some ⟨g, 0, none⟩), .agg (pkC p)] w fun e w' => e = .returned (.tuple #[.agg (pkC (outF T p).2.1), .int .i64 (outF T p).2.2]) ∧ After w S g hp hi (outF T p).1 w' := by
  unfold outF
  cases hf : T.maps.find? (isI p.proto p.sa p.sp) with
  | some m =>
    obtain ⟨x, hx, rfl⟩ := h.ofFind hf
    refine passOut_with x.m p h.cells.1 h.bound ?_
    intro W hb
    refine Calls.mono (mappingFor_old (h.new hb) p hx hf) ?_
    rintro e w1 ⟨rfl, hb1⟩
    exact ⟨x, S, L, rfl, rfl, (h.new hb).new hb1, hx, Fr.of_below hb1, fun _ hk => hk, fun _ hk => .inl hk⟩
  | none =>
    dsimp only
    by_cases hns : p.proto = 2 ∧ p.syn = false
    · rw [if_pos hns]
      refine (passOut_no h p 2 rfl (fun W hb => mappingFor_not (h.new hb) p hf hns.1 hns.2)).mono ?_
      rintro e w' ⟨rfl, hb⟩
      exact ⟨rfl, h.after hb⟩
    · rw [if_neg hns]
      have hns' : (p.proto == 2 && !p.syn) = false := by
        cases hs : p.syn
        · have : ¬ p.proto = 2 := fun e => hns ⟨e, hs⟩
          simpa using this
        · simp
      cases hq : freeF T.maps p.proto (T.high + 1 - T.low).toNat T.low with
      | none =>
        refine (passOut_no h p 3 rfl (fun W hb => mappingFor_full (h.new hb) p hf hns' hq)).mono ?_
        rintro e w' ⟨rfl, hb⟩
        exact ⟨rfl, h.after hb⟩
      | some q =>
        refine passOut_with (T1 := { T with maps := T.maps ++ [newM p.proto p.sa p.sp q] }) (newM p.proto p.sa p.sp q) p h.cells.1 h.bound ?_
        intro W hb
        refine Calls.mono (mappingFor_new (h.new hb) p hpr hf hns' q hq) ?_
        rintro e w1 ⟨n, rfl, h1, h2, h3, h4⟩
        exact ⟨⟨n, .slice none 0 0, newM p.proto p.sa p.sp q⟩, _, _, rfl, rfl, h1, List.mem_append.2 (.inr (List.mem_singleton.2 rfl)), h2, fun _ hk => .inl hk, fun k hk => by rcases hk with hk | hk; exact .inl hk; exact .inr (by omega)⟩

end Go.Proofs.Ytkbgjbbniaflhaa
