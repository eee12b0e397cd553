/- A tenant's pass. -/
import Derived.Test.YtgpplekabohneaaQu
import Derived.Test.YtgpplekabohneaaQv
import Derived.Test.YtgpplekabohneaaQt
import Derived.Test.YtgpplekabohneaaQw
namespace Go.Proofs.Ytgpplekabohneaa
section
open Go.RowKit

theorem passOut_with {w : World} {S : Nat → Prop} {g hp hi : Nat} {T1 : Tn} (m : Mp) (p : Pk) (hg : g < w.heap.size) (hS : ∀ k, S k → k < w.heap.size) (hC : ∀ W, Below w.heap.size w W → Hid (Calls Try.prog 68 #[.pointer (some ⟨g, 0, none⟩), .agg (pkC p)] W fun e w1 => ∃ x S1 L1, e = .returned (.tuple #[.pointer (some ⟨x.g, 0, none⟩), .int .i64 0]) ∧ x.m = m ∧ By W S g hp hi T1 x w1 S1 L1)) :
    Calls Try.prog 49 #[.pointer (some ⟨g, 0, none⟩), .agg (pkC p)] w fun e w' => e = .returned (.tuple #[.agg (pkC (outW T1 m p).2.1), .int .i64 (outW T1 m p).2.2]) ∧ After w S g hp hi (outW T1 m p).1 w' := by
  unfold outW
  by_cases hd : p.da = T1.outer
  · rw [if_pos hd]
    by_cases h2 : p.proto = 2
    · exact passOut_str_turn m p hg hS h2 hd hC
    · exact passOut_oth_turn m p hg hS (by simpa using h2) hd hC
  · rw [if_neg hd]
    by_cases h2 : p.proto = 2
    · exact passOut_str_go m p hg hS h2 (by simpa using hd) hC
    · exact passOut_oth_go m p hg hS (by simpa using h2) (by simpa using hd) hC

theorem passOut_any {w : World} {S : Nat → Prop} {g hp hi : Nat} {T : Tn} {L : List Cl} (h : TenR w S g hp hi T L) (p : Pk) (hpr : 1 ≤ p.proto ∧ p.proto ≤ 3) :
    Calls Try.prog 49 #[.pointer (some ⟨g, 0, none⟩), .agg (pkC p)] w fun e w' => e = .returned (.tuple #[.agg (pkC (outF T p).2.1), .int .i64 (outF T p).2.2]) ∧ After w S g hp hi (outF T p).1 w' := by
  unfold outF
  cases hf : T.maps.find? (isI p.proto p.sa p.sp) with
  | some m =>
    obtain ⟨x, hx, rfl⟩ := h.ofFind hf
    refine passOut_with x.m p h.cells.1 h.bound ?_
    intro W hb
    refine Calls.mono (mappingFor_old (h.new hb) p hx hf) ?_
    rintro e w1 ⟨rfl, hb1⟩
    exact ⟨x, S, L, rfl, rfl, (h.new hb).new hb1, hx, Fr.of_below hb1, fun _ hk => hk, fun _ hk => .inl hk⟩
  | none =>
    dsimp only
    by_cases hns : p.proto = 2 ∧ p.syn = false
    · rw [if_pos hns]
      refine (passOut_no h p 2 rfl (fun W hb => mappingFor_not (h.new hb) p hf hns.1 hns.2)).mono ?_
      rintro e w' ⟨rfl, hb⟩
      exact ⟨rfl, h.after hb⟩
    · rw [if_neg hns]
      have hns' : (p.proto == 2 && !p.syn) = false := by
        cases hs : p.syn
        · have : ¬ p.proto = 2 := fun e => hns ⟨e, hs⟩
          simpa using this
        · simp
      cases hq : freeF T.maps p.proto (T.high + 1 - T.low).toNat T.low with
      | none =>
        refine (passOut_no h p 3 rfl (fun W hb => mappingFor_full (h.new hb) p hf hns' hq)).mono ?_
        rintro e w' ⟨rfl, hb⟩
        exact ⟨rfl, h.after hb⟩
      | some q =>
        refine passOut_with (T1 := { T with maps := T.maps ++ [newM p.proto p.sa p.sp q] }) (newM p.proto p.sa p.sp q) p h.cells.1 h.bound ?_
        intro W hb
        refine Calls.mono (mappingFor_new (h.new hb) p hpr hf hns' q hq) ?_
        rintro e w1 ⟨n, rfl, h1, h2, h3, h4⟩
        exact ⟨⟨n, .slice none 0 0, newM p.proto p.sa p.sp q⟩, _, _, rfl, rfl, h1, List.mem_append.2 (.inr (List.mem_singleton.2 rfl)), h2, fun _ hk => .inl hk, fun k hk => by rcases hk with hk | hk; exact .inl hk; exact .inr (by omega)⟩
end

section
open Go.RowKit

theorem errOut_any {w : World} {S : Nat → Prop} {g hp hi : Nat} {T : Tn} {L : List Cl} (h : TenR w S g hp hi T L) (p : Pk) :
    Calls Try.prog 47 #[.pointer (some ⟨g, 0, none⟩), .agg (pkC p)] w fun e w' => e = .returned (.tuple #[.agg (pkC (errOutF T p).1), .int .i64 (errOutF T p).2]) ∧ After w S g hp hi T w' := by
  unfold errOutF
  cases hf : T.maps.find? (isI p.proto p.qda p.qdp) with
  | none =>
    refine (errOut_none h p hf).mono ?_
    rintro e w' ⟨rfl, hb⟩
    exact ⟨rfl, h.after hb⟩
  | some m =>
    obtain ⟨x, hx, rfl⟩ := h.ofFind hf
    dsimp only
    cases hc : x.m.peers.contains p.qsa
    · refine (errOut_filt h p hx hf hc).mono ?_
      rintro e w' ⟨rfl, hb⟩
      exact ⟨rfl, h.after hb⟩
    · refine (errOut_ok h p hx hf hc).mono ?_
      rintro e w' ⟨rfl, hb⟩
      exact ⟨rfl, h.after hb⟩

theorem errIn_any {w : World} {S : Nat → Prop} {g hp hi : Nat} {T : Tn} {L : List Cl} (h : TenR w S g hp hi T L) (p : Pk) :
    Calls Try.prog 48 #[.pointer (some ⟨g, 0, none⟩), .agg (pkC p)] w fun e w' => e = .returned (.tuple #[.agg (pkC (errInF T p).1), .int .i64 (errInF T p).2]) ∧ After w S g hp hi T w' := by
  unfold errInF
  by_cases he : p.qsa = T.outer
  · rw [if_pos he]
    cases hf : T.maps.find? (isP p.proto p.qsp) with
    | none =>
      refine (errIn_none h p (.inr ⟨he, hf⟩)).mono ?_
      rintro e w' ⟨rfl, hb⟩
      exact ⟨rfl, h.after hb⟩
    | some m =>
      obtain ⟨x, hx, rfl⟩ := h.ofFind hf
      dsimp only
      by_cases hd : p.da = T.outer
      · rw [if_pos hd]
        cases hc : x.m.peers.contains p.qda
        · refine (errIn_filt h p he hx hf hd hc).mono ?_
          rintro e w' ⟨rfl, hb⟩
          exact ⟨rfl, h.after hb⟩
        · refine (errIn_ok h p he hx hf hd hc).mono ?_
          rintro e w' ⟨rfl, hb⟩
          exact ⟨rfl, h.after hb⟩
      · rw [if_neg hd]
        refine (errIn_far h p he hx hf (by simpa using hd)).mono ?_
        rintro e w' ⟨rfl, hb⟩
        exact ⟨rfl, h.after hb⟩
  · rw [if_neg he]
    refine (errIn_none h p (.inl he)).mono ?_
    rintro e w' ⟨rfl, hb⟩
    exact ⟨rfl, h.after hb⟩

theorem pass_any {w : World} {S : Nat → Prop} {g hp hi : Nat} {T : Tn} {L : List Cl} (h : TenR w S g hp hi T L) (p : Pk) (hpr : 1 ≤ p.proto ∧ p.proto ≤ 3) :
    Calls Try.prog 29 #[.pointer (some ⟨g, 0, none⟩), .agg (pkC p)] w fun e w' => e = .returned (.tuple #[.agg (pkC (passF T p).2.1), .int .i64 (passF T p).2.2]) ∧ After w S g hp hi (passF T p).1 w' := by
  unfold passF
  cases he : p.err
  · cases ho : p.out
    · exact pass_i p (inF T p) h.bound he ho (fun W hb => passIn_any (h.new hb) p)
    · exact pass_o p (outF T p) h.bound he ho (fun W hb => passOut_any (h.new hb) p hpr)
  · cases ho : p.out
    · exact pass_ei p (T, errInF T p) h.bound he ho (fun W hb => errIn_any (h.new hb) p)
    · exact pass_eo p (T, errOutF T p) h.bound he ho (fun W hb => errOut_any (h.new hb) p)
end

end Go.Proofs.Ytgpplekabohneaa
