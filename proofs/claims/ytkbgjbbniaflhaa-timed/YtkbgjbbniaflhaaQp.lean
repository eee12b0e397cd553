/- 'pass' of a tenant, whole: P5, P6, P7. -/
import Derived.Test.YtkbgjbbniaflhaaQn
import Derived.Test.YtkbgjbbniaflhaaQj1
import Derived.Test.YtkbgjbbniaflhaaQj2
import Derived.Test.YtkbgjbbniaflhaaQj3
import Derived.Test.YtkbgjbbniaflhaaQo1
import Derived.Test.YtkbgjbbniaflhaaQo2
import Derived.Test.YtkbgjbbniaflhaaQo3
import Derived.Test.YtkbgjbbniaflhaaQo4
namespace Go.Proofs.Ytkbgjbbniaflhaa
open Go.RowKit

theorem errOut_any {w : World} {S : Nat → Prop} {g hp hi : Nat} {T : Tn} {L : List Cl} (h : TenR w S g hp hi T L) (p : Pk) :
    Calls Try.prog 42 #[.pointer (some ⟨g, 0, none⟩), .agg (pkC p)] w fun e w' => e = .returned (.tuple #[.agg (pkC (errOutF T p).1), .int .i64 (errOutF T p).2]) ∧ After w S g hp hi T w' := by
  unfold errOutF
  cases hf : T.maps.find? (isI p.proto p.qda p.qdp) with
  | none =>
    refine (errOut_none h p hf).mono ?_
    rintro e w' ⟨rfl, hb⟩
    exact ⟨rfl, h.after hb⟩
  | some m =>
    obtain ⟨x, hx, rfl⟩ := h.ofFind hf
    dsimp only
    cases hc : x.m.peers.contains p.qsa
    · refine (errOut_filt h p hx hf hc).mono ?_
      rintro e w' ⟨rfl, hb⟩
      exact ⟨rfl, h.after hb⟩
    · refine (errOut_ok h p hx hf hc).mono ?_
      rintro e w' ⟨rfl, hb⟩
      exact ⟨rfl, h.after hb⟩

theorem errIn_any {w : World} {S : Nat → Prop} {g hp hi : Nat} {T : Tn} {L : List Cl} (h : TenR w S g hp hi T L) (p : Pk) :
    Calls Try.prog 43 #[.pointer (some ⟨g, 0, none⟩), .agg (pkC p)] w fun e w' => e = .returned (.tuple #[.agg (pkC (errInF T p).1), .int .i64 (errInF T p).2]) ∧ After w S g hp hi T w' := by
  unfold errInF
  by_cases he : p.qsa = T.outer
  · rw [if_pos he]
    cases hf : T.maps.find? (isP p.proto p.qsp) with
    | none =>
      refine (errIn_none h p (.inr ⟨he, hf⟩)).mono ?_
      rintro e w' ⟨rfl, hb⟩
      exact ⟨rfl, h.after hb⟩
    | some m =>
      obtain ⟨x, hx, rfl⟩ := h.ofFind hf
      dsimp only
      by_cases hd : p.da = T.outer
      · rw [if_pos hd]
        cases hc : x.m.peers.contains p.qda
        · refine (errIn_filt h p he hx hf hd hc).mono ?_
          rintro e w' ⟨rfl, hb⟩
          exact ⟨rfl, h.after hb⟩
        · refine (errIn_ok h p he hx hf hd hc).mono ?_
          rintro e w' ⟨rfl, hb⟩
          exact ⟨rfl, h.after hb⟩
      · rw [if_neg hd]
        refine (errIn_far h p he hx hf (by simpa using hd)).mono ?_
        rintro e w' ⟨rfl, hb⟩
        exact ⟨rfl, h.after hb⟩
  · rw [if_neg he]
    refine (errIn_none h p (.inl he)).mono ?_
    rintro e w' ⟨rfl, hb⟩
    exact ⟨rfl, h.after hb⟩

theorem pass_any {w : World} {S : Nat → Prop} {g hp hi : Nat} {T : Tn} {L : List Cl} (h : TenR w S g hp hi T L) (p : Pk) (hpr : 1 ≤ p.proto ∧ p.proto ≤ 3) :
    Calls Try.prog 26 #[.pointer (some ⟨g, 0, none⟩), .agg (pkC p)] w fun e w' => e = .returned (.tuple #[.agg (pkC (passF T p).2.1), .int .i64 (passF T p).2.2]) ∧ After w S g hp hi (passF T p).1 w' := by
  unfold passF
  cases he : p.err
  · cases ho : p.out
    · exact pass_i p (inF T p) h.bound he ho (fun W hb => passIn_any (h.new hb) p)
    · exact pass_o p (outF T p) h.bound he ho (fun W hb => passOut_any (h.new hb) p hpr)
  · cases ho : p.out
    · exact pass_ei p (T, errInF T p) h.bound he ho (fun W hb => errIn_any (h.new hb) p)
    · exact pass_eo p (T, errOutF T p) h.bound he ho (fun W hb => errOut_any (h.new hb) p)

end Go.Proofs.Ytkbgjbbniaflhaa
