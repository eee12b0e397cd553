/- 'passIn', whole: P6. -/
import Derived.Test.YtkbgjbbniaflhaaQi1
import Derived.Test.YtkbgjbbniaflhaaQi2
namespace Go.Proofs.Ytkbgjbbniaflhaa
open Go.RowKit

theorem TenR.updAfter {w w' : World} {S : Nat → Prop} {g hp hi : Nat} {T : Tn} {L : List Cl} (h : TenR w S g hp hi T L) {x : Cl} (hx : x ∈ L) {m' : Mp} (hb : w'.heap[x.g]? = some (.cells (mpC m' x.sv) 105 (0, 0))) (hs : sameK m' x.m) (hpe : m'.peers = x.m.peers)
    (hF : Fr (fun k => k = x.g) w w') (h0 : 0 ≤ m'.idle) (h1 : m'.idle < 1000) : After w S g hp hi { T with maps := setM T.maps m' } w' := by
  obtain ⟨hxM, hxS, hxB⟩ := h.mem x hx
  have hok := h.good.ok x.m (by rw [← h.maps]; exact List.mem_map.2 ⟨x, hx, rfl⟩)
  have hM : Mem w' x.g x.sv m' := ⟨hb, by rw [hpe]; exact ownsRow_keep hxM.2 hF (fun b hb' e => row_ne hxM.2 hxM.1 (by decide) (e ▸ hb'))⟩
  exact ⟨_, h.upd hx hM hs (hF.mono (fun k hk _ => .inl hk)) (fun b hb' => .inl hb') (by rw [hpe]; exact hok.2.2.2.2.1) h0 h1, hF.mono (fun k hk _ => by rw [hk]; exact hxS)⟩

theorem passIn_any {w : World} {S : Nat → Prop} {g hp hi : Nat} {T : Tn} {L : List Cl} (h : TenR w S g hp hi T L) (p : Pk) :
    Calls Try.prog 45 #[.pointer (some ⟨g, 0, none⟩), .agg (pkC p)] w fun e w' => e = .returned (.tuple #[.agg (pkC (inF T p).2.1), .int .i64 (inF T p).2.2]) ∧ After w S g hp hi (inF T p).1 w' := by
  unfold inF
  by_cases he : p.da = T.outer
  · rw [if_pos he]
    cases hf : T.maps.find? (isP p.proto p.dp) with
    | none =>
      refine (passIn_far h p (.inr ⟨he, hf⟩)).mono ?_
      rintro e w' ⟨rfl, hb⟩
      exact ⟨rfl, h.after hb⟩
    | some m =>
      obtain ⟨x, hx, rfl⟩ := h.ofFind hf
      dsimp only
      cases hc : x.m.peers.contains p.sa
      · refine (passIn_filt h p he hx hf hc).mono ?_
        rintro e w' ⟨rfl, hb⟩
        exact ⟨rfl, h.after hb⟩
      · by_cases h2 : p.proto = 2
        · refine (passIn_str h p he hx hf hc h2).mono ?_
          rintro e w' ⟨rfl, hb, hF⟩
          refine ⟨rfl, ?_⟩
          simp only [if_true, h2]
          have hsm := marksF_same x.m p.out p.syn p.fin p.rst
          exact h.updAfter hx hb ⟨hsm.1, hsm.2.1, hsm.2.2.1, hsm.2.2.2⟩ (marksF_peers _ _ _ _ _) hF (Int.le_refl _) (show (0 : Int) < 1000 by omega)
        · refine (passIn_ok h p he hx hf hc (by simpa using h2)).mono ?_
          rintro e w' ⟨rfl, hb⟩
          refine ⟨rfl, ?_⟩
          simp only [if_true, h2, if_false]
          exact h.after hb
  · rw [if_neg he]
    refine (passIn_far h p (.inl he)).mono ?_
    rintro e w' ⟨rfl, hb⟩
    exact ⟨rfl, h.after hb⟩

end Go.Proofs.Ytkbgjbbniaflhaa
