/- 'add', of a tenant; 'mappingFor'. -/
import Derived.Test.YtkbgjbbniaflhaaQe
namespace Go.Proofs.Ytkbgjbbniaflhaa
open Go.RowKit
open Go.ChangeMaps (setBlock)

theorem GoodT.snoc {T : Tn} (h : GoodT T) {m : Mp} (hok : okM T m) (h1 : T.maps.find? (isP m.proto m.port) = none) (h2 : T.maps.find? (isI m.proto m.ia m.ip) = none) : GoodT { T with maps := T.maps ++ [m] } := by
  refine ⟨h.low, h.high, h.span, h.le, ?_, ?_⟩
  · intro y hy
    rcases List.mem_append.1 hy with hy | hy
    · exact h.ok y hy
    · rw [List.mem_singleton.1 hy]
      exact hok
  · refine List.pairwise_append.2 ⟨h.apart, by simp, fun a ha b hb => ?_⟩
    rw [List.mem_singleton.1 hb]
    exact ⟨fun e => List.find?_eq_none.1 h1 a ha (isP_iff.2 e), fun e => List.find?_eq_none.1 h2 a ha (isI_iff.2 e)⟩

theorem add_any {w : World} {S : Nat → Prop} {g hp hi n : Nat} {T : Tn} {L : List Cl} {m : Mp} (h : TenR w S g hp hi T L) (hn : w.heap[n]? = some (.cells (mpC m (.slice none 0 0)) 105 (0, 0))) (hpe : m.peers = []) (hS : ¬ S n) (hok : okM T m)
    (h1 : T.maps.find? (isP m.proto m.port) = none) (h2 : T.maps.find? (isI m.proto m.ia m.ip) = none) :
    Calls Try.prog 77 #[.pointer (some ⟨g, 0, none⟩), .pointer (some ⟨n, 0, none⟩)] w fun e w' => e = .returned (.tuple #[]) ∧ TenR w' (fun k => S k ∨ k = n) g hp hi { T with maps := T.maps ++ [m] } (L ++ [⟨n, .slice none 0 0, m⟩]) ∧ Fr S w w' ∧ w'.heap.size = w.heap.size := by
  obtain ⟨es, c, a1, a2, a3, a4⟩ := h.mp
  obtain ⟨es', c', b1, b2⟩ := h.mi
  have n1 : n < w.heap.size := (Array.getElem?_eq_some_iff.1 hn).1
  have memL : ∀ x ∈ L, x.m ∈ T.maps := fun x hx => by rw [← h.maps]; exact List.mem_map.2 ⟨x, hx, rfl⟩
  refine (add_raw h.blk hn a1 b1 h.ne (fun e he => ?_) (fun e he => ?_)).mono ?_
  · obtain ⟨x, hx, hk, _⟩ := (keysP a2).1 e he
    refine ⟨⟨_, _, hk⟩, fun e' => ?_⟩
    exact List.find?_eq_none.1 h1 x.m (memL x hx) (isP_iff.2 (kP_iff.1 (hk.symm.trans e')))
  · obtain ⟨x, hx, hk, _⟩ := (keysI b2).1 e he
    refine ⟨⟨_, _, _, hk⟩, fun e' => ?_⟩
    exact List.find?_eq_none.1 h2 x.m (memL x hx) (isI_iff.2 (kI_iff.1 (hk.symm.trans e')))
  · rintro e w' ⟨rfl, hF, hsz, hP, hI⟩
    have hXn : ∀ {cs : Array Value} {t : TypeId} {f : Nat × Nat} {k : Nat}, w.heap[k]? = some (.cells cs t f) → ¬ (k = hp ∨ k = hi) := fun hk => by
      rintro (e | e)
      · exact map_ne_cells a1 hk e.symm
      · exact map_ne_cells b1 hk e.symm
    refine ⟨rfl, ⟨.inl h.sg, .inl h.shp, .inl h.shi, h.ne, ?_, hF.some h.blk (hXn h.blk), ⟨_, _, hP, ?_, ?_, ?_⟩, ⟨_, _, hI, ?_⟩, ?_, ?_, ?_, h.good.snoc hok h1 h2⟩, ?_, hsz⟩
    · rintro k (hk | hk)
      · rw [hsz]; exact h.bound k hk
      · rw [hsz, hk]; exact n1
    · simp [a2, kP, ptrV]
    · intro e he
      simp at he
      rcases he with he | rfl
      · have := a3 e (by simpa using he)
        omega
      · exact Nat.lt_succ_self _
    · rw [Array.toList_push, List.map_append, List.nodup_append]
      refine ⟨a4, by simp, fun a ha b hb => ?_⟩
      obtain ⟨e, he, rfl⟩ := List.mem_map.1 ha
      have := a3 e he
      simp at hb
      omega
    · simp [b2, kI, ptrV]
    · simp [h.maps]
    · intro x hx
      rcases List.mem_append.1 hx with hx | hx
      · obtain ⟨y1, y2, y3⟩ := h.mem x hx
        refine ⟨y1.keep hF (hXn y1.1) ?_, .inl y2, fun b hb => .inl (y3 b hb)⟩
        intro b hb
        rintro (e | e)
        · exact row_ne_map y1.2 a1 (e ▸ hb)
        · exact row_ne_map y1.2 b1 (e ▸ hb)
      · rw [List.mem_singleton.1 hx]
        refine ⟨⟨hF.some hn (hXn hn), ?_⟩, .inr rfl, fun b hb => by cases hb⟩
        rw [hpe]
        exact World.ownsRow_nil _ _ _ _
    · refine List.pairwise_append.2 ⟨h.apart, by simp, fun a ha b hb => ?_⟩
      rw [List.mem_singleton.1 hb]
      refine ⟨fun e => ?_, fun b' _ hb' => ?_, ?_⟩
      · have e' : a.g = n := e
        exact hS (e' ▸ (h.mem a ha).2.1)
      · have hb2 : (Value.slice none 0 0).ownBlock = some b' := hb'
        simp [Value.ownBlock] at hb2
      · exact ⟨fun e => List.find?_eq_none.1 h1 a.m (memL a ha) (isP_iff.2 e), fun e => List.find?_eq_none.1 h2 a.m (memL a ha) (isI_iff.2 e)⟩
    · exact hF.mono (fun k hk _ => by rcases hk with rfl | rfl; exact h.shp; exact h.shi)

theorem freeF_some {l : List Mp} {p : Int} : ∀ {n : Nat} {q r : Int}, freeF l p n q = some r → q ≤ r ∧ r < q + n ∧ l.find? (isP p r) = none
  | 0, _, _, h => by cases h
  | n + 1, q, r, h => by
    rw [freeF] at h
    split at h
    · obtain ⟨h1, h2, h3⟩ := freeF_some h
      exact ⟨by omega, by omega, h3⟩
    · rename_i hf
      cases h
      exact ⟨Int.le_refl _, by omega, by simpa using hf⟩

end Go.Proofs.Ytkbgjbbniaflhaa
