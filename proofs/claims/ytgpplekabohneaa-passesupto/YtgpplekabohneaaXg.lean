/- 'out', 'errors' of the document, whole; what the walks of 'Pass' share. -/
import Derived.Test.YtgpplekabohneaaKk
import Derived.Test.YtgpplekabohneaaKp
import Derived.Test.YtgpplekabohneaaKq
import Derived.Test.YtgpplekabohneaaKr
import Derived.Test.YtgpplekabohneaaKs
import Derived.Test.YtgpplekabohneaaKt
import Derived.Test.YtgpplekabohneaaKu
import Derived.Test.YtgpplekabohneaaXe
import Derived.Deep.CutRange
import Derived.Deep.CutBlock
namespace Go.Proofs.Ytgpplekabohneaa
open Go.RowKit

section
variable {w : World} {S : Nat → Prop} {r : Nat} {tv lv : Value} {ts : List Ten} {L : List RCl}

theorem rout_any (h : RefR w S r tv lv ts L) {t : Nat} (ht : t < ts.length) (p : Pk) (hu : okT ts[t] = true) (hA : GoodT (absT ts[t] t L)) (hX : ∀ x ∈ L, okX x.m) (hlen : L.length < 2000) (hpr3 : 1 ≤ p.proto ∧ p.proto ≤ 3) :
    Calls Try.prog 97 #[.pointer (some ⟨r, 0, none⟩), .int .i64 t, .agg (pkC p)] w fun e w' => RFin w S r tv ts L t (outF (absT ts[t] t L) p).1.maps (outF (absT ts[t] t L) p).2.1 (outF (absT ts[t] t L) p).2.2 e w' := by
  cases h1 : (L.find? (atI t p.proto p.sa p.sp)).isSome
  · by_cases h2 : p.proto = 2 ∧ p.syn = false
    · exact rout_B h ht p hu hA hX hlen hpr3 h1 h2
    · by_cases h4 : freeF (absT ts[t] t L).maps p.proto (ts[t].high + 1 - ts[t].low).toNat ts[t].low = none
      · exact rout_C h ht p hu hA hX hlen hpr3 h1 h2 h4
      · by_cases h3 : p.da = ts[t].outer
        · exact rout_D2 h ht p hu hA hX hlen hpr3 h1 h2 h3 h4
        · exact rout_D1 h ht p hu hA hX hlen hpr3 h1 h2 h3 h4
  · by_cases h3 : p.da = ts[t].outer
    · exact rout_A2 h ht p hu hA hX hlen hpr3 h1 h3
    · exact rout_A1 h ht p hu hA hX hlen hpr3 h1 h3

theorem rerr_any (h : RefR w S r tv lv ts L) {t : Nat} (ht : t < ts.length) (p : Pk) :
    Calls Try.prog 96 #[.pointer (some ⟨r, 0, none⟩), .int .i64 t, .agg (pkC p)] w fun e w' => RFin w S r tv ts L t (absM L t) (if p.out then errOutF (absT ts[t] t L) p else errInF (absT ts[t] t L) p).1 (if p.out then errOutF (absT ts[t] t L) p else errInF (absT ts[t] t L) p).2 e w' := by
  obtain ⟨tag, proto, out, sa, sp, da, dp, syn, fin, rst, err, qsa, qsp, qda, qdp⟩ := p
  unfold pkC
  dsimp only
  cases out
  · rw [if_neg (by simp)]
    unfold errInF
    dsimp only
    have ho : (absT ts[t] t L).outer = ts[t].outer := rfl
    rw [ho]
    cases hf : (absM L t).find? (isP proto qsp) with
    | none =>
      have hf' : (absT ts[t] t L).maps.find? (isP proto qsp) = none := hf
      rw [hf']
      have e : (if qsa = ts[t].outer then ((pk0, 4) : Pk × Int) else (pk0, 4)) = (pk0, 4) := by split <;> rfl
      dsimp only
      rw [e]
      refine (rerrI_none h ht tag proto sa sp da dp syn fin rst err qsa qsp qda qdp (find_none_of hf)).mono ?_
      rintro e w' ⟨rfl, hb⟩
      exact h.same hb t ⟨tag, proto, false, sa, sp, da, dp, syn, fin, rst, err, qsa, qsp, qda, qdp⟩ _ 4 (fun h0 => by cases h0)
    | some m =>
      have hf' : (absT ts[t] t L).maps.find? (isP proto qsp) = some m := hf
      rw [hf']
      obtain ⟨x, hx, rfl, hxt, hxL⟩ := find_some_of hf
      dsimp only
      by_cases hd : da = ts[t].outer
      · by_cases hq : qsa = ts[t].outer
        · rw [if_pos hq, if_pos hd]
          cases hc : x.m.peers.contains qda
          · refine (rerrI_filt h ht tag proto sa sp da dp syn fin rst err qsa qsp qda qdp hx hd hq hc).mono ?_
            rintro e w' ⟨rfl, hb⟩
            exact h.same hb t ⟨tag, proto, false, sa, sp, da, dp, syn, fin, rst, err, qsa, qsp, qda, qdp⟩ _ 5 (fun h0 => by cases h0)
          · refine (rerrI_ok h ht tag proto sa sp da dp syn fin rst err qsa qsp qda qdp hx hd hq hc).mono ?_
            rintro e w' ⟨rfl, hb⟩
            exact h.same hb t ⟨tag, proto, false, sa, sp, x.m.ia, dp, syn, fin, rst, err, x.m.ia, x.m.ip, qda, qdp⟩ _ 0 (fun _ => rfl)
        · rw [if_neg hq]
          refine (rerrI_quote h ht tag proto sa sp da dp syn fin rst err qsa qsp qda qdp hx hd hq).mono ?_
          rintro e w' ⟨rfl, hb⟩
          exact h.same hb t ⟨tag, proto, false, sa, sp, da, dp, syn, fin, rst, err, qsa, qsp, qda, qdp⟩ _ 4 (fun h0 => by cases h0)
      · rw [if_neg hd]
        have e : (if qsa = ts[t].outer then ((pk0, 4) : Pk × Int) else (pk0, 4)) = (pk0, 4) := by split <;> rfl
        rw [e]
        refine (rerrI_far h ht tag proto sa sp da dp syn fin rst err qsa qsp qda qdp hx hd).mono ?_
        rintro e w' ⟨rfl, hb⟩
        exact h.same hb t ⟨tag, proto, false, sa, sp, da, dp, syn, fin, rst, err, qsa, qsp, qda, qdp⟩ _ 4 (fun h0 => by cases h0)
  · rw [if_pos rfl]
    unfold errOutF
    dsimp only
    have ho : (absT ts[t] t L).outer = ts[t].outer := rfl
    rw [ho]
    cases hf : (absM L t).find? (isI proto qda qdp) with
    | none =>
      have hf' : (absT ts[t] t L).maps.find? (isI proto qda qdp) = none := hf
      rw [hf']
      refine (rerrO_none h ht tag proto sa sp da dp syn fin rst err qsa qsp qda qdp (findI_none_of hf)).mono ?_
      rintro e w' ⟨rfl, hb⟩
      exact h.same hb t ⟨tag, proto, true, sa, sp, da, dp, syn, fin, rst, err, qsa, qsp, qda, qdp⟩ _ 4 (fun h0 => by cases h0)
    | some m =>
      have hf' : (absT ts[t] t L).maps.find? (isI proto qda qdp) = some m := hf
      rw [hf']
      obtain ⟨x, hx, rfl, hxt, hxL⟩ := findI_some_of hf
      dsimp only
      cases hc : x.m.peers.contains qsa
      · refine (rerrO_filt h ht tag proto sa sp da dp syn fin rst err qsa qsp qda qdp hx hc).mono ?_
        rintro e w' ⟨rfl, hb⟩
        exact h.same hb t ⟨tag, proto, true, sa, sp, da, dp, syn, fin, rst, err, qsa, qsp, qda, qdp⟩ _ 5 (fun h0 => by cases h0)
      · refine (rerrO_ok h ht tag proto sa sp da dp syn fin rst err qsa qsp qda qdp hx hc).mono ?_
        rintro e w' ⟨rfl, hb⟩
        exact h.same hb t ⟨tag, proto, true, ts[t].outer, sp, da, dp, syn, fin, rst, err, qsa, qsp, ts[t].outer, x.m.port⟩ _ 0 (fun _ => rfl)

end

/-- what does not pass comes out empty -/
theorem inF_zero (T : Tn) (p : Pk) (h : (inF T p).2.2 ≠ 0) : (inF T p).2.1 = pk0 := by
  unfold inF at h ⊢
  split
  · rename_i h1
    rw [if_pos h1] at h
    split
    · rfl
    · rename_i m hm
      rw [hm] at h
      dsimp only at h ⊢
      split
      · rename_i h2
        rw [if_pos h2] at h
        exact absurd rfl h
      · rfl
  · rfl

theorem outW_zero (T : Tn) (m : Mp) (p : Pk) (h : (outW T m p).2.2 ≠ 0) : (outW T m p).2.1 = pk0 := by
  unfold outW at h ⊢
  split
  · rename_i h1
    rw [if_pos h1] at h
    exact inF_zero _ _ h
  · rename_i h1
    rw [if_neg h1] at h
    exact absurd rfl h

theorem outF_zero (T : Tn) (p : Pk) (h : (outF T p).2.2 ≠ 0) : (outF T p).2.1 = pk0 := by
  unfold outF at h ⊢
  split
  · rename_i m hm
    rw [hm] at h
    exact outW_zero _ _ _ h
  · rename_i hm
    rw [hm] at h
    dsimp only at h
    split
    · rfl
    · rename_i h1
      rw [if_neg h1] at h
      split
      · rfl
      · rename_i q hq
        rw [hq] at h
        exact outW_zero _ _ _ h

theorem errOutF_zero (T : Tn) (p : Pk) (h : (errOutF T p).2 ≠ 0) : (errOutF T p).1 = pk0 := by
  unfold errOutF at h ⊢
  split
  · rfl
  · rename_i m hm
    rw [hm] at h
    dsimp only at h
    split
    · rename_i h1
      rw [if_pos h1] at h
      exact absurd rfl h
    · rfl

theorem errInF_zero (T : Tn) (p : Pk) (h : (errInF T p).2 ≠ 0) : (errInF T p).1 = pk0 := by
  unfold errInF at h ⊢
  split
  · rename_i h0
    rw [if_pos h0] at h
    split
    · rfl
    · rename_i m hm
      rw [hm] at h
      dsimp only at h
      split
      · rename_i h1
        rw [if_pos h1] at h
        split
        · rename_i h2
          rw [if_pos h2] at h
          exact absurd rfl h
        · rfl
      · rfl
  · rfl

theorem passF_zero (T : Tn) (p : Pk) (h : (passF T p).2.2 ≠ 0) : (passF T p).2.1 = pk0 := by
  unfold passF at h ⊢
  split
  · rename_i h1
    rw [if_pos h1] at h
    split
    · rename_i h2
      rw [if_pos h2] at h
      exact errOutF_zero _ _ h
    · rename_i h2
      rw [if_neg h2] at h
      exact errInF_zero _ _ h
  · rename_i h1
    rw [if_neg h1] at h
    split
    · rename_i h2
      rw [if_pos h2] at h
      exact outF_zero _ _ h
    · rename_i h2
      rw [if_neg h2] at h
      exact inF_zero _ _ h

end Go.Proofs.Ytgpplekabohneaa

namespace Go.Proofs.Ytgpplekabohneaa
open Go.RowKit

theorem inF_kept (T : Tn) (p : Pk) : (inF T p).1.outer = T.outer ∧ (inF T p).1.low = T.low ∧ (inF T p).1.high = T.high := by
  unfold inF
  split
  · split
    · exact ⟨rfl, rfl, rfl⟩
    · dsimp only
      split <;> exact ⟨rfl, rfl, rfl⟩
  · exact ⟨rfl, rfl, rfl⟩

theorem outW_kept (T : Tn) (m : Mp) (p : Pk) : (outW T m p).1.outer = T.outer ∧ (outW T m p).1.low = T.low ∧ (outW T m p).1.high = T.high := by
  unfold outW
  split
  · exact inF_kept _ _
  · exact ⟨rfl, rfl, rfl⟩

theorem outF_kept (T : Tn) (p : Pk) : (outF T p).1.outer = T.outer ∧ (outF T p).1.low = T.low ∧ (outF T p).1.high = T.high := by
  unfold outF
  split
  · exact outW_kept _ _ _
  · split
    · exact ⟨rfl, rfl, rfl⟩
    · split
      · exact ⟨rfl, rfl, rfl⟩
      · exact outW_kept _ _ _

theorem passF_kept (T : Tn) (p : Pk) : (passF T p).1.outer = T.outer ∧ (passF T p).1.low = T.low ∧ (passF T p).1.high = T.high := by
  unfold passF
  split
  · split <;> exact ⟨rfl, rfl, rfl⟩
  · split
    · exact outF_kept _ _
    · exact inF_kept _ _

section
variable {w : World} {S : Nat → Prop} {r : Nat} {tv lv : Value} {ts : List Ten} {L : List RCl}

theorem absB_len (ts : List Ten) (L : List RCl) : (absB ts L).length = ts.length := by
  unfold absB
  simp

theorem absB_at (ts : List Ten) (L : List RCl) (i : Nat) (h : i < (absB ts L).length) : (absB ts L)[i] = ((ts[i]'(by rw [← absB_len ts L]; exact h)).tag, absT (ts[i]'(by rw [← absB_len ts L]; exact h)) i L) := by
  simp [absB]

theorem place_none {tag : Int} (h : placeF ts tag = none) : (absB ts L).find? (isT tag) = none := by
  refine find_nowhere (fun i hi => ?_)
  rw [absB_at]
  unfold placeF at h
  rw [List.findIdx?_eq_none_iff] at h
  exact h _ (List.getElem_mem _)

theorem place_some {tag : Int} {t : Nat} (h : placeF ts tag = some t) : ∃ ht : t < ts.length, ts[t].tag = tag ∧ (absB ts L).find? (isT tag) = some (ts[t].tag, absT ts[t] t L) := by
  unfold placeF at h
  rw [List.findIdx?_eq_some_iff_getElem] at h
  obtain ⟨ht, h1, h2⟩ := h
  refine ⟨ht, by simpa using h1, ?_⟩
  have hj : t < (absB ts L).length := by rw [absB_len]; exact ht
  rw [← absB_at ts L t hj]
  refine find_first hj ?_ (fun i hi hlt => ?_)
  · rw [absB_at]
    exact h1
  · rw [absB_at]
    have := h2 i hlt
    simpa [isT] using this

theorem put_abs {L' : List RCl} {t : Nat} (ht : t < ts.length) (hd : ts.Pairwise fun x y => x.tag ≠ y.tag) {T : Tn} (hT : T.outer = ts[t].outer ∧ T.low = ts[t].low ∧ T.high = ts[t].high) (hm : absM L' t = T.maps) (ho : ∀ j, j ≠ t → absM L' j = absM L j) : putT (absB ts L) ts[t].tag T = absB ts L' := by
  refine List.ext_getElem (by unfold putT; rw [List.length_map, absB_len, absB_len]) (fun i h1 h2 => ?_)
  have hi : i < ts.length := by rw [absB_len] at h2; exact h2
  rw [absB_at]
  have hput : (putT (absB ts L) ts[t].tag T)[i] = if isT ts[t].tag ((absB ts L)[i]'(by rw [absB_len]; exact hi)) then (((absB ts L)[i]'(by rw [absB_len]; exact hi)).1, T) else (absB ts L)[i]'(by rw [absB_len]; exact hi) := List.getElem_map ..
  rw [hput, absB_at]
  by_cases e : i = t
  · subst e
    have hk : isT ts[i].tag (ts[i].tag, absT ts[i] i L) = true := by simp [isT]
    rw [if_pos hk]
    have : T = absT ts[i] i L' := by
      obtain ⟨a, b, c, d⟩ := T
      obtain ⟨e1, e2, e3⟩ := hT
      dsimp only at e1 e2 e3 hm
      unfold absT
      rw [e1, e2, e3, hm]
    rw [this]
  · have hne : ts[i].tag ≠ ts[t].tag := by
      rcases Nat.lt_or_gt_of_ne e with hl | hl
      · exact List.pairwise_iff_getElem.1 hd i t hi ht hl
      · exact (List.pairwise_iff_getElem.1 hd t i ht hi hl).symm
    have hk : isT ts[t].tag (ts[i].tag, absT ts[i] i L) = false := by simpa [isT] using hne
    rw [if_neg (by rw [hk]; simp)]
    unfold absT
    rw [ho i e]

/-- what a call of Pass leaves -/
def PFin (w : World) (S : Nat → Prop) (r : Nat) (tv : Value) (ts : List Ten) (L : List RCl) (t : Nat) (ms : List Mp) (q0 : Pk) (v : Int) (e : Ending) (w' : World) : Prop :=
  ∃ L' lv', e = .returned (.tuple #[.agg (pkC q0), .int .i64 v, .int .i64 0]) ∧ RefR w' (grow S w w') r tv lv' ts L' ∧ Fr S w w' ∧ absM L' t = ms ∧ (∀ j, j ≠ t → absM L' j = absM L j)

/-- between the choice of a way and the answer: the packet's block, the answer's, the empty packet's; the box -/
def PMid (w : World) (S : Nat → Prop) (r : Nat) (tv : Value) (ts : List Ten) (L : List RCl) (t : Nat) (ms : List Mp) (q : Pk) (wx : World) : Prop :=
  (wx.heap[w.heap.size]? = some (.cells (pkC q) 38 (0, 0)) ∧ wx.heap[w.heap.size + 1]? = some (.cells (pkC pk0) 38 (0, 0)) ∧ wx.heap[w.heap.size + 1 + 1]? = some (.cells (pkC pk0) 38 (0, 0))) ∧
    ∃ L' lv', RefR wx (fun k => S k ∨ (w.heap.size + 3 ≤ k ∧ k < wx.heap.size)) r tv lv' ts L' ∧ Fr S w wx ∧ absM L' t = ms ∧ (∀ j, j ≠ t → absM L' j = absM L j)

theorem PMid.put {t : Nat} {ms : List Mp} {q q' : Pk} {wx wy : World} (hSb : ∀ k, S k → k < w.heap.size) (h : PMid w S r tv ts L t ms q wx) (hF : Fr (fun k => k = w.heap.size) wx wy) (hb : wy.heap[w.heap.size]? = some (.cells (pkC q') 38 (0, 0))) : PMid w S r tv ts L t ms q' wy := by
  obtain ⟨⟨h1, h2, h3⟩, L', lv', h4, h5, h6, h7⟩ := h
  have hsz := hF.size
  refine ⟨⟨hb, hF.some h2 (by omega), hF.some h3 (by omega)⟩, L', lv', (h4.keep hF (fun k hk => ?_)).mono (fun k hk => ?_) (fun k hk => ?_), h5.trans' hF (fun k hk hl => by omega), h6, h7⟩
  · rcases hk with hk | hk
    · have := hSb k hk
      omega
    · omega
  · rcases hk with hk | hk
    · exact .inl hk
    · exact .inr ⟨hk.1, by omega⟩
  · rcases hk with hk | hk
    · have := hSb k hk
      have := h5.size
      omega
    · exact hk.2

theorem PMid.of {t : Nat} {ms : List Mp} {q0 p : Pk} {v : Int} {w1 w5 : World} {e : Ending} (hSb : ∀ k, S k → k < w.heap.size) (hb1 : Below w.heap.size w w1) (hK : w1.heap[w.heap.size]? = some (.cells (pkC p) 38 (0, 0)) ∧ w1.heap[w.heap.size + 1]? = some (.cells (pkC pk0) 38 (0, 0)) ∧ w1.heap[w.heap.size + 1 + 1]? = some (.cells (pkC pk0) 38 (0, 0))) (h : RFin w1 S r tv ts L t ms q0 v e w5) :
    ∃ q, e = .returned (.tuple #[.agg (pkC q), .int .i64 v]) ∧ (v = 0 → q = q0) ∧ PMid w S r tv ts L t ms p w5 := by
  obtain ⟨q, L', lv', rfl, hR, hF, ha, ho, hq⟩ := h
  have hl3 : w.heap.size + 1 + 1 < w1.heap.size := (Array.getElem?_eq_some_iff.1 hK.2.2).1
  have hsz := hF.size
  have hn : ∀ k, w.heap.size ≤ k → ¬ S k := fun k hk hs => by
    have := hSb k hs
    omega
  refine ⟨q, rfl, hq, ⟨hF.some hK.1 (hn _ (Nat.le_refl _)), hF.some hK.2.1 (hn _ (by omega)), hF.some hK.2.2 (hn _ (by omega))⟩, L', lv', hR.mono (fun k hk => ?_) (fun k hk => ?_), (Fr.of_below hb1).trans hF, ha, ho⟩
  · rcases hk with hk | hk
    · exact .inl hk
    · exact .inr ⟨by omega, hk.2⟩
  · rcases hk with hk | hk
    · have := hSb k hk
      omega
    · exact hk.2

theorem PMid.fin {t : Nat} {ms : List Mp} {q0 : Pk} {v : Int} {wx W : World} (hSb : ∀ k, S k → k < w.heap.size) (h : PMid w S r tv ts L t ms q0 wx) (hW : Fr (fun k => k = w.heap.size + 1) wx W) : PFin w S r tv ts L t ms q0 v (.returned (.tuple #[.agg (pkC q0), .int .i64 v, .int .i64 0])) W := by
  obtain ⟨⟨h1, h2, h3⟩, L', lv', h4, h5, h6, h7⟩ := h
  have hsz := hW.size
  refine ⟨L', lv', rfl, (h4.keep hW (fun k hk => ?_)).mono (fun k hk => ?_) (fun k hk => ?_), h5.trans' hW (fun k hk hl => by omega), h6, h7⟩
  · rcases hk with hk | hk
    · have := hSb k hk
      omega
    · omega
  · rcases hk with hk | hk
    · exact .inl hk
    · exact .inr ⟨by omega, by omega⟩
  · rcases hk with hk | hk
    · have := hSb k hk
      have := h5.size
      omega
    · exact hk.2

theorem pk_put {wx : World} {n : Nat} {p : Pk} (q : Pk) (h : wx.heap[n]? = some (.cells (pkC p) 38 (0, 0))) : (((((((((((((((wx.setCell ⟨n, 0, none⟩ (.int .i64 q.tag)).setCell ⟨n, 1, none⟩ (.int .i64 q.proto)).setCell ⟨n, 2, none⟩ (.bool q.out)).setCell ⟨n, 3, none⟩ (.int .i64 q.sa)).setCell ⟨n, 4, none⟩ (.int .i64 q.sp)).setCell ⟨n, 5, none⟩ (.int .i64 q.da)).setCell ⟨n, 6, none⟩ (.int .i64 q.dp)).setCell ⟨n, 7, none⟩ (.bool q.syn)).setCell ⟨n, 8, none⟩ (.bool q.fin)).setCell ⟨n, 9, none⟩ (.bool q.rst)).setCell ⟨n, 10, none⟩ (.bool q.err)).setCell ⟨n, 11, none⟩ (.int .i64 q.qsa)).setCell ⟨n, 12, none⟩ (.int .i64 q.qsp)).setCell ⟨n, 13, none⟩ (.int .i64 q.qda)).setCell ⟨n, 14, none⟩ (.int .i64 q.qdp)).heap[n]? = some (.cells (pkC q) 38 (0, 0)) := by
  have h1 := setB (setB (setB (setB (setB (setB (setB (setB (setB (setB (setB (setB (setB (setB (setB h 0 (.int .i64 q.tag)) 1 (.int .i64 q.proto)) 2 (.bool q.out)) 3 (.int .i64 q.sa)) 4 (.int .i64 q.sp)) 5 (.int .i64 q.da)) 6 (.int .i64 q.dp)) 7 (.bool q.syn)) 8 (.bool q.fin)) 9 (.bool q.rst)) 10 (.bool q.err)) 11 (.int .i64 q.qsa)) 12 (.int .i64 q.qsp)) 13 (.int .i64 q.qda)) 14 (.int .i64 q.qdp)
  rw [h1]
  simp only [pkC, List.setIfInBounds_toArray, List.set_cons_zero, List.set_cons_succ]

end

end Go.Proofs.Ytgpplekabohneaa
