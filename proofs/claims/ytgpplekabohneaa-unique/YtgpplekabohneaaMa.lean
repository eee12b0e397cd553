/- What holds of the boxes of 'box', whatever they meet. -/
import Derived.Test.YtgpplekabohneaaRy
import Derived.Test.YtgpplekabohneaaZa
namespace Go.Proofs.Ytgpplekabohneaa
open Go.RowKit

theorem useF_mem {l : List Int} {a x : Int} (h : x ∈ useF l a) : x = a ∨ x ∈ l := by
  have h1 : ∀ y, y ∈ l.erase a ++ [a] → y = a ∨ y ∈ l := fun y hy => by
    rcases List.mem_append.1 hy with hy | hy
    · exact .inr (List.mem_of_mem_erase hy)
    · exact .inl (by simpa using hy)
  unfold useF at h
  split at h
  · exact h1 x (List.mem_of_mem_eraseIdx h)
  · exact h1 x h

theorem useF_has (l : List Int) (a : Int) : a ∈ useF l a := by
  unfold useF
  cases hl : l.erase a with
  | nil => simp
  | cons y r =>
    split
    · show a ∈ r ++ [a]
      simp
    · simp

theorem marksF_st {m : Mp} (h : 0 < m.st) (a b c d : Bool) : 0 < (marksF m a b c d).st := by
  unfold marksF
  dsimp only
  repeat' split
  all_goals first
    | exact h
    | exact (by decide : (0 : Int) < 1)
    | exact (by decide : (0 : Int) < 2)
    | exact (by decide : (0 : Int) < 3)

/-- what holds of a mapping besides: its peers lie low, there is one; its state -/
def pM (m : Mp) : Prop := (∀ a ∈ m.peers, a ≤ 3000) ∧ 1 ≤ m.peers.length ∧ (m.proto = 2 ↔ 0 < m.st)

structure InvT (t s : Int) (T : Tn) : Prop where
  outer : T.outer = 1000 * t
  low : T.low = 100
  high : T.high = 99 + s
  pm : ∀ m ∈ T.maps, pM m

theorem setM_mem {l : List Mp} {m y : Mp} (h : y ∈ setM l m) : y = m ∨ (y ∈ l ∧ isP m.proto m.port y = false) := by
  obtain ⟨z, hz, rfl⟩ := List.mem_map.1 h
  by_cases e : isP m.proto m.port z = true
  · rw [if_pos e]
    exact .inl rfl
  · rw [if_neg e]
    exact .inr ⟨hz, by simpa using e⟩

theorem mem_setM {l : List Mp} {m x : Mp} (hx : x ∈ l) (h1 : x.proto = m.proto) (h2 : x.port = m.port) : m ∈ setM l m := by
  refine List.mem_map.2 ⟨x, hx, ?_⟩
  rw [if_pos (isP_iff.2 ⟨h1, h2⟩)]

theorem InvT.inF {t s : Int} {T : Tn} (h : InvT t s T) (p : Pk) : InvT t s (inF T p).1 := by
  unfold Ytgpplekabohneaa.inF
  split
  · split
    · exact h
    · rename_i m hm
      split
      · have hmm := List.mem_of_find?_eq_some hm
        have hk := isP_iff.1 (List.find?_some hm)
        by_cases hp : p.proto = 2
        · refine ⟨h.outer, h.low, h.high, fun y hy => ?_⟩
          have hy' : y ∈ setM T.maps { marksF m p.out p.syn p.fin p.rst with idle := 0 } := by rw [if_pos hp] at hy; exact hy
          rcases setM_mem hy' with rfl | ⟨hy, _⟩
          · obtain ⟨a1, a2, a3⟩ := h.pm m hmm
            have e1 := marksF_peers m p.out p.syn p.fin p.rst
            refine ⟨?_, ?_, ?_⟩
            · show ∀ a ∈ (marksF m p.out p.syn p.fin p.rst).peers, a ≤ 3000
              rw [e1]
              exact a1
            · show 1 ≤ (marksF m p.out p.syn p.fin p.rst).peers.length
              rw [e1]
              exact a2
            · show (marksF m p.out p.syn p.fin p.rst).proto = 2 ↔ 0 < (marksF m p.out p.syn p.fin p.rst).st
              have e2 := (marksF_same m p.out p.syn p.fin p.rst).1
              have e3 := marksF_st (a3.1 (hk.1.trans hp)) p.out p.syn p.fin p.rst
              exact ⟨fun _ => e3, fun _ => e2.trans (hk.1.trans hp)⟩
          · exact h.pm y hy
        · refine ⟨h.outer, h.low, h.high, fun y hy => ?_⟩
          have hy' : y ∈ T.maps := by rw [if_neg hp] at hy; exact hy
          exact h.pm y hy'
      · exact h
  · exact h

theorem useM_proto (m : Mp) (p : Pk) : (useM m p).proto = m.proto := by
  unfold useM
  split
  · exact (marksF_same _ _ _ _ _).1
  · rfl

theorem useM_pM {m : Mp} {p : Pk} (h1 : ∀ a ∈ m.peers, a ≤ 3000) (h2 : m.proto = 2 ↔ 0 < m.st) (hp : m.proto = p.proto) (hd : p.da ≤ 3000) : pM (useM m p) := by
  refine ⟨?_, ?_, ?_⟩
  · rw [useM_peers]
    intro a ha
    rcases useF_mem ha with rfl | ha
    · exact hd
    · exact h1 a ha
  · rw [useM_peers]
    exact List.length_pos_of_mem (useF_has _ _)
  · rw [useM_proto]
    unfold useM
    split
    · rename_i e
      exact ⟨fun _ => marksF_st (m := { m with peers := useF m.peers p.da, idle := 0 }) (h2.1 (hp.trans e)) _ _ _ _, fun _ => hp.trans e⟩
    · exact h2

theorem outW_inv {t s : Int} {T : Tn} {m : Mp} {p : Pk} (ho : T.outer = 1000 * t) (hl : T.low = 100) (hh : T.high = 99 + s) (hall : ∀ y ∈ T.maps, isP m.proto m.port y = false → pM y) (h1 : ∀ a ∈ m.peers, a ≤ 3000) (h2 : m.proto = 2 ↔ 0 < m.st) (hp : m.proto = p.proto) (hd : p.da ≤ 3000) : InvT t s (outW T m p).1 := by
  have key : InvT t s { T with maps := setM T.maps (useM m p) } := by
    refine ⟨ho, hl, hh, fun y hy => ?_⟩
    rcases setM_mem hy with rfl | ⟨hy, hn⟩
    · exact useM_pM h1 h2 hp hd
    · have hs := useM_same m p
      rw [hs.1, hs.2.2.2] at hn
      exact hall y hy hn
  unfold outW
  split
  · exact key.inF _
  · exact key

theorem outF_inv {t s : Int} {T : Tn} (h : InvT t s T) {p : Pk} (hd : p.da ≤ 3000) : InvT t s (outF T p).1 := by
  unfold outF
  split
  · rename_i m hm
    have hk := isI_iff.1 (List.find?_some hm)
    obtain ⟨a1, a2, a3⟩ := h.pm m (List.mem_of_find?_eq_some hm)
    exact outW_inv h.outer h.low h.high (fun y hy _ => h.pm y hy) a1 a3 hk.1 hd
  · split
    · exact h
    · split
      · exact h
      · rename_i q hq
        refine outW_inv h.outer h.low h.high (fun y hy hn => ?_) (by simp [newM]) ?_ rfl hd
        · rcases List.mem_append.1 hy with hy | hy
          · exact h.pm y hy
          · have : y = newM p.proto p.sa p.sp q := by simpa using hy
            subst this
            rw [isP_iff.2 ⟨rfl, rfl⟩] at hn
            cases hn
        · show p.proto = 2 ↔ 0 < (if p.proto = 2 then (1 : Int) else 0)
          split
          · rename_i e
            exact ⟨fun _ => by decide, fun _ => e⟩
          · rename_i e
            exact ⟨fun x => absurd x e, fun x => absurd x (by decide)⟩

theorem passF_inv {t s : Int} {T : Tn} (h : InvT t s T) {p : Pk} (hd : p.out = true → p.da ≤ 3000) : InvT t s (passF T p).1 := by
  unfold passF
  split
  · split <;> exact h
  · split
    · rename_i e
      exact outF_inv h (hd e)
    · exact h.inF p

theorem tickF_inv {t s : Int} {T : Tn} (h : InvT t s T) (n : Int) : InvT t s (tickF n T) := by
  refine ⟨h.outer, h.low, h.high, fun y hy => ?_⟩
  obtain ⟨m, hm, e⟩ := List.mem_filterMap.1 hy
  unfold tickM at e
  split at e
  · cases e
    exact h.pm m hm
  · cases e

/-- .. of a box -/
structure InvB (s : Int) (B : List (Int × Tn)) : Prop where
  tags : B.map (·.1) = [1, 2, 3]
  ten : ∀ x ∈ B, InvT x.1 s x.2

theorem InvB.start (s : Int) : InvB s (boxB (99 + s)) := by
  refine ⟨rfl, fun x hx => ?_⟩
  rcases List.mem_cons.1 hx with rfl | hx
  · exact ⟨rfl, rfl, rfl, fun m hm => by cases hm⟩
  · rcases List.mem_cons.1 hx with rfl | hx
    · exact ⟨rfl, rfl, rfl, fun m hm => by cases hm⟩
    · rcases List.mem_cons.1 hx with rfl | hx
      · exact ⟨rfl, rfl, rfl, fun m hm => by cases hm⟩
      · cases hx

theorem isT_iff {t : Int} {x : Int × Tn} : isT t x = true ↔ x.1 = t := by simp [isT]

theorem InvB.find {s : Int} {B : List (Int × Tn)} (h : InvB s B) {t : Int} (h1 : 1 ≤ t) (h3 : t ≤ 3) : ∃ T, B.find? (isT t) = some (t, T) ∧ InvT t s T := by
  have hm : t ∈ B.map (·.1) := by
    rw [h.tags]
    have : t = 1 ∨ t = 2 ∨ t = 3 := by omega
    rcases this with rfl | rfl | rfl <;> simp
  obtain ⟨x, hx, he⟩ := List.mem_map.1 hm
  cases hf : B.find? (isT t) with
  | none => exact absurd (isT_iff.2 he) (by simpa using List.find?_eq_none.1 hf x hx)
  | some y =>
    have hy := isT_iff.1 (List.find?_some hf)
    have hi := h.ten y (List.mem_of_find?_eq_some hf)
    obtain ⟨a, T⟩ := y
    cases hy
    exact ⟨T, rfl, hi⟩

theorem putT_tags (B : List (Int × Tn)) (t : Int) (T : Tn) : (putT B t T).map (·.1) = B.map (·.1) := by
  unfold putT
  rw [List.map_map]
  refine List.map_congr_left (fun x _ => ?_)
  show (if isT t x then (x.1, T) else x).1 = x.1
  split <;> rfl

theorem InvB.put {s : Int} {B : List (Int × Tn)} (h : InvB s B) {t : Int} {T : Tn} (hT : InvT t s T) : InvB s (putT B t T) := by
  refine ⟨(putT_tags B t T).trans h.tags, fun x hx => ?_⟩
  obtain ⟨y, hy, rfl⟩ := List.mem_map.1 hx
  by_cases e : isT t y = true
  · rw [if_pos e]
    have := isT_iff.1 e
    rw [this]
    exact hT
  · rw [if_neg e]
    exact h.ten y hy

theorem passB_eq {B : List (Int × Tn)} {p : Pk} {T : Tn} (hg : goodB p = true) (hf : B.find? (isT p.tag) = some (p.tag, T)) : passB B p = (putT B p.tag (passF T p).1, (passF T p).2.1, (passF T p).2.2, 0) := by
  unfold passB
  rw [if_pos hg, hf]

theorem InvB.pass {s : Int} {B : List (Int × Tn)} (h : InvB s B) {p : Pk} (hg : goodB p = true) (ht : 1 ≤ p.tag ∧ p.tag ≤ 3) (hd : p.out = true → p.da ≤ 3000) : InvB s (passB B p).1 := by
  obtain ⟨T, hf, hT⟩ := h.find ht.1 ht.2
  rw [passB_eq hg hf]
  exact h.put (passF_inv hT hd)

theorem InvB.tick {s : Int} {B : List (Int × Tn)} (h : InvB s B) (n : Int) : InvB s (tickB n B) := by
  unfold tickB
  refine ⟨by rw [List.map_map]; exact h.tags, fun x hx => ?_⟩
  obtain ⟨y, hy, rfl⟩ := List.mem_map.1 hx
  exact tickF_inv (h.ten y hy) n

theorem find_putT {t : Int} {T T' : Tn} : ∀ {B : List (Int × Tn)}, B.find? (isT t) = some (t, T) → (putT B t T').find? (isT t) = some (t, T')
  | [], h => by cases h
  | x :: r, h => by
    unfold putT
    rw [List.map_cons]
    by_cases e : isT t x = true
    · have hx := isT_iff.1 e
      rw [if_pos e, List.find?_cons_of_pos (by simpa [isT] using hx), hx]
    · rw [List.find?_cons_of_neg e] at h
      rw [if_neg e, List.find?_cons_of_neg e]
      exact find_putT h

theorem find_putT_ne {t u : Int} {T : Tn} (hne : u ≠ t) : ∀ B : List (Int × Tn), (putT B t T).find? (isT u) = B.find? (isT u)
  | [] => rfl
  | x :: r => by
    have ih := find_putT_ne (T := T) hne r
    unfold putT at ih ⊢
    rw [List.map_cons, List.find?_cons, List.find?_cons, ih]
    by_cases e : isT t x = true
    · have hx := isT_iff.1 e
      rw [if_pos e]
      have e1 : isT u (x.1, T) = false := by simpa [isT, hx] using fun h : t = u => hne h.symm
      have e2 : isT u x = false := by simpa [isT, hx] using fun h : t = u => hne h.symm
      rw [e1, e2]
    · rw [if_neg e]

theorem find_tickB {n t : Int} {T : Tn} : ∀ {B : List (Int × Tn)}, B.find? (isT t) = some (t, T) → (tickB n B).find? (isT t) = some (t, tickF n T)
  | [], h => by cases h
  | x :: r, h => by
    unfold tickB
    rw [List.map_cons]
    by_cases e : isT t x = true
    · have hx := isT_iff.1 e
      rw [List.find?_cons_of_pos e] at h
      cases h
      rw [List.find?_cons_of_pos (by simp [isT])]
    · rw [List.find?_cons_of_neg e] at h
      rw [List.find?_cons_of_neg (by simpa [isT] using e)]
      exact find_tickB h

theorem BoxR.good {w : World} {F : Nat → Prop} {b : Nat} {B : List (Int × Tn)} (h : BoxR w F b B) : ∀ x ∈ B, GoodT x.2 := by
  obtain ⟨r, C, h1, rfl, _⟩ := h
  intro x hx
  obtain ⟨c, hc, rfl⟩ := List.mem_map.1 hx
  exact (h1.ten c hc).1.good

end Go.Proofs.Ytgpplekabohneaa
