/- The table: its order, what is in it; the lowest free port. -/
import Derived.Test.YtgpplekabohneaaMb
namespace Go.Proofs.Ytgpplekabohneaa
open Go.RowKit

theorem len_le {α : Type} : ∀ {l l' : List α}, l.Nodup → (∀ x ∈ l, x ∈ l') → l.length ≤ l'.length
  | [], _, _, _ => Nat.zero_le _
  | x :: r, l', hn, hs => by
    obtain ⟨h1, h2⟩ := List.nodup_cons.1 hn
    obtain ⟨s, t, rfl⟩ := List.append_of_mem (hs x (.head _))
    have := len_le (l := r) (l' := s ++ t) h2 (fun y hy => by
      have := hs y (.tail _ hy)
      simp only [List.mem_append, List.mem_cons] at this ⊢
      rcases this with h | rfl | h
      · exact .inl h
      · exact absurd hy h1
      · exact .inr h)
    simp only [List.length_append, List.length_cons] at this ⊢
    omega

theorem mem_rowF {l : List Mp} {p : Int} {m : Mp} : ∀ {n : Nat} {q : Int}, m ∈ rowF l p n q → m ∈ l ∧ m.proto = p ∧ q ≤ m.port ∧ m.port < q + n
  | 0, _, h => by cases h
  | n + 1, q, h => by
    rw [rowF] at h
    rcases List.mem_append.1 h with h | h
    · split at h
      · rename_i x hx
        have e : m = x := by simpa using h
        subst e
        have := isP_iff.1 (List.find?_some hx)
        exact ⟨List.mem_of_find?_eq_some hx, this.1, by omega, by omega⟩
      · cases h
    · have := mem_rowF h
      exact ⟨this.1, this.2.1, by omega, by omega⟩

theorem rowF_mem {l : List Mp} (hl : l.Pairwise apartM) {p : Int} {m : Mp} (hm : m ∈ l) (hp : m.proto = p) : ∀ {n : Nat} {q : Int}, q ≤ m.port → m.port < q + n → m ∈ rowF l p n q
  | 0, _, h1, h2 => by omega
  | n + 1, q, h1, h2 => by
    rw [rowF]
    by_cases e : m.port = q
    · rw [findP_of hl hm hp e]
      exact List.mem_append.2 (.inl (by simp))
    · exact List.mem_append.2 (.inr (rowF_mem hl hm hp (by omega) (by omega)))

def ltM (a b : Mp) : Prop := a.proto < b.proto ∨ (a.proto = b.proto ∧ a.port < b.port)

theorem rowF_sorted (l : List Mp) (p : Int) : ∀ (n : Nat) (q : Int), (rowF l p n q).Pairwise ltM
  | 0, _ => .nil
  | n + 1, q => by
    rw [rowF, List.pairwise_append]
    refine ⟨?_, rowF_sorted l p n (q + 1), fun a ha b hb => ?_⟩
    · split
      · exact List.pairwise_singleton _ _
      · exact .nil
    · have h2 := mem_rowF hb
      split at ha
      · rename_i x hx
        have e : a = x := by simpa using ha
        subst e
        have h1 := isP_iff.1 (List.find?_some hx)
        exact .inr ⟨h1.1.trans h2.2.1.symm, by omega⟩
      · cases ha

theorem tableF_sorted (T : Tn) : (tableF T).Pairwise ltM := by
  unfold tableF
  have key : ∀ {p p' : Int} {n n' : Nat} {q q' : Int}, p < p' → ∀ a ∈ rowF T.maps p n q, ∀ b ∈ rowF T.maps p' n' q', ltM a b := fun h a ha b hb => .inl (by
    rw [(mem_rowF ha).2.1, (mem_rowF hb).2.1]
    exact h)
  rw [List.pairwise_append, List.pairwise_append]
  refine ⟨rowF_sorted _ _ _ _, ⟨rowF_sorted _ _ _ _, rowF_sorted _ _ _ _, key (by decide)⟩, fun a ha b hb => ?_⟩
  rcases List.mem_append.1 hb with hb | hb
  · exact key (by decide) a ha b hb
  · exact key (by decide) a ha b hb

theorem table_mem {T : Tn} (hG : GoodT T) {m : Mp} : m ∈ tableF T ↔ m ∈ T.maps := by
  unfold tableF
  constructor
  · intro h
    rcases List.mem_append.1 h with h | h
    · exact (mem_rowF h).1
    · rcases List.mem_append.1 h with h | h
      · exact (mem_rowF h).1
      · exact (mem_rowF h).1
  · intro h
    obtain ⟨h1, h2, h3, h4, _⟩ := hG.ok m h
    have hle := hG.le
    have e : ∀ p : Int, m.proto = p → m ∈ rowF T.maps p (T.high + 1 - T.low).toNat T.low := fun p hp => rowF_mem hG.apart h hp h3 (by omega)
    have : m.proto = 1 ∨ m.proto = 2 ∨ m.proto = 3 := by omega
    rcases this with hp | hp | hp
    · exact List.mem_append.2 (.inl (e 1 hp))
    · exact List.mem_append.2 (.inr (List.mem_append.2 (.inl (e 2 hp))))
    · exact List.mem_append.2 (.inr (List.mem_append.2 (.inr (e 3 hp))))

theorem table_len {T : Tn} (hG : GoodT T) : (tableF T).length = T.maps.length := by
  have n1 : (tableF T).Nodup := (tableF_sorted T).imp (fun {a b} h e => by
    subst e
    unfold ltM at h
    omega)
  have n2 : T.maps.Nodup := hG.apart.imp (fun {a b} h e => by
    subst e
    exact h.1 ⟨rfl, rfl⟩)
  have h1 := len_le n1 (fun x hx => (table_mem hG).1 hx)
  have h2 := len_le n2 (fun x hx => (table_mem hG).2 hx)
  omega

/-- the port that the statement reckons -/
def portL (p : Int) (l : List Mp) (q : Int) : Int := l.foldl (fun q m => if m.proto = p ∧ m.port = q then q + 1 else q) q

theorem portL_append (p : Int) (a b : List Mp) (q : Int) : portL p (a ++ b) q = portL p b (portL p a q) := by
  unfold portL
  rw [List.foldl_append]

theorem portL_snoc (p : Int) (l : List Mp) (q : Int) (j : Nat) (h : j < l.length) : portL p (l.take (j + 1)) q = if l[j].proto = p ∧ l[j].port = portL p (l.take j) q then portL p (l.take j) q + 1 else portL p (l.take j) q := by
  rw [List.take_succ_eq_append_getElem h, portL_append]
  rfl

theorem portL_skip {p : Int} {q : Int} : ∀ {l : List Mp}, (∀ m ∈ l, ¬ (m.proto = p ∧ m.port = q)) → portL p l q = q
  | [], _ => rfl
  | m :: r, h => by
    have := portL_skip (p := p) (q := q) (l := r) (fun x hx => h x (.tail _ hx))
    unfold portL at this ⊢
    rw [List.foldl_cons, if_neg (h m (.head _))]
    exact this

theorem portL_row {l : List Mp} {p : Int} : ∀ {n : Nat} {q r : Int}, freeF l p n q = some r → portL p (rowF l p n q) q = r
  | 0, _, _, h => by cases h
  | n + 1, q, r, h => by
    rw [freeF] at h
    rw [rowF]
    cases hf : l.find? (isP p q) with
    | none =>
      rw [hf] at h
      simp only [Option.isSome_none, Bool.false_eq_true, if_false] at h
      cases h
      rw [List.nil_append]
      exact portL_skip (fun m hm hc => by have := mem_rowF hm; omega)
    | some m =>
      rw [hf] at h
      simp only [Option.isSome_some, if_true] at h
      have hk := isP_iff.1 (List.find?_some hf)
      rw [portL_append]
      have e : portL p [m] q = q + 1 := by
        unfold portL
        rw [List.foldl_cons, if_pos hk]
        rfl
      dsimp only
      rw [e]
      exact portL_row h

theorem portL_table {T : Tn} {p r : Int} (hp : 1 ≤ p ∧ p ≤ 3) (h : freeF T.maps p (T.high + 1 - T.low).toNat T.low = some r) : portL p (tableF T) T.low = r := by
  have key : ∀ {p' : Int} {n : Nat} {q q' : Int}, p' ≠ p → portL p (rowF T.maps p' n q) q' = q' := fun hne => portL_skip (fun m hm hc => hne (by rw [← (mem_rowF hm).2.1, hc.1]))
  unfold tableF
  rw [portL_append, portL_append]
  have : p = 1 ∨ p = 2 ∨ p = 3 := by omega
  rcases this with rfl | rfl | rfl
  · rw [portL_row h, key (by decide), key (by decide)]
  · rw [key (p' := 1) (by decide), portL_row h, key (by decide)]
  · rw [key (p' := 1) (by decide), key (p' := 2) (by decide), portL_row h]

theorem setM_len (l : List Mp) (m : Mp) : (setM l m).length = l.length := by
  unfold setM
  rw [List.length_map]

theorem setM_keeps {l : List Mp} {m x y : Mp} (hx : x ∈ l) (hs : sameK m y) (hl : l.Pairwise apartM) (hy : y ∈ l) : ∃ x' ∈ setM l m, sameK x' x := by
  refine ⟨_, List.mem_map.2 ⟨x, hx, rfl⟩, ?_⟩
  split
  · rename_i e
    have hk := isP_iff.1 e
    have : x = y := apart_mem hl hx hy (.inl ⟨hk.1.trans hs.1, hk.2.trans hs.2.2.2⟩)
    rw [this]
    exact hs
  · exact ⟨rfl, rfl, rfl, rfl⟩

theorem inF_len (T : Tn) (p : Pk) : (inF T p).1.maps.length = T.maps.length := by
  unfold inF
  split
  · split
    · rfl
    · split
      · dsimp only
        split
        · exact setM_len _ _
        · rfl
      · rfl
  · rfl

theorem inF_keeps {T : Tn} (hl : T.maps.Pairwise apartM) {x : Mp} (hx : x ∈ T.maps) (p : Pk) : ∃ x' ∈ (inF T p).1.maps, sameK x' x := by
  unfold inF
  split
  · split
    · exact ⟨x, hx, rfl, rfl, rfl, rfl⟩
    · rename_i m hm
      split
      · dsimp only
        split
        · have hs := marksF_same m p.out p.syn p.fin p.rst
          exact setM_keeps hx (y := m) hs hl (List.mem_of_find?_eq_some hm)
        · exact ⟨x, hx, rfl, rfl, rfl, rfl⟩
      · exact ⟨x, hx, rfl, rfl, rfl, rfl⟩
  · exact ⟨x, hx, rfl, rfl, rfl, rfl⟩

theorem outW_len (T : Tn) (m : Mp) (p : Pk) : (outW T m p).1.maps.length = T.maps.length := by
  unfold outW
  split
  · rw [inF_len]
    exact setM_len _ _
  · exact setM_len _ _

theorem outW_keeps {T : Tn} (hl : T.maps.Pairwise apartM) {m : Mp} (hm : m ∈ T.maps) (p : Pk) : ∃ x ∈ (outW T m p).1.maps, sameK x m := by
  have hs := useM_same m p
  have h1 : useM m p ∈ setM T.maps (useM m p) := mem_setM hm hs.1.symm hs.2.2.2.symm
  unfold outW
  split
  · obtain ⟨x, hx, hk⟩ := inF_keeps (T := { T with maps := setM T.maps (useM m p) }) (setM_apart hl ⟨m, hm, hs⟩) h1 { p with sa := T.outer, sp := m.port, out := false }
    exact ⟨x, hx, hk.1.trans hs.1, hk.2.1.trans hs.2.1, hk.2.2.1.trans hs.2.2.1, hk.2.2.2.trans hs.2.2.2⟩
  · exact ⟨_, h1, hs⟩

/-- what a packet may add: one mapping, at the lowest free port -/
def Adds (T T' : Tn) (p q : Pk) (v : Int) : Prop :=
  T'.maps.length = T.maps.length + 1 ∧ p.out = true ∧ p.err = false ∧ ∃ r, freeF T.maps p.proto (T.high + 1 - T.low).toNat T.low = some r ∧ (∃ m ∈ T'.maps, m.proto = p.proto ∧ m.port = r ∧ m.ia = p.sa ∧ m.ip = p.sp) ∧ (v = 0 → q.out = true → q.sp = r)

theorem pass_adds {T : Tn} (hG : GoodT T) {p : Pk} (hpr : 1 ≤ p.proto ∧ p.proto ≤ 3) : (passF T p).1.maps.length = T.maps.length ∨ Adds T (passF T p).1 p (passF T p).2.1 (passF T p).2.2 := by
  unfold passF
  split
  · left
    split <;> rfl
  · rename_i he
    split
    · rename_i ho
      unfold outF
      split
      · left
        exact outW_len _ _ _
      · rename_i hn
        split
        · left
          rfl
        · split
          · left
            rfl
          · rename_i r hr
            right
            have hf := freeF_some hr
            have hle := hG.le
            have hG' : GoodT { T with maps := T.maps ++ [newM p.proto p.sa p.sp r] } := hG.snoc (m := newM p.proto p.sa p.sp r) ⟨hpr.1, hpr.2, hf.1, by show r ≤ T.high; omega, Nat.zero_le _, Int.le_refl _, by show (0 : Int) < 1000; decide⟩ hf.2.2 hn
            refine ⟨?_, ho, by simpa using he, r, hr, ?_, fun hv hq => ?_⟩
            · rw [outW_len]
              simp
            · obtain ⟨x, hx, hs⟩ := outW_keeps hG'.apart (m := newM p.proto p.sa p.sp r) (by simp) p
              exact ⟨x, hx, hs.1, hs.2.2.2, hs.2.1, hs.2.2.1⟩
            · have := outW_passed (T := { T with maps := T.maps ++ [newM p.proto p.sa p.sp r] }) (m := newM p.proto p.sa p.sp r) (p := p) (T' := (outW { T with maps := T.maps ++ [newM p.proto p.sa p.sp r] } (newM p.proto p.sa p.sp r) p).1) (q := (outW { T with maps := T.maps ++ [newM p.proto p.sa p.sp r] } (newM p.proto p.sa p.sp r) p).2.1) (by rw [← hv]) hq
              rw [this.2.1]
              rfl
    · left
      exact inF_len _ _

/-- what the statement looks for in a table -/
structure Tab (size : Int) (L : List Mp) : Prop where
  each : ∀ m ∈ L, 100 ≤ m.port ∧ m.port ≤ 99 + size ∧ 1 ≤ m.peers.length ∧ m.peers.length ≤ 4 ∧ m.idle < 1000 ∧ (m.proto = 2 ↔ 0 < m.st)
  sorted : L.Pairwise ltM
  ends : L.Pairwise fun a b => ¬ (a.proto = b.proto ∧ a.ia = b.ia ∧ a.ip = b.ip)

theorem tab_of {t s : Int} {T : Tn} (hG : GoodT T) (hI : InvT t s T) : Tab s (tableF T) := by
  refine ⟨fun m hm => ?_, tableF_sorted T, ?_⟩
  · have h := (table_mem hG).1 hm
    obtain ⟨h1, h2, h3, h4, h5, h6, h7⟩ := hG.ok m h
    obtain ⟨g1, g2, g3⟩ := hI.pm m h
    rw [hI.low] at h3
    rw [hI.high] at h4
    exact ⟨h3, h4, g2, h5, h7, g3⟩
  · refine (tableF_sorted T).imp_of_mem ?_
    intro a b ha hb hlt hc
    have : a = b := apart_mem hG.apart ((table_mem hG).1 ha) ((table_mem hG).1 hb) (.inr hc)
    subst this
    unfold ltM at hlt
    omega

end Go.Proofs.Ytgpplekabohneaa
