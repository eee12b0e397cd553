/- Tick and Table, of a tenant and of a box. -/
import Derived.Test.YtgpplekabohneaaQr
import Derived.Maps.RangeWalk
import Derived.Test.YtgpplekabohneaaQs
import Derived.Test.YtgpplekabohneaaRv
import Derived.Test.YtgpplekabohneaaPq
import Derived.Shelf.Slices.Clone
namespace Go.Proofs.Ytgpplekabohneaa
section
open Go.RowKit
open Go.ChangeMaps (setBlock)

/-- 'delete(m, x)', whatever type the place of the answer bears -/
theorem run_del2 {t k : TypeId} {K : Value → Prop} (H : KeyT t k K) (w : World) (r : Nat) (es : Array MapEntry) (c : Nat) (x : Value) (hr : w.heap[r]? = some (.map es c)) (hx : K x) (hl : ∀ e ∈ es.toList, K e.key) (hin : ∃ e ∈ es.toList, e.key = x) :
    ∃ j e, es.toList[j]? = some e ∧ e.key = x ∧ ∀ ty, (Builtin.delete_ #[t, k] ty #[.map (some r), x]).run Try.prog w = .ok (.tuple #[]) (setBlock w r (.map (es.eraseIdxIfInBounds j) c)) := by
  rcases find_struct H w x hx es.toList hl with ⟨h1, h2⟩ | ⟨j, e, h1, h2, h3⟩
  · obtain ⟨e, he, hk⟩ := hin
    exact absurd hk (h2 e he)
  · exact ⟨j, e, h2, h3, fun ty => by simp [Builtin.delete_, run_underlying H.ht, MapKept.run_getObj_map hr, H.check w _ x hx, h1, MapKept.run_setObj_map _ hr, Result.andThen, setBlock]⟩

set_option maxHeartbeats 2000000 in
theorem drop_raw {w : World} {g hp hi n : Nat} {t0 t1 t2 p a b q : Int} {sv x5 x6 x7 x8 : Value} {es es' : Array MapEntry} {c c' : Nat}
    (hg : w.heap[g]? = some (.cells #[.int .i64 t0, .int .i64 t1, .int .i64 t2, .map (some hp), .map (some hi)] 104 (0, 0))) (hn : w.heap[n]? = some (.cells #[.int .i64 p, .int .i64 a, .int .i64 b, .int .i64 q, sv, x5, x6, x7, x8] 109 (0, 0)))
    (h1 : w.heap[hp]? = some (.map es c)) (h2 : w.heap[hi]? = some (.map es' c')) (hne : hp ≠ hi) (k1 : ∀ e ∈ es.toList, KP e.key) (k2 : ∀ e ∈ es'.toList, KI e.key)
    (m1 : ∃ e ∈ es.toList, e.key = .agg #[.int .i64 p, .int .i64 q]) (m2 : ∃ e ∈ es'.toList, e.key = .agg #[.int .i64 p, .int .i64 a, .int .i64 b]) :
    Calls Try.prog 43 #[.pointer (some ⟨g, 0, none⟩), .pointer (some ⟨n, 0, none⟩)] w fun e w' => e = .returned (.tuple #[]) ∧ Fr (fun k => k = hp ∨ k = hi) w w' ∧ w'.heap.size = w.heap.size ∧
      (∃ j e, es.toList[j]? = some e ∧ e.key = .agg #[.int .i64 p, .int .i64 q] ∧ w'.heap[hp]? = some (.map (es.eraseIdxIfInBounds j) c)) ∧ ∃ j e, es'.toList[j]? = some e ∧ e.key = .agg #[.int .i64 p, .int .i64 a, .int .i64 b] ∧ w'.heap[hi]? = some (.map (es'.eraseIdxIfInBounds j) c') := by
  have g1 : g < w.heap.size := (Array.getElem?_eq_some_iff.1 hg).1
  have n1 : n < w.heap.size := (Array.getElem?_eq_some_iff.1 hn).1
  have hpg : hp ≠ g := map_ne_cells h1 hg
  have hpn : hp ≠ n := map_ne_cells h1 hn
  have c3 : w.cell? ⟨g, 3, none⟩ = some (.map (some hp)) := by simp [World.cell?, hg]
  have d0 : w.cell? ⟨n, 0, none⟩ = some (.int .i64 p) := by simp [World.cell?, hn]
  have d3 : w.cell? ⟨n, 3, none⟩ = some (.int .i64 q) := by simp [World.cell?, hn]
  obtain ⟨j, e, hj, hk, hup⟩ := run_del2 keyP w.drew hp es c (.agg #[.int .i64 p, .int .i64 q]) h1 ⟨p, q, rfl⟩ k1 m1
  have hg2 := (setBlock_other w.drew hp (.map (es.eraseIdxIfInBounds j) c) g (Ne.symm hpg)).trans hg
  have hn2 := (setBlock_other w.drew hp (.map (es.eraseIdxIfInBounds j) c) n (Ne.symm hpn)).trans hn
  have hi2 := (setBlock_other w.drew hp (.map (es.eraseIdxIfInBounds j) c) hi (Ne.symm hne)).trans h2
  have hp2 := setBlock_same (w := w.drew) (o' := (.map (es.eraseIdxIfInBounds j) c)) h1
  have hF2 : Fr (fun k => k = hp ∨ k = hi) w (setBlock w.drew hp (.map (es.eraseIdxIfInBounds j) c)) := (Fr.refl _ w).drew.setBlock _ (fun _ => .inl rfl)
  have hS2 : (setBlock w.drew hp (.map (es.eraseIdxIfInBounds j) c)).heap.size = w.heap.size := by simp [setBlock]
  generalize hw2 : setBlock w.drew hp (.map (es.eraseIdxIfInBounds j) c) = w2 at *
  have c4 : w2.cell? ⟨g, 4, none⟩ = some (.map (some hi)) := by simp [World.cell?, hg2]
  have e0 : w2.cell? ⟨n, 0, none⟩ = some (.int .i64 p) := by simp [World.cell?, hn2]
  have e1 : w2.cell? ⟨n, 1, none⟩ = some (.int .i64 a) := by simp [World.cell?, hn2]
  have e2 : w2.cell? ⟨n, 2, none⟩ = some (.int .i64 b) := by simp [World.cell?, hn2]
  obtain ⟨j', e', hj', hk', hup2⟩ := run_del2 keyI w2.drew hi es' c' (.agg #[.int .i64 p, .int .i64 a, .int .i64 b]) hi2 ⟨p, a, b, rfl⟩ k2 m2
  have HX := hide (And.intro hF2 (And.intro hS2 (And.intro hp2 (And.intro hi2 (And.intro (And.intro hj hk) (And.intro hj' hk'))))))
  clear hF2 hS2 hp2 hi2 hg2 hn2 hg hn h1 h2 k1 k2 hw2 m1 m2 hj hk hj' hk'
  go_enter Try.func43, Try.ntmps43
  go_wp2
  go_region
  all_goals
    clear hup
    go_wp2
    go_region
    all_goals
      go_wp2
      go_end0
      obtain ⟨hF2, hS2, hp2, hi2, ⟨hj, hk⟩, hj', hk'⟩ := unhide HX
      exact ⟨rfl, hF2.drew.setBlock _ (fun _ => .inr rfl), by simpa [setBlock] using hS2, ⟨j, e, hj, hk, (setBlock_other _ _ _ _ hne).trans hp2⟩, j', e', hj', hk', setBlock_same (w := w2.drew) hi2⟩
end

section
open Go.RowKit
open Go.ChangeMaps (setBlock)

def entC (y : Cl × Nat) : MapEntry := { key := kP y.1.m, val := ptrV y.1.g, born := y.2 }

def tickC (n : Int) (y : Cl × Nat) : Option (Cl × Nat) := (tickM n y.1.m).map fun m' => (⟨y.1.g, y.1.sv, m'⟩, y.2)

def stepC (n : Int) (b : Nat) (M : List (Cl × Nat)) : List (Cl × Nat) := M.filterMap fun y => if y.2 = b then tickC n y else some y

def curC (n : Int) (seen : Array Nat) (L0 : List (Cl × Nat)) : List (Cl × Nat) := L0.filterMap fun y => if seen.contains y.2 then tickC n y else some y

def leftC (seen : Array Nat) (L0 : List (Cl × Nat)) : Nat := (L0.filter fun y => !seen.contains y.2).length

theorem tickC_stamp {n : Int} {y z : Cl × Nat} (h : tickC n y = some z) : z.2 = y.2 := by
  unfold tickC at h
  cases ht : tickM n y.1.m with
  | none => rw [ht] at h; cases h
  | some m' => rw [ht] at h; cases h; rfl

theorem cur_step (n : Int) (seen : Array Nat) (b : Nat) (hb : seen.contains b = false) (L0 : List (Cl × Nat)) : curC n (seen.push b) L0 = stepC n b (curC n seen L0) := by
  unfold curC stepC
  rw [List.filterMap_filterMap]
  congr 1
  funext y
  rw [contains_push]
  cases hs : seen.contains y.2
  · simp only [Bool.false_or, Bool.false_eq_true, if_false, Option.bind_some, beq_iff_eq]
  · simp only [Bool.true_or, if_true]
    have hne : y.2 ≠ b := fun e => by rw [e, hb] at hs; cases hs
    cases ht : tickC n y with
    | none => rfl
    | some z =>
      have := tickC_stamp ht
      simp only [Option.bind_some]
      rw [if_neg (by omega)]

theorem cur_none (n : Int) (L0 : List (Cl × Nat)) : curC n #[] L0 = L0 := by
  unfold curC
  simp

theorem cur_all (n : Int) (seen : Array Nat) (L0 : List (Cl × Nat)) (h : ∀ y ∈ L0, seen.contains y.2 = true) : curC n seen L0 = L0.filterMap (tickC n) := by
  unfold curC
  induction L0 with
  | nil => rfl
  | cons x r ih =>
    rw [List.filterMap_cons, List.filterMap_cons, h x (.head _), if_pos rfl, ih (fun y hy => h y (.tail _ hy))]

theorem filter_mono {α : Type} {p q : α → Bool} (h : ∀ y, p y = true → q y = true) : ∀ l : List α, (l.filter p).length ≤ (l.filter q).length
  | [] => Nat.le_refl _
  | x :: r => by
    have ih := filter_mono h r
    rw [List.filter_cons, List.filter_cons]
    cases hp : p x
    · cases hq : q x
      · simpa using ih
      · simp only [Bool.false_eq_true, if_false, if_true, List.length_cons]
        omega
    · rw [h x hp]
      simp only [if_true, List.length_cons]
      omega

theorem left_push {seen : Array Nat} {b : Nat} {L0 : List (Cl × Nat)} (hb : seen.contains b = false) (hm : ∃ y ∈ L0, y.2 = b) : leftC (seen.push b) L0 < leftC seen L0 := by
  unfold leftC
  induction L0 with
  | nil => obtain ⟨y, hy, _⟩ := hm; cases hy
  | cons x r ih =>
    have mono : (r.filter fun y => !(seen.push b).contains y.2).length ≤ (r.filter fun y => !seen.contains y.2).length := filter_mono (fun y hy => by
      rw [contains_push] at hy
      cases hz : seen.contains y.2
      · rfl
      · rw [hz] at hy
        simp at hy) r
    by_cases hx : x.2 = b
    · have h1 : (seen.push b).contains x.2 = true := by rw [contains_push, hx]; simp
      have h2 : seen.contains x.2 = false := by rw [hx]; exact hb
      rw [List.filter_cons, List.filter_cons, h1, h2]
      simp only [Bool.not_true, Bool.false_eq_true, if_false, Bool.not_false, if_true, List.length_cons]
      omega
    · obtain ⟨y, hy, hyb⟩ := hm
      have hyr : y ∈ r := by
        rcases List.mem_cons.1 hy with rfl | hy
        · exact absurd hyb hx
        · exact hy
      have := ih ⟨y, hyr, hyb⟩
      rw [List.filter_cons, List.filter_cons]
      have e : (seen.push b).contains x.2 = seen.contains x.2 := by
        rw [contains_push]
        have : (x.2 == b) = false := by simpa using hx
        rw [this, Bool.or_false]
      rw [e]
      split
      · simp only [List.length_cons]; omega
      · exact this

/-- a tenant with the stamps of its entries; c: the map's clock -/
structure TenS (w : World) (S : Nat → Prop) (g hp hi : Nat) (T : Tn) (M : List (Cl × Nat)) (c : Nat) : Prop where
  ten : TenR w S g hp hi T (M.map (·.1))
  ents : ∃ es, w.heap[hp]? = some (.map es c) ∧ es.toList = M.map entC
  nodup : (M.map (·.2)).Nodup
  lt : ∀ y ∈ M, y.2 < c

theorem stamp_list : ∀ (es : List MapEntry) (L : List Cl), es.map (fun e => (e.key, e.val)) = L.map (fun x => (kP x.m, ptrV x.g)) → ∃ M : List (Cl × Nat), M.map (·.1) = L ∧ es = M.map entC
  | [], [], _ => ⟨[], rfl, rfl⟩
  | [], _ :: _, h => by simp at h
  | _ :: _, [], h => by simp at h
  | e :: es, x :: L, h => by
    simp only [List.map_cons, List.cons.injEq, Prod.mk.injEq] at h
    obtain ⟨M, h1, h2⟩ := stamp_list es L h.2
    refine ⟨(x, e.born) :: M, by simp [h1], ?_⟩
    rw [List.map_cons, ← h2]
    congr 1
    obtain ⟨k, v, b⟩ := e
    simp only at h
    unfold entC
    rw [h.1.1, h.1.2]

theorem TenR.stamp {w : World} {S : Nat → Prop} {g hp hi : Nat} {T : Tn} {L : List Cl} (h : TenR w S g hp hi T L) : ∃ M c, M.map (·.1) = L ∧ TenS w S g hp hi T M c := by
  obtain ⟨es, c, h1, h2, h3, h4⟩ := h.mp
  obtain ⟨M, m1, m2⟩ := stamp_list es.toList L h2
  have e1 : es.toList.map (·.born) = M.map (·.2) := by
    rw [m2, List.map_map]
    rfl
  refine ⟨M, c, m1, by rw [m1]; exact h, ⟨es, h1, m2⟩, by rw [← e1]; exact h4, fun y hy => ?_⟩
  exact h3 (entC y) (by rw [m2]; exact List.mem_map.2 ⟨y, hy, rfl⟩)

theorem TenS.keep {w w' : World} {S X : Nat → Prop} {g hp hi : Nat} {T : Tn} {M : List (Cl × Nat)} {c : Nat} (h : TenS w S g hp hi T M c) (hF : Fr X w w') (hX : ∀ k, S k → ¬ X k) : TenS w' S g hp hi T M c := by
  obtain ⟨es, h1, h2⟩ := h.ents
  exact ⟨h.ten.keep hF hX, ⟨es, hF.some h1 (hX _ h.ten.shp), h2⟩, h.nodup, h.lt⟩

/-- the step 'next' of a loop over a map, of the entries alone -/
theorem wpList_next_raw {P : Program} (w : World) {ops : Array Oper} {rest : List Oper} {o : Oper} {a : Act} {Q : Exit → Act → World → Prop} (hg : o.guard = none) (it : Operand) (hop : o.op = Op.next it false) (r bm since c0 : Nat) (seen : Array Nat) (es : Array MapEntry) (clock : Nat)
    (hit : a.eval it = .pointer (some ⟨r, 0, none⟩)) (hr : w.heap[r]? = some (.mapIter (some bm) since seen c0)) (hb : w.heap[bm]? = some (.map es clock)) (hold : ∀ x ∈ es.toList, x.born < since) (hsc : since ≤ c0)
    (hDone : Hid ((leftOf es seen).size = 0) → wpList P ops Q rest (a.put o.dst (.tuple #[.bool false])) w)
    (hMore : ∀ (e : MapEntry) (w1 : World), Hid (e ∈ (leftOf es seen).toList ∧ (w1 = w ∨ w1 = w.drew)) → wpList P ops Q rest (a.put o.dst (.tuple #[.bool true, e.key, e.val])) (setBlock w1 r (.mapIter (some bm) since (seen.push e.born) clock))) :
    wpList P ops Q (o :: rest) a w := by
  refine wpList_plain hg fun K' hK' => ?_
  unfold Oper.wp
  rcases run_next_at (P := P) w o.type r bm since c0 seen es clock hr hb hold hsc with ⟨h0, hrun⟩ | ⟨e, he, w1, hal, hrun⟩
  · simp [execOp, hop, hit, hrun, Result.andThen]
    exact hK' _ _ (hDone (hide h0))
  · simp [execOp, hop, hit, hrun, Result.andThen]
    exact hK' _ _ (hMore e w1 (hide ⟨he, hal⟩))
end

section
open Go.RowKit
open Go.ChangeMaps (setBlock map_eraseIdx)

theorem nodup_idx {α : Type} : ∀ {l : List α} {i j : Nat} {a : α}, l.Nodup → l[i]? = some a → l[j]? = some a → i = j
  | [], _, _, _, _, h, _ => by simp at h
  | x :: r, 0, 0, _, _, _, _ => rfl
  | x :: r, 0, j + 1, a, hn, h1, h2 => by
    simp at h1 h2
    subst h1
    exact absurd (List.mem_of_getElem? h2) (List.nodup_cons.1 hn).1
  | x :: r, i + 1, 0, a, hn, h1, h2 => by
    simp at h1 h2
    subst h2
    exact absurd (List.mem_of_getElem? h1) (List.nodup_cons.1 hn).1
  | x :: r, i + 1, j + 1, a, hn, h1, h2 => by
    simp at h1 h2
    rw [nodup_idx (List.nodup_cons.1 hn).2 h1 h2]

theorem TenS.uniqG {w : World} {S : Nat → Prop} {g hp hi : Nat} {T : Tn} {M : List (Cl × Nat)} {c : Nat} (h : TenS w S g hp hi T M c) {y z : Cl × Nat} (hy : y ∈ M) (hz : z ∈ M) (e : ¬ apartC z.1 y.1) (e' : ¬ apartC y.1 z.1) : z = y :=
  pw_eq (List.pairwise_map.1 h.ten.apart) hz hy e e'

theorem TenS.uniqB {w : World} {S : Nat → Prop} {g hp hi : Nat} {T : Tn} {M : List (Cl × Nat)} {c : Nat} (h : TenS w S g hp hi T M c) {y z : Cl × Nat} (hy : y ∈ M) (hz : z ∈ M) (e : z.2 = y.2) : z = y :=
  pw_eq (List.pairwise_map.1 h.nodup) hz hy (fun q => q e) (fun q => q e.symm)

theorem step_keep {n : Int} {M : List (Cl × Nat)} {y y' : Cl × Nat} (hu : ∀ z ∈ M, z.2 = y.2 → z = y) (ht : tickC n y = some y') : stepC n y.2 M = M.map fun z => if z.2 = y.2 then y' else z := by
  unfold stepC
  induction M with
  | nil => rfl
  | cons x r ih =>
    have ih' := ih (fun z hz => hu z (.tail _ hz))
    rw [List.filterMap_cons, List.map_cons]
    by_cases hx : x.2 = y.2
    · have e := hu x (.head _) hx
      rw [if_pos hx, if_pos hx, e, ht]
      dsimp only
      rw [ih']
    · rw [if_neg hx, if_neg hx]
      dsimp only
      rw [ih']

theorem step_drop {n : Int} : ∀ {M : List (Cl × Nat)} {y : Cl × Nat} {j : Nat}, (M.map (·.2)).Nodup → M[j]? = some y → tickC n y = none → stepC n y.2 M = M.eraseIdx j
  | [], _, _, _, hj, _ => by simp at hj
  | x :: r, y, 0, hn, hj, ht => by
    simp at hj
    subst hj
    have hr : ∀ z ∈ r, z.2 ≠ x.2 := fun z hz e => by
      have := (List.nodup_cons.1 hn).1
      exact this (List.mem_map.2 ⟨z, hz, e⟩)
    unfold stepC
    rw [List.filterMap_cons, if_pos rfl, ht]
    simp only [List.eraseIdx_cons_zero]
    clear hn
    induction r with
    | nil => rfl
    | cons z t ih =>
      rw [List.filterMap_cons, if_neg (hr z (.head _))]
      dsimp only
      rw [ih (fun u hu => hr u (.tail _ hu))]
  | x :: r, y, j + 1, hn, hj, ht => by
    have hj' : r[j]? = some y := by simpa using hj
    have hx : x.2 ≠ y.2 := fun e => by
      have := (List.nodup_cons.1 hn).1
      exact this (List.mem_map.2 ⟨y, List.mem_of_getElem? hj', e.symm⟩)
    have ih := step_drop (n := n) (List.nodup_cons.1 hn).2 hj' ht
    unfold stepC at ih ⊢
    rw [List.filterMap_cons, if_neg hx, List.eraseIdx_cons_succ]
    dsimp only
    rw [ih]

theorem TenS.kept {w w' : World} {S : Nat → Prop} {g hp hi : Nat} {T : Tn} {M : List (Cl × Nat)} {c : Nat} {n : Int} (h : TenS w S g hp hi T M c) {y : Cl × Nat} (hy : y ∈ M) {m' : Mp} (hb : w'.heap[y.1.g]? = some (.cells (mpC m' y.1.sv) 109 (0, 0))) (hs : sameK m' y.1.m) (hpe : m'.peers = y.1.m.peers)
    (hF : Fr (fun k => k = y.1.g) w w') (hsz : w'.heap.size = w.heap.size) (h0 : 0 ≤ m'.idle) (h1 : m'.idle < 1000) (ht : tickM n y.1.m = some m') :
    TenS w' S g hp hi { T with maps := (stepC n y.2 M).map (·.1.m) } (stepC n y.2 M) c := by
  have hyL : y.1 ∈ M.map (·.1) := List.mem_map.2 ⟨y, hy, rfl⟩
  obtain ⟨hxM, hxS, hxB⟩ := h.ten.mem y.1 hyL
  have hok := h.ten.good.ok y.1.m (by rw [← h.ten.maps]; exact List.mem_map.2 ⟨y.1, hyL, rfl⟩)
  have hM : Mem w' y.1.g y.1.sv m' := ⟨hb, by rw [hpe]; exact ownsRow_keep hxM.2 hF (fun b hb' e => row_ne hxM.2 hxM.1 (by decide) (e ▸ hb'))⟩
  have hU := h.ten.upd hyL hM hs (hF.mono (fun k hk _ => .inl hk)) (fun b hb' => .inl hb') (by rw [hpe]; exact hok.2.2.2.2.1) h0 h1
  have hU' := hU.mono (S' := S) (fun k hk => by
    rcases hk with hk | hk
    · exact hk
    · omega) (fun k hk => by rw [hsz]; exact h.ten.bound k hk)
  have hst : stepC n y.2 M = M.map fun z => if z.2 = y.2 then (⟨y.1.g, y.1.sv, m'⟩, y.2) else z := step_keep (fun z hz e => h.uniqB hy hz e) (by unfold tickC; rw [ht]; rfl)
  have hmap : (M.map (·.1)).map (fun z => if z.g = y.1.g then (⟨y.1.g, y.1.sv, m'⟩ : Cl) else z) = (M.map fun z => if z.2 = y.2 then ((⟨y.1.g, y.1.sv, m'⟩, y.2) : Cl × Nat) else z).map (·.1) := by
    rw [List.map_map, List.map_map]
    refine List.map_congr_left (fun z hz => ?_)
    show (if z.1.g = y.1.g then (⟨y.1.g, y.1.sv, m'⟩ : Cl) else z.1) = (if z.2 = y.2 then ((⟨y.1.g, y.1.sv, m'⟩, y.2) : Cl × Nat) else z).1
    by_cases e : z.2 = y.2
    · rw [if_pos e, if_pos (by rw [h.uniqB hy hz e])]
    · rw [if_neg e, if_neg]
      intro e'
      exact e (congrArg Prod.snd (h.uniqG hy hz (fun q => q.1 e') (fun q => q.1 e'.symm)))
  rw [hmap] at hU'
  have hmaps := hU'.maps
  rw [List.map_map] at hmaps
  rw [hst]
  have eT : ({ T with maps := setM T.maps m' } : Tn) = { T with maps := (M.map fun z => if z.2 = y.2 then ((⟨y.1.g, y.1.sv, m'⟩, y.2) : Cl × Nat) else z).map (·.1.m) } := by
    have : setM T.maps m' = (M.map fun z => if z.2 = y.2 then ((⟨y.1.g, y.1.sv, m'⟩, y.2) : Cl × Nat) else z).map (·.1.m) := hmaps.symm
    rw [this]
  rw [eT] at hU'
  obtain ⟨es, k1, k2⟩ := h.ents
  refine ⟨hU', ⟨es, hF.some k1 (fun e => map_ne_cells k1 hxM.1 e), ?_⟩, ?_, ?_⟩
  · rw [k2, List.map_map]
    refine List.map_congr_left (fun z hz => ?_)
    show entC z = entC (if z.2 = y.2 then ((⟨y.1.g, y.1.sv, m'⟩, y.2) : Cl × Nat) else z)
    split
    · rename_i e
      rw [h.uniqB hy hz e]
      unfold entC kP
      rw [hs.1, hs.2.2.2]
    · rfl
  · have : (M.map fun z => if z.2 = y.2 then ((⟨y.1.g, y.1.sv, m'⟩, y.2) : Cl × Nat) else z).map (·.2) = M.map (·.2) := by
      rw [List.map_map]
      refine List.map_congr_left (fun z hz => ?_)
      show (if z.2 = y.2 then ((⟨y.1.g, y.1.sv, m'⟩, y.2) : Cl × Nat) else z).2 = z.2
      split
      · rename_i e; exact e.symm
      · rfl
    rw [this]
    exact h.nodup
  · intro z hz
    obtain ⟨u, hu, rfl⟩ := List.mem_map.1 hz
    split
    · exact h.lt y hy
    · exact h.lt u hu

theorem TenS.dropped {w w' : World} {S : Nat → Prop} {g hp hi : Nat} {T : Tn} {M : List (Cl × Nat)} {c c' : Nat} {n : Int} (h : TenS w S g hp hi T M c) {y : Cl × Nat} (hy : y ∈ M) {es es' : Array MapEntry} (h1 : w.heap[hp]? = some (.map es c)) (h2 : w.heap[hi]? = some (.map es' c'))
    (hF : Fr (fun k => k = y.1.g ∨ k = hp ∨ k = hi) w w') (hsz : w'.heap.size = w.heap.size) {j j' : Nat} {e e' : MapEntry} (hj : es.toList[j]? = some e) (hk : e.key = kP y.1.m) (hj' : es'.toList[j']? = some e') (hk' : e'.key = kI y.1.m)
    (hP : w'.heap[hp]? = some (.map (es.eraseIdxIfInBounds j) c)) (hI : w'.heap[hi]? = some (.map (es'.eraseIdxIfInBounds j') c')) (ht : tickM n y.1.m = none) :
    TenS w' S g hp hi { T with maps := (stepC n y.2 M).map (·.1.m) } (stepC n y.2 M) c := by
  obtain ⟨es0, a1, a2⟩ := h.ents
  obtain rfl : es0 = es := by rw [h1] at a1; cases a1; rfl
  obtain ⟨es0', c0', b1, b2⟩ := h.ten.mi
  obtain ⟨rfl, rfl⟩ : es0' = es' ∧ c0' = c' := by rw [h2] at b1; cases b1; exact ⟨rfl, rfl⟩
  -- the place of y in M
  have hMj : M[j]? = some y := by
    rw [a2, List.getElem?_map] at hj
    cases hm : M[j]? with
    | none => rw [hm] at hj; cases hj
    | some z =>
      rw [hm] at hj
      cases hj
      have hz := List.mem_of_getElem? hm
      have e1 : kP z.1.m = kP y.1.m := hk
      have e2 := kP_iff.1 e1
      rw [h.uniqG hy hz (fun q => q.2.2.1 e2) (fun q => q.2.2.1 ⟨e2.1.symm, e2.2.symm⟩)]
  have hMj' : M[j']? = some y := by
    have b3 := congrArg (fun l => l[j']?) b2
    simp only [List.getElem?_map, hj', Option.map_some] at b3
    cases hm : M[j']? with
    | none => rw [hm] at b3; cases b3
    | some z =>
      rw [hm] at b3
      simp only [Option.map_some, Option.some.injEq, Prod.mk.injEq] at b3
      have hz := List.mem_of_getElem? hm
      have e1 : kI z.1.m = kI y.1.m := b3.1.symm.trans hk'
      have e2 := kI_iff.1 e1
      rw [h.uniqG hy hz (fun q => q.2.2.2 e2) (fun q => q.2.2.2 ⟨e2.1.symm, e2.2.1.symm, e2.2.2.symm⟩)]
  have hjj : j' = j := nodup_idx h.nodup (a := y.2) (by rw [List.getElem?_map, hMj']; rfl) (by rw [List.getElem?_map, hMj]; rfl)
  subst hjj
  have hst : stepC n y.2 M = M.eraseIdx j' := step_drop h.nodup hMj (by unfold tickC; rw [ht]; rfl)
  rw [hst]
  have hlen : j' < M.length := (List.getElem?_eq_some_iff.1 hMj).1
  have hesz : j' < es0.size := by have := congrArg List.length a2; simp at this; omega
  have hesz' : j' < es0'.size := by have := congrArg List.length b2; simp at this; omega
  have t1 : (es0.eraseIdxIfInBounds j').toList = (M.eraseIdx j').map entC := by
    unfold Array.eraseIdxIfInBounds
    rw [dif_pos hesz]
    simp [a2, map_eraseIdx]
  have t2 : (es0'.eraseIdxIfInBounds j').toList.map (fun e => (e.key, e.val)) = ((M.eraseIdx j').map (·.1)).map (fun x => (kI x.m, ptrV x.g)) := by
    unfold Array.eraseIdxIfInBounds
    rw [dif_pos hesz']
    simp only [Array.toList_eraseIdx, map_eraseIdx, b2]
  have hsub : (M.eraseIdx j').Sublist M := List.eraseIdx_sublist _ _
  have hmemne : ∀ z ∈ M.eraseIdx j', z ∈ M ∧ z.1.g ≠ y.1.g := fun z hz => by
    refine ⟨hsub.subset hz, fun e1 => ?_⟩
    have e2 := h.uniqG hy (hsub.subset hz) (fun q => q.1 e1) (fun q => q.1 e1.symm)
    obtain ⟨i, hne, hi⟩ := List.mem_eraseIdx_iff_getElem?.1 hz
    exact hne (nodup_idx h.nodup (a := y.2) (by rw [List.getElem?_map, hi, e2]; rfl) (by rw [List.getElem?_map, hMj]; rfl))
  have hyL : y.1 ∈ M.map (·.1) := List.mem_map.2 ⟨y, hy, rfl⟩
  obtain ⟨hxM, hxS, hxB⟩ := h.ten.mem y.1 hyL
  have hnod : ((M.eraseIdx j').map (·.2)).Nodup := (hsub.map _).nodup h.nodup
  have hlt : ∀ z ∈ M.eraseIdx j', z.2 < c := fun z hz => h.lt z (hsub.subset hz)
  have eT : T.maps = M.map (·.1.m) := by rw [← h.ten.maps, List.map_map]; rfl
  refine ⟨⟨h.ten.sg, h.ten.shp, h.ten.shi, h.ten.ne, fun k hk => by rw [hsz]; exact h.ten.bound k hk, ?_, ⟨_, _, hP, ?_, ?_, ?_⟩, ⟨_, _, hI, t2⟩, by rw [List.map_map]; rfl, ?_, h.ten.apart.sublist (hsub.map _), ?_⟩, ⟨_, hP, t1⟩, hnod, hlt⟩
  · refine hF.some h.ten.blk ?_
    rintro (e1 | e1 | e1)
    · exact cells_ne h.ten.blk hxM.1 (by decide) e1
    · exact map_ne_cells h1 h.ten.blk e1.symm
    · exact map_ne_cells h2 h.ten.blk e1.symm
  · rw [t1, List.map_map, List.map_map]
    rfl
  · intro e1 he1
    rw [t1] at he1
    obtain ⟨z, hz, rfl⟩ := List.mem_map.1 he1
    exact hlt z hz
  · rw [t1, List.map_map]
    exact hnod
  · intro x hx
    obtain ⟨z, hz, rfl⟩ := List.mem_map.1 hx
    obtain ⟨hzM, hzg⟩ := hmemne z hz
    obtain ⟨y1, y2, y3⟩ := h.ten.mem z.1 (List.mem_map.2 ⟨z, hzM, rfl⟩)
    refine ⟨y1.keep hF ?_ ?_, y2, y3⟩
    · rintro (e1 | e1 | e1)
      · exact hzg e1
      · exact map_ne_cells h1 y1.1 e1.symm
      · exact map_ne_cells h2 y1.1 e1.symm
    · intro b hb
      rintro (e1 | e1 | e1)
      · exact row_ne y1.2 hxM.1 (by decide) (e1 ▸ hb)
      · exact row_ne_map y1.2 h1 (e1 ▸ hb)
      · exact row_ne_map y1.2 h2 (e1 ▸ hb)
  · refine ⟨h.ten.good.low, h.ten.good.high, h.ten.good.span, h.ten.good.le, ?_, ?_⟩
    · intro m hm
      refine h.ten.good.ok m ?_
      rw [eT]
      exact (hsub.map _).subset hm
    · have := h.ten.good.apart
      rw [eT] at this
      exact this.sublist (hsub.map _)
end

section
open Go.RowKit
open Go.ChangeMaps (setBlock)

theorem tick_maps (n : Int) (M : List (Cl × Nat)) : (M.filterMap (tickC n)).map (·.1.m) = (M.map (·.1.m)).filterMap (tickM n) := by
  induction M with
  | nil => rfl
  | cons x r ih =>
    rw [List.filterMap_cons, List.map_cons, List.filterMap_cons, ← ih]
    unfold tickC
    cases tickM n x.1.m <;> rfl

/-- what a loop over a tenant's mappings has come to -/
def AgeAt (w : World) (S : Nat → Prop) (g hp hi : Nat) (T : Tn) (M0 : List (Cl × Nat)) (c : Nat) (n : Int) (k : Nat) (wr : World) : Prop :=
  ∃ seen c0, k = leftC seen M0 ∧ TenS wr S g hp hi { T with maps := (curC n seen M0).map (·.1.m) } (curC n seen M0) c ∧ wr.heap[w.heap.size]? = some (.mapIter (some hp) c seen c0) ∧ c ≤ c0 ∧ Fr S w wr ∧ wr.heap.size = w.heap.size + 1

theorem spanF_le (p s : Int) : spanF p s ≤ 1000 := by
  unfold spanF
  repeat' split
  all_goals omega

/-- 'drop' of a mapping that has been idle too long -/
theorem dropS {w2 W : World} {S : Nat → Prop} {g hp hi : Nat} {T : Tn} {M : List (Cl × Nat)} {c : Nat} {n : Int} (h : TenS w2 S g hp hi T M c) {y : Cl × Nat} (hy : y ∈ M) {v : Value} (hb : W.heap[y.1.g]? = some (.cells ((mpC y.1.m y.1.sv).setIfInBounds 6 v) 109 (0, 0))) (hF : Fr (fun k => k = y.1.g) w2 W) (hsz : W.heap.size = w2.heap.size) (ht : tickM n y.1.m = none) :
    Calls Try.prog 43 #[.pointer (some ⟨g, 0, none⟩), .pointer (some ⟨y.1.g, 0, none⟩)] W fun e w' => e = .returned (.tuple #[]) ∧ TenS w' S g hp hi { T with maps := (stepC n y.2 M).map (·.1.m) } (stepC n y.2 M) c ∧ Fr S w2 w' ∧ w'.heap.size = w2.heap.size := by
  have hyL : y.1 ∈ M.map (·.1) := List.mem_map.2 ⟨y, hy, rfl⟩
  obtain ⟨hyM, hyS, hyB⟩ := h.ten.mem y.1 hyL
  obtain ⟨es, a1, a2⟩ := h.ents
  obtain ⟨es', c', b1, b2⟩ := h.ten.mi
  have a1' := hF.some a1 (fun e => map_ne_cells a1 hyM.1 e)
  have b1' := hF.some b1 (fun e => map_ne_cells b1 hyM.1 e)
  have hg' := hF.some h.ten.blk (fun e => cells_ne h.ten.blk hyM.1 (by decide) e)
  have hb' : W.heap[y.1.g]? = some (.cells #[.int .i64 y.1.m.proto, .int .i64 y.1.m.ia, .int .i64 y.1.m.ip, .int .i64 y.1.m.port, y.1.sv, .int .i64 y.1.m.st, v, .bool y.1.m.fo, .bool y.1.m.fi] 109 (0, 0)) := by
    rw [hb]
    simp [mpC]
  refine (drop_raw hg' hb' a1' b1' h.ten.ne (fun e he => ?_) (fun e he => ?_) ?_ ?_).mono ?_
  · rw [a2] at he
    obtain ⟨z, _, rfl⟩ := List.mem_map.1 he
    exact ⟨_, _, rfl⟩
  · obtain ⟨x, _, hk, _⟩ := (keysI b2).1 e he
    exact ⟨_, _, _, hk⟩
  · exact ⟨entC y, by rw [a2]; exact List.mem_map.2 ⟨y, hy, rfl⟩, rfl⟩
  · obtain ⟨e, he, hk, _⟩ := (keysI b2).2 y.1 hyL
    exact ⟨e, he, hk⟩
  · rintro e w' ⟨rfl, hF', hsz', ⟨j, e1, hj, hk, hP⟩, j', e2, hj', hk', hI⟩
    have hF2 : Fr (fun k => k = y.1.g ∨ k = hp ∨ k = hi) w2 w' := (hF.mono (fun k hk _ => .inl hk)).trans' hF' (fun k hk _ => .inr hk)
    refine ⟨rfl, h.dropped hy a1 b1 hF2 (by omega) hj hk hj' hk' hP hI ht, hF2.mono (fun k hk _ => ?_), by omega⟩
    rcases hk with rfl | rfl | rfl
    · exact hyS
    · exact h.ten.shp
    · exact h.ten.shi

set_option maxHeartbeats 4000000 in
set_option maxRecDepth 100000 in
theorem age_any {w : World} {S : Nat → Prop} {g hp hi : Nat} {T : Tn} {L : List Cl} (h : TenR w S g hp hi T L) (n : Int) (hn0 : 0 ≤ n) (hn1 : n ≤ 100000) :
    Calls Try.prog 27 #[.pointer (some ⟨g, 0, none⟩), .int .i64 n] w fun e w' => e = .returned (.tuple #[]) ∧ After w S g hp hi (tickF n T) w' := by
  obtain ⟨M0, c, hM0, hTS0⟩ := h.stamp
  obtain ⟨es0, he0, he0'⟩ := hTS0.ents
  have hrg := run_range_map (P := Try.prog) w 101 106 107 hp es0 c Try.underlying101 he0
  obtain ⟨l1, -, -, -, c3, -⟩ := h.cells
  have eT : T.maps = M0.map (·.1.m) := by rw [← h.maps, ← hM0, List.map_map]; rfl
  have hS := h.bound
  have HST : Hid (AgeAt w S g hp hi T M0 c n (leftC #[] M0) (w.alloc (.mapIter (some hp) c #[] c))) := by
    refine ⟨#[], c, rfl, ?_, blkN _ _ _ rfl, Nat.le_refl _, (Fr.refl _ _).alloc _, by simp⟩
    rw [cur_none]
    have eT' : ({ T with maps := M0.map (·.1.m) } : Tn) = T := by rw [← eT]
    rw [eT']
    exact hTS0.keep (X := fun _ => False) (Fr.of_below ((Below.refl _ _).alloc (Nat.le_refl _) _)) (fun _ _ f => f)
  have HT := hide eT
  clear h hTS0 he0 he0' hM0 eT
  go_enter Try.func27, Try.ntmps27
  go_wp2
  go_loopg [5] (leftC #[] M0) (fun k u wr => AgeAt w S g hp hi T M0 c n k wr)
  case atStart => exact unhide HST
  case round =>
    obtain ⟨seen, c0, hk, hTS, hit, hc0, hFr, hsz⟩ := hrel
    obtain ⟨es, k1, k2⟩ := hTS.ents
    have hold : ∀ x ∈ es.toList, x.born < c := fun x hx => by
      rw [k2] at hx
      obtain ⟨y, hy, rfl⟩ := List.mem_map.1 hx
      exact hTS.lt y hy
    have HR := hide (And.intro hk (And.intro hTS (And.intro hit (And.intro hc0 (And.intro hFr (And.intro hsz (And.intro k1 (And.intro k2 hold))))))))
    clear hk hTS hit hc0 hFr k1 k2 hold HST
    go_wp2_with (at_next; refine wpList_next_raw _ rfl _ rfl w.heap.size hp c c0 seen es c rfl (unhide HR).2.2.1 (unhide HR).2.2.2.2.2.2.1 (unhide HR).2.2.2.2.2.2.2.2 (unhide HR).2.2.2.1 ?_ ?_)
    · intro h0
      go_wp2
      go_end0
      obtain ⟨hk, hTS, hit, hc0, hFr, hsz, k1, k2, hold⟩ := unhide HR
      have hall : ∀ y ∈ M0, seen.contains y.2 = true := fun y hy => by
        cases hs : seen.contains y.2
        · have hin : y ∈ curC n seen M0 := by
            unfold curC
            exact List.mem_filterMap.2 ⟨y, hy, by rw [hs]; rfl⟩
          have := all_seen es seen (by rw [unhide h0]; rfl) (entC y) (by rw [k2]; exact List.mem_map.2 ⟨y, hin, rfl⟩)
          rw [← hs]
          exact this
        · rfl
      rw [cur_all n seen M0 hall, tick_maps, ← unhide HT] at hTS
      refine ⟨rfl, _, hTS.ten.mono (fun k hk => .inl hk) ?_, hFr⟩
      rintro k (hk | hk)
      · exact hTS.ten.bound k hk
      · exact hk.2
    · intro e w1 hal
      obtain ⟨hk, hTS, hit, hc0, hFr, hsz', k1, k2, hold⟩ := unhide HR
      obtain ⟨he, hw1⟩ := unhide hal
      obtain ⟨heM, hnot⟩ := mem_left (Array.mem_toList_iff.2 he)
      rw [k2] at heM
      obtain ⟨y, hy, rfl⟩ := List.mem_map.1 heM
      have hyM0 : ∃ z ∈ M0, z.2 = y.2 := by
        unfold curC at hy
        obtain ⟨z, hz, hzy⟩ := List.mem_filterMap.1 hy
        refine ⟨z, hz, ?_⟩
        split at hzy
        · exact (tickC_stamp hzy).symm
        · cases hzy; rfl
      have hrS : ¬ S w.heap.size := fun hk => by have := hS _ hk; omega
      have hw1h : w1.heap = wr.heap := by rcases hw1 with rfl | rfl <;> rfl
      have hF1 : Fr (fun k => k = w.heap.size) wr (setBlock w1 w.heap.size (.mapIter (some hp) c (seen.push y.2) c)) := by
        rcases hw1 with rfl | rfl
        · exact (Fr.refl _ _).setBlock _ (fun _ => rfl)
        · exact (Fr.refl _ _).drew.setBlock _ (fun _ => rfl)
      have hit2 : (setBlock w1 w.heap.size (.mapIter (some hp) c (seen.push y.2) c)).heap[w.heap.size]? = some (.mapIter (some hp) c (seen.push y.2) c) := setBlock_same (w := w1) (o := .mapIter (some hp) c seen c0) (by rw [hw1h]; exact hit)
      have hsz2 : (setBlock w1 w.heap.size (.mapIter (some hp) c (seen.push y.2) c)).heap.size = w.heap.size + 1 := by
        have : (setBlock w1 w.heap.size (.mapIter (some hp) c (seen.push y.2) c)).heap.size = w1.heap.size := by simp [setBlock]
        rw [this, hw1h, hsz']
      have hTS2 := hTS.keep hF1 (fun k hk e => hrS (e ▸ hk))
      dsimp only [entC, kP, ptrV]
      generalize setBlock w1 w.heap.size (.mapIter (some hp) c (seen.push y.2) c) = w2 at *
      have k1' : w2.heap[hp]? = some (.map es c) := hF1.some k1 (fun e => hrS (e ▸ hTS.ten.shp))
      have hen := run_entry_at (P := Try.prog) w2 w.heap.size hp c seen es c (entC y) hit2 k1' (by rw [k2]; exact List.mem_map.2 ⟨y, hy, rfl⟩) (by rw [k2, List.map_map]; exact hTS.nodup)
      dsimp only [entC, kP, ptrV] at hen
      have hyL : y.1 ∈ (curC n seen M0).map (·.1) := List.mem_map.2 ⟨y, hy, rfl⟩
      obtain ⟨hyM, hyS, hyB⟩ := hTS2.ten.mem y.1 hyL
      have hok := hTS2.ten.good.ok y.1.m (by rw [← hTS2.ten.maps]; exact List.mem_map.2 ⟨y.1, hyL, rfl⟩)
      obtain ⟨gl, d0, d1, d2, d3, d4, d5, d6, d7, d8, dz⟩ := hyM.cells
      obtain ⟨hi0, hi1⟩ : 0 ≤ y.1.m.idle ∧ y.1.m.idle < 1000 := ⟨hok.2.2.2.2.2.1, hok.2.2.2.2.2.2⟩
      have hF02 : Fr S w w2 := hFr.trans' hF1 (fun k hk hl => by omega)
      have hb3 := setB hyM.1 6 (.int .i64 (y.1.m.idle + n))
      have hF23 : Fr (fun k => k = y.1.g) w2 (w2.setCell ⟨y.1.g, 6, none⟩ (.int .i64 (y.1.m.idle + n))) := (Fr.refl _ _).setCell _ (fun _ => rfl)
      have hsz3 : (w2.setCell ⟨y.1.g, 6, none⟩ (.int .i64 (y.1.m.idle + n))).heap.size = w2.heap.size := by simp [World.setCell]
      have hlm := left_push hnot hyM0
      have hcs := cur_step n seen y.2 hnot M0
      have HX := hide (And.intro hTS2 (And.intro hy (And.intro hit2 (And.intro hF02 (And.intro hb3 (And.intro hF23 (And.intro hsz3 (And.intro hsz2 (And.intro hcs (And.intro hlm (And.intro hk (And.intro k1' (And.intro hyS (And.intro hrS hyM))))))))))))))
      clear hTS2 hy hit2 hF02 hb3 hF23 hsz3 hcs hlm hk k1' hTS hit hc0 hFr k1 k2 hold HR hal he hw1 heM hnot hyM0 hw1h hF1 hyL hyM hyB hok d1 d2 d3 d4 d7 d8 hsz' hsz hyS hrS
      have HSPAN : Hid (Calls Try.prog 42 #[.pointer (some ⟨y.1.g, 0, none⟩)] (w2.setCell ⟨y.1.g, 6, none⟩ (.int .i64 (y.1.m.idle + n))).drew fun e w' => e = .returned (.int .i64 (spanF y.1.m.proto y.1.m.st)) ∧ w' = (w2.setCell ⟨y.1.g, 6, none⟩ (.int .i64 (y.1.m.idle + n))).drew) := by
        have hb3' : (w2.setCell ⟨y.1.g, 6, none⟩ (.int .i64 (y.1.m.idle + n))).drew.heap[y.1.g]? = some (.cells ((mpC y.1.m y.1.sv).setIfInBounds 6 (.int .i64 (y.1.m.idle + n))) 109 (0, 0)) := (unhide HX).2.2.2.2.1
        exact span_any y.1.g y.1.m.proto y.1.m.st _ (by simp only [World.cell?, hb3']; simp [mpC]) (by simp only [World.cell?, hb3']; simp [mpC])
      have hle := spanF_le y.1.m.proto y.1.m.st
      by_cases hexp : y.1.m.idle + n < spanF y.1.m.proto y.1.m.st
      · have htk : Hid (tickM n y.1.m = some { y.1.m with idle := y.1.m.idle + n }) := by
          show tickM n y.1.m = _
          unfold tickM
          rw [if_pos hexp]
        have hexp' : ¬ spanF y.1.m.proto y.1.m.st ≤ y.1.m.idle + n := by omega
        generalize hsp : spanF y.1.m.proto y.1.m.st = sp at *
        clear hsp
        go_wp2
        go_region_with ((go_at_call 42; refine (unhide HSPAN).mono ?_; rintro e wq ⟨rfl, rfl⟩))
        all_goals
          go_wp2
          go_roundg (leftC (seen.push y.2) M0)
          case measure =>
            obtain ⟨hTS2, hy, hit2, hF02, hb3, hF23, hsz3, hsz2', hcs, hlm, hk, k1', hyS, hrS, hyM⟩ := unhide HX
            rw [hk]
            exact hlm
          case rel =>
            obtain ⟨hTS2, hy, hit2, hF02, hb3, hF23, hsz3, hsz2', hcs, hlm, hk, k1', hyS, hrS, hyM⟩ := unhide HX
            have hFd : Fr (fun k => k = y.1.g) w2 (w2.setCell ⟨y.1.g, 6, none⟩ (.int .i64 (y.1.m.idle + n))).drew := hF23.drew
            have hkp := hTS2.kept (n := n) hy (m' := { y.1.m with idle := y.1.m.idle + n }) (w' := (w2.setCell ⟨y.1.g, 6, none⟩ (.int .i64 (y.1.m.idle + n))).drew) (by show (w2.setCell ⟨y.1.g, 6, none⟩ (.int .i64 (y.1.m.idle + n))).heap[y.1.g]? = _; rw [hb3]; simp [mpC]) ⟨rfl, rfl, rfl, rfl⟩ rfl hFd hsz3 (by show 0 ≤ y.1.m.idle + n; omega) (by show y.1.m.idle + n < 1000; omega) (unhide htk)
            rw [← hcs] at hkp
            refine ⟨seen.push y.2, c, rfl, hkp, ?_, Nat.le_refl _, hF02.trans' hFd (fun k hk _ => by rw [hk]; exact hyS), ?_⟩
            · exact (Below.heap_setCell w2 ⟨y.1.g, 6, none⟩ _ w.heap.size (fun e => hrS (by rw [e]; exact hyS))).trans hit2
            · show (w2.setCell ⟨y.1.g, 6, none⟩ (.int .i64 (y.1.m.idle + n))).heap.size = _
              rw [hsz3, hsz2']
      · have htk : Hid (tickM n y.1.m = none) := by
          show tickM n y.1.m = _
          unfold tickM
          rw [if_neg hexp]
        have hexp' : spanF y.1.m.proto y.1.m.st ≤ y.1.m.idle + n := by omega
        generalize hsp : spanF y.1.m.proto y.1.m.st = sp at *
        clear hsp
        have HDR : Hid (Calls Try.prog 43 #[.pointer (some ⟨g, 0, none⟩), .pointer (some ⟨y.1.g, 0, none⟩)] (w2.setCell ⟨y.1.g, 6, none⟩ (.int .i64 (y.1.m.idle + n))).drew fun e w' => e = .returned (.tuple #[]) ∧ TenS w' S g hp hi { T with maps := (stepC n y.2 (curC n seen M0)).map (·.1.m) } (stepC n y.2 (curC n seen M0)) c ∧ Fr S w2 w' ∧ w'.heap.size = w2.heap.size) := by
          obtain ⟨hTS2, hy, hit2, hF02, hb3, hF23, hsz3, hsz2', hcs, hlm, hk, k1', hyS, hrS, hyM⟩ := unhide HX
          exact dropS hTS2 hy hb3 hF23.drew hsz3 (unhide htk)
        go_wp2
        go_region_with ((go_at_call 42; refine (unhide HSPAN).mono ?_; rintro e wq ⟨rfl, rfl⟩))
        all_goals
          go_wp2_with (go_at_call 43; refine (unhide HDR).mono ?_; rintro e w4 ⟨rfl, hd4⟩; have HD4 := hide hd4; clear hd4)
          go_roundg (leftC (seen.push y.2) M0)
          case measure =>
            obtain ⟨hTS2, hy, hit2, hF02, hb3, hF23, hsz3, hsz2', hcs, hlm, hk, k1', hyS, hrS, hyM⟩ := unhide HX
            rw [hk]
            exact hlm
          case rel =>
            obtain ⟨hTS2, hy, hit2, hF02, hb3, hF23, hsz3, hsz2', hcs, hlm, hk, k1', hyS, hrS, hyM⟩ := unhide HX
            obtain ⟨hkp, hF4, hs4⟩ := unhide HD4
            rw [← hcs] at hkp
            exact ⟨seen.push y.2, c, rfl, hkp, hF4.some hit2 hrS, Nat.le_refl _, hF02.trans hF4, by omega⟩
end

section
open Go.RowKit
open Go.ChangeMaps (setBlock)

def tickB (n : Int) (B : List (Int × Tn)) : List (Int × Tn) := B.map fun y => (y.1, tickF n y.2)

/-- the tenants of a box of which some have been aged: z.2: the stamp of the tenant's entry -/
def curB (n : Int) (seen : Array Nat) (Z : List ((Int × Tn) × Nat)) : List (Int × Tn) := Z.map fun z => if seen.contains z.2 then (z.1.1, tickF n z.1.2) else z.1

def leftB (seen : Array Nat) (Z : List ((Int × Tn) × Nat)) : Nat := (Z.filter fun z => !seen.contains z.2).length

theorem curB_none (n : Int) (Z : List ((Int × Tn) × Nat)) : curB n #[] Z = Z.map (·.1) := by
  unfold curB
  simp

theorem curB_all (n : Int) (seen : Array Nat) (Z : List ((Int × Tn) × Nat)) (h : ∀ z ∈ Z, seen.contains z.2 = true) : curB n seen Z = tickB n (Z.map (·.1)) := by
  unfold curB tickB
  rw [List.map_map]
  refine List.map_congr_left (fun z hz => ?_)
  rw [h z hz]
  rfl

theorem curB_step {n : Int} {seen : Array Nat} {Z : List ((Int × Tn) × Nat)} {z : (Int × Tn) × Nat} (hz : z ∈ Z) (hs : seen.contains z.2 = false) (ht : Z.Pairwise (fun a b => a.1.1 ≠ b.1.1)) (hn : (Z.map (·.2)).Nodup) :
    curB n (seen.push z.2) Z = putT (curB n seen Z) z.1.1 (tickF n z.1.2) := by
  unfold curB putT
  rw [List.map_map]
  refine List.map_congr_left (fun u hu => ?_)
  show (if (seen.push z.2).contains u.2 then (u.1.1, tickF n u.1.2) else u.1) = if isT z.1.1 (if seen.contains u.2 then (u.1.1, tickF n u.1.2) else u.1) then ((if seen.contains u.2 then (u.1.1, tickF n u.1.2) else u.1).1, tickF n z.1.2) else (if seen.contains u.2 then (u.1.1, tickF n u.1.2) else u.1)
  rw [contains_push]
  by_cases e : u = z
  · subst e
    rw [hs]
    simp [isT]
  · have e1 : u.1.1 ≠ z.1.1 := fun e1 => e (pw_eq ht hu hz (fun q => q e1) (fun q => q e1.symm))
    have e2 : u.2 ≠ z.2 := fun e2 => e (pw_eq (List.pairwise_map.1 hn) hu hz (fun q => q e2) (fun q => q e2.symm))
    have e3 : (u.2 == z.2) = false := by simpa using e2
    rw [e3, Bool.or_false]
    cases seen.contains u.2
    · simp [isT, e1]
    · simp [isT, e1]

theorem leftB_push {seen : Array Nat} {Z : List ((Int × Tn) × Nat)} {z : (Int × Tn) × Nat} (hz : z ∈ Z) (hs : seen.contains z.2 = false) : leftB (seen.push z.2) Z < leftB seen Z := by
  unfold leftB
  induction Z with
  | nil => cases hz
  | cons x r ih =>
    have mono : (r.filter fun y => !(seen.push z.2).contains y.2).length ≤ (r.filter fun y => !seen.contains y.2).length := filter_mono (fun y hy => by
      rw [contains_push] at hy
      cases hc : seen.contains y.2
      · rfl
      · rw [hc] at hy
        simp at hy) r
    rw [List.filter_cons, List.filter_cons]
    by_cases hx : x.2 = z.2
    · have h1 : (seen.push z.2).contains x.2 = true := by rw [contains_push, hx]; simp
      have h2 : seen.contains x.2 = false := by rw [hx]; exact hs
      rw [h1, h2]
      simp only [Bool.not_true, Bool.false_eq_true, if_false, Bool.not_false, if_true, List.length_cons]
      omega
    · have hzr : z ∈ r := by
        rcases List.mem_cons.1 hz with rfl | hz
        · exact absurd rfl hx
        · exact hz
      have := ih hzr
      have e : (seen.push z.2).contains x.2 = seen.contains x.2 := by
        rw [contains_push]
        have : (x.2 == z.2) = false := by simpa using hx
        rw [this, Bool.or_false]
      rw [e]
      split
      · simp only [List.length_cons]; omega
      · exact this

/-- a box, with its entries said -/
def BoxE (w : World) (F : Nat → Prop) (b r : Nat) (B : List (Int × Tn)) (es : Array MapEntry) (c : Nat) : Prop :=
  ∃ C, BoxC w b r C ∧ C.map (fun x => (x.tag, x.T)) = B ∧ (∀ k, foot b r C k → F k) ∧ (∀ k, F k → k < w.heap.size) ∧ w.heap[r]? = some (.map es c) ∧ es.toList.map (fun e => (e.key, e.val)) = C.map (fun x => (Value.int .i64 x.tag, ptrV x.g))

theorem BoxE.keep {w w' : World} {F X : Nat → Prop} {b r : Nat} {B : List (Int × Tn)} {es : Array MapEntry} {c : Nat} (h : BoxE w F b r B es c) (hF : Fr X w w') (hX : ∀ k, F k → ¬ X k) : BoxE w' F b r B es c := by
  obtain ⟨C, h1, h2, h3, h4, h5, h6⟩ := h
  exact ⟨C, h1.keep hF (fun k hk => hX k (h3 k hk)), h2, h3, fun k hk => Nat.lt_of_lt_of_le (h4 k hk) hF.size, hF.some h5 (hX _ (h3 _ (.inr (.inl rfl)))), h6⟩

/-- one tenant is aged -/
theorem BoxE.age {w : World} {F : Nat → Prop} {b r : Nat} {B : List (Int × Tn)} {es : Array MapEntry} {c : Nat} (h : BoxE w F b r B es c) {e : MapEntry} (he : e ∈ es.toList) (n : Int) (h0 : 0 ≤ n) (h1 : n ≤ 100000) :
    ∃ t T g, (t, T) ∈ B ∧ e.key = .int .i64 t ∧ e.val = .pointer (some ⟨g, 0, none⟩) ∧ Calls Try.prog 27 #[.pointer (some ⟨g, 0, none⟩), .int .i64 n] w fun en w' => en = .returned (.tuple #[]) ∧ BoxE w' (grow F w w') b r (putT B t (tickF n T)) es c ∧ Fr F w w' := by
  obtain ⟨C, a1, a2, a3, a4, a5, a6⟩ := h
  obtain ⟨x, hx, hk, hv⟩ := (keysB a6).1 e he
  refine ⟨x.tag, x.T, x.g, by rw [← a2]; exact List.mem_map.2 ⟨x, hx, rfl⟩, hk, hv, (age_any (a1.ten x hx).1 n h0 h1).mono ?_⟩
  rintro en w' ⟨rfl, L', hT, hF⟩
  have uniq : ∀ y ∈ C, y.tag = x.tag → y = x := fun y hy e => pw_eq a1.apart hy hx (fun q => q.1 e) (fun q => q.1 e.symm)
  refine ⟨rfl, ⟨_, a1.upd hx hT hF (fun k hk => a4 k (a3 k hk)), ?_, ?_, ?_, hF.some a5 (a1.ten x hx).2.2, ?_⟩, hF.mono (fun k hk _ => a3 k (.inr (.inr ⟨x, hx, hk⟩)))⟩
  · rw [← a2]
    unfold putT
    rw [List.map_map, List.map_map]
    refine List.map_congr_left (fun z hz => ?_)
    show (fun x => (x.tag, x.T)) (if z.tag = x.tag then (⟨x.tag, tickF n x.T, x.g, x.hp, x.hi, grow x.S w w', L'⟩ : BC) else z) = if isT x.tag (z.tag, z.T) then (z.tag, tickF n x.T) else (z.tag, z.T)
    by_cases e : z.tag = x.tag
    · rw [if_pos e, if_pos (by simp [isT, e])]
      show (x.tag, _) = (z.tag, _)
      rw [e]
    · rw [if_neg e, if_neg (by simp [isT]; exact e)]
  · rintro k (hk | hk | ⟨z, hz, hk⟩)
    · exact .inl (a3 k (.inl hk))
    · exact .inl (a3 k (.inr (.inl hk)))
    · obtain ⟨y, hy, rfl⟩ := List.mem_map.1 hz
      by_cases e : y.tag = x.tag
      · rw [if_pos e] at hk
        rcases hk with hk | hk
        · exact .inl (a3 k (.inr (.inr ⟨x, hx, hk⟩)))
        · exact .inr hk
      · rw [if_neg e] at hk
        exact .inl (a3 k (.inr (.inr ⟨y, hy, hk⟩)))
  · rintro k (hk | hk)
    · exact Nat.lt_of_lt_of_le (a4 k hk) hF.size
    · exact hk.2
  · rw [a6, List.map_map]
    refine List.map_congr_left (fun y hy => ?_)
    show _ = (fun x => (Value.int .i64 x.tag, ptrV x.g)) (if y.tag = x.tag then (⟨x.tag, tickF n x.T, x.g, x.hp, x.hi, grow x.S w w', L'⟩ : BC) else y)
    split
    · rename_i e
      rw [uniq y hy e]
    · rfl
end

section
open Go.RowKit
open Go.ChangeMaps (setBlock)

theorem zip_list : ∀ (es : List MapEntry) (C : List BC), es.map (fun e => (e.key, e.val)) = C.map (fun x => (Value.int .i64 x.tag, ptrV x.g)) → ∃ Z : List ((Int × Tn) × Nat), Z.map (·.1) = C.map (fun x => (x.tag, x.T)) ∧ es.map (fun e => (e.key, e.born)) = Z.map (fun z => (Value.int .i64 z.1.1, z.2))
  | [], [], _ => ⟨[], rfl, rfl⟩
  | [], _ :: _, h => by simp at h
  | _ :: _, [], h => by simp at h
  | e :: es, x :: C, h => by
    simp only [List.map_cons, List.cons.injEq, Prod.mk.injEq] at h
    obtain ⟨Z, h1, h2⟩ := zip_list es C h.2
    exact ⟨((x.tag, x.T), e.born) :: Z, by simp [h1], by simp [h2, h.1.1]⟩

/-- what a loop over a box's tenants has come to -/
def TickAt (w : World) (F : Nat → Prop) (b r : Nat) (Z : List ((Int × Tn) × Nat)) (es : Array MapEntry) (c : Nat) (n : Int) (k : Nat) (wr : World) : Prop :=
  ∃ seen c0 F', k = leftB seen Z ∧ BoxE wr F' b r (curB n seen Z) es c ∧ wr.heap[w.heap.size]? = some (.mapIter (some r) c seen c0) ∧ ¬ F' w.heap.size ∧ c ≤ c0 ∧ Fr F w wr ∧ (∀ k, F k → F' k) ∧ ∀ k, F' k → F k ∨ w.heap.size < k

set_option maxHeartbeats 4000000 in
set_option maxRecDepth 100000 in
theorem Tick_ok {w : World} {F : Nat → Prop} {b : Nat} {B : List (Int × Tn)} (h : BoxR w F b B) (n : Int) (hn0 : 0 ≤ n) (hn1 : n ≤ 100000) :
    Calls Try.prog 16 #[.pointer (some ⟨b, 0, none⟩), .int .i64 n] w fun e w' => e = .returned (.int .i64 0) ∧ BoxR w' (grow F w w') b (tickB n B) ∧ Fr F w w' := by
  obtain ⟨r, C, hC, hB, hft, hbd⟩ := h
  obtain ⟨es, c, h1, h2, h3, h4⟩ := hC.map
  obtain ⟨Z, z1, z2⟩ := zip_list es.toList C h2
  have hrg := run_range_map (P := Try.prog) w 80 3 83 r es c Try.underlying80 h1
  obtain ⟨l1, c0'⟩ := hC.cell
  have zt : Z.Pairwise (fun a b => a.1.1 ≠ b.1.1) := by
    have := hC.apart
    have hp : (C.map (fun x => (x.tag, x.T))).Pairwise (fun a b => a.1 ≠ b.1) := List.pairwise_map.2 (this.imp (fun q => q.1))
    rw [← z1] at hp
    have hp2 := List.pairwise_map.1 hp
    exact hp2
  have zn : (Z.map (·.2)).Nodup := by
    have e1 : es.toList.map (·.born) = Z.map (·.2) := by
      have := congrArg (List.map Prod.snd) z2
      rw [List.map_map, List.map_map] at this
      exact this
    rw [← e1]
    exact h4
  have hF0 : ¬ F w.heap.size := fun hk => by have := hbd _ hk; omega
  have HST : Hid (TickAt w F b r Z es c n (leftB #[] Z) (w.alloc (.mapIter (some r) c #[] c))) := by
    refine ⟨#[], c, F, rfl, ?_, blkN _ _ _ rfl, hF0, Nat.le_refl _, (Fr.refl _ _).alloc _, fun _ hk => hk, fun _ hk => .inl hk⟩
    rw [curB_none, z1, hB]
    exact BoxE.keep (X := fun _ => False) ⟨C, hC, hB, hft, hbd, h1, h2⟩ (Fr.of_below ((Below.refl _ _).alloc (Nat.le_refl _) _)) (fun _ _ f => f)
  have HZ := hide (And.intro z1 (And.intro z2 (And.intro zt (And.intro zn (And.intro h3 (And.intro h4 hB))))))
  have hne : (n < 0) = False := by simp; omega
  clear hC hB hft h1 h2 h3 h4 z1 z2 zt zn hne
  go_enter Try.func16, Try.ntmps16
  go_wp2
  go_loopg [6] (leftB #[] Z) (fun k u wr => TickAt w F b r Z es c n k wr)
  case atStart => exact unhide HST
  case round =>
    obtain ⟨seen, c1, F', hk, hBE, hit, hFi, hc1, hFr, hup, hdn⟩ := hrel
    have k1 : wr.heap[r]? = some (.map es c) := by
      obtain ⟨_, _, _, _, _, q5, _⟩ := hBE
      exact q5
    have HR := hide (And.intro hk (And.intro hBE (And.intro hit (And.intro hFi (And.intro hc1 (And.intro hFr (And.intro hup (And.intro hdn k1))))))))
    clear hk hBE hit hFi hc1 hFr hup hdn k1 HST
    go_wp2_with (at_next; refine wpList_next_raw _ rfl _ rfl w.heap.size r c c1 seen es c rfl (unhide HR).2.2.1 (unhide HR).2.2.2.2.2.2.2.2 (unhide HZ).2.2.2.2.1 (unhide HR).2.2.2.2.1 ?_ ?_)
    · intro h0
      go_wp2
      go_ret
      obtain ⟨hk, hBE, hit, hFi, hc1, hFr, hup, hdn, k1⟩ := unhide HR
      obtain ⟨z1, z2, zt, zn, h3, h4, hB⟩ := unhide HZ
      have hall : ∀ z ∈ Z, seen.contains z.2 = true := fun z hz => by
        have : (Value.int .i64 z.1.1, z.2) ∈ es.toList.map (fun e => (e.key, e.born)) := by rw [z2]; exact List.mem_map.2 ⟨z, hz, rfl⟩
        obtain ⟨e, he, e1⟩ := List.mem_map.1 this
        rw [← (Prod.mk.inj e1).2]
        exact all_seen es seen (by rw [unhide h0]; rfl) e he
      rw [curB_all n seen Z hall, z1, hB] at hBE
      obtain ⟨C', q1, q2, q3, q4, q5, q6⟩ := hBE
      refine ⟨rfl, ⟨r, C', q1, q2, fun k hk => ?_, fun k hk => ?_⟩, hFr⟩
      · rcases hdn k (q3 k hk) with h' | h'
        · exact .inl h'
        · exact .inr ⟨by omega, q4 k (q3 k hk)⟩
      · rcases hk with hk | hk
        · exact Nat.lt_of_lt_of_le (hbd k hk) hFr.size
        · exact hk.2
    · intro e w1 hal
      obtain ⟨hk, hBE, hit, hFi, hc1, hFr, hup, hdn, k1⟩ := unhide HR
      obtain ⟨z1, z2, zt, zn, h3, h4, hB⟩ := unhide HZ
      obtain ⟨he, hw1⟩ := unhide hal
      obtain ⟨heM, hnot⟩ := mem_left (Array.mem_toList_iff.2 he)
      have hw1h : w1.heap = wr.heap := by rcases hw1 with rfl | rfl <;> rfl
      have hF1 : Fr (fun k => k = w.heap.size) wr (setBlock w1 w.heap.size (.mapIter (some r) c (seen.push e.born) c)) := by
        rcases hw1 with rfl | rfl
        · exact (Fr.refl _ _).setBlock _ (fun _ => rfl)
        · exact (Fr.refl _ _).drew.setBlock _ (fun _ => rfl)
      have hit2 : (setBlock w1 w.heap.size (.mapIter (some r) c (seen.push e.born) c)).heap[w.heap.size]? = some (.mapIter (some r) c (seen.push e.born) c) := setBlock_same (w := w1) (o := .mapIter (some r) c seen c1) (by rw [hw1h]; exact hit)
      have hBE2 := hBE.keep hF1 (fun k hk e => hFi (e ▸ hk))
      generalize setBlock w1 w.heap.size (.mapIter (some r) c (seen.push e.born) c) = w2 at *
      have k1' : w2.heap[r]? = some (.map es c) := by
        obtain ⟨_, _, _, _, _, q5, _⟩ := hBE2
        exact q5
      have hen := run_entry_at (P := Try.prog) w2 w.heap.size r c seen es c e hit2 k1' heM h4
      obtain ⟨t, Tt, g, htB, hkey, hval, hcall⟩ := hBE2.age heM n hn0 hn1
      have hz : ∃ z ∈ Z, z.2 = e.born ∧ z.1.1 = t := by
        have : (e.key, e.born) ∈ Z.map (fun z => (Value.int .i64 z.1.1, z.2)) := by rw [← z2]; exact List.mem_map.2 ⟨e, heM, rfl⟩
        obtain ⟨z, hz, e1⟩ := List.mem_map.1 this
        exact ⟨z, hz, (Prod.mk.inj e1).2, int_inj ((Prod.mk.inj e1).1.trans hkey)⟩
      obtain ⟨z, hzZ, hzb, hzt⟩ := hz
      have hTt : Tt = z.1.2 := by
        unfold curB at htB
        obtain ⟨u, hu, e1⟩ := List.mem_map.1 htB
        have e2 : u.1.1 = t := by
          split at e1
          · exact (Prod.mk.inj e1).1
          · rw [e1]
        have e3 : u = z := pw_eq zt hu hzZ (fun q => q (e2.trans hzt.symm)) (fun q => q (hzt.trans e2.symm))
        subst e3
        rw [hzb, hnot] at e1
        simp only [Bool.false_eq_true, if_false] at e1
        rw [e1]
      have hst : curB n (seen.push e.born) Z = putT (curB n seen Z) t (tickF n Tt) := by
        rw [← hzb, ← hzt, hTt]
        exact curB_step hzZ (by rw [hzb]; exact hnot) zt zn
      have hlm : leftB (seen.push e.born) Z < leftB seen Z := by
        rw [← hzb]
        exact leftB_push hzZ (by rw [hzb]; exact hnot)
      rw [hkey, hval] at hen
      rw [hkey, hval]
      have hF02 : Fr F w w2 := hFr.trans' hF1 (fun k hk hl => by omega)
      have hs2 : w.heap.size < w2.heap.size := (Array.getElem?_eq_some_iff.1 hit2).1
      have HC := hide hcall
      have HX := hide (And.intro hit2 (And.intro hF02 (And.intro hst (And.intro hlm (And.intro hk (And.intro hup (And.intro hdn (And.intro hs2 hFi))))))))
      clear hcall hit2 hF02 hst hlm hk hup hdn hBE hBE2 hit hc1 hFr k1 k1' HR hal he hw1 heM hnot hw1h hF1 htB hzZ hzb hzt hTt z1 z2 zt zn h3 h4 hB hkey hval hFi
      go_wp2_with (go_at_call 27; refine (unhide HC).mono ?_; rintro en w4 ⟨rfl, hd4⟩; have HD4 := hide hd4; clear hd4)
      go_roundg (leftB (seen.push e.born) Z)
      case measure =>
        obtain ⟨hit2, hF02, hst, hlm, hk, hup, hdn, hs2, hFi⟩ := unhide HX
        rw [hk]
        exact hlm
      case rel =>
        obtain ⟨hit2, hF02, hst, hlm, hk, hup, hdn, hs2, hFi⟩ := unhide HX
        obtain ⟨hB4, hF4⟩ := unhide HD4
        rw [← hst] at hB4
        refine ⟨seen.push e.born, c, _, rfl, hB4, hF4.some hit2 hFi, ?_, Nat.le_refl _, hF02.trans' hF4 (fun k hk hl => ?_), fun k hk => .inl (hup k hk), ?_⟩
        · rintro (hk | hk)
          · exact hFi hk
          · omega
        · rcases hdn k hk with h' | h'
          · exact h'
          · omega
        · rintro k (hk | hk)
          · exact hdn k hk
          · exact .inr (by omega)
end

section
open Go.RowKit Go.Shelf

/-- the numbers of this program: slices.Clone is function 64, []int is type 50 -/
def ren15 : Ren := ⟨fun _ => 71, fun n => if n = 22 then 50 else n, fun n => n⟩

theorem lays15 : Lays2.n15 Try.prog ren15 where
  mixed := by kernel_rfl
  f15 := by kernel_rfl
  t3 := by kernel_rfl
  a3 := fun _ => by kernel_rfl
  z3 := fun _ => by kernel_rfl
  v3 := fun _ => by kernel_rfl
  t4 := by kernel_rfl
  a4 := fun _ => by kernel_rfl
  z4 := fun _ => by kernel_rfl
  v4 := fun _ => by kernel_rfl
  t22 := by kernel_rfl
  a22 := fun _ => by kernel_rfl
  z22 := fun _ => by kernel_rfl
  v22 := fun _ => by kernel_rfl
  i3 := by kernel_rfl

theorem clone_any (sv : Value) (zs : List Int) (w : World) (hl : zs.length ≤ 4) (hown : w.ownsRow 0 3 1 sv zs.length (intsV zs)) :
    Calls Try.prog 71 #[sv] w fun e w' => ∃ sv', e = .returned sv' ∧ w'.ownsRow w.heap.size 3 1 sv' zs.length (intsV zs) ∧ Below w.heap.size w w' := by
  rcases hown.2 with ⟨rfl, hn⟩ | ⟨b, cap, cur, rfl, _⟩
  · have hz : zs = [] := List.eq_nil_of_length_eq_zero hn
    subst hz
    refine (Any.slices_Clone_int_nil lays15 0 0 w).mono ?_
    rintro e w' ⟨rfl, rfl⟩
    exact ⟨_, rfl, World.ownsRow_nil _ _ _ _, Below.refl _ _⟩
  · refine (Any.slices_Clone_int lays15 b 0 zs.length cap zs w (Nat.le_refl _) (by omega) (fun j hj => ?_)).mono ?_
    · rw [Nat.zero_add, row_cell hown hj]
      simp [List.getD, hj]
    · rintro e w' ⟨v', rfl, h1, _, h2⟩
      refine ⟨v', rfl, ?_, h2⟩
      rw [List.take_length] at h1
      exact h1

def rowC (m : Mp) (sv : Value) : List Value := [.int .i64 m.proto, .int .i64 m.ia, .int .i64 m.ip, .int .i64 m.port, sv, .int .i64 m.st, .int .i64 m.idle]

theorem row_slice {w : World} {B : Nat} {sv : Value} {n : Nat} {xs : List Value} (h : w.ownsRow B 3 1 sv n xs) : ∃ ao l c, sv = .slice ao l c := by
  rcases h.2 with ⟨rfl, _⟩ | ⟨b, cap, cur, rfl, _⟩
  · exact ⟨_, _, _, rfl⟩
  · exact ⟨_, _, _, rfl⟩

theorem row_keepB {w w' : World} {B B' : Nat} {e : TypeId} {sz : Nat} {sv : Value} {n : Nat} {xs : List Value} {X : Nat → Prop} (h : w.ownsRow B e sz sv n xs) (hB : B' ≤ B) (hF : Fr X w w') (hX : ∀ k, sv.ownBlock = some k → B ≤ k → ¬ X k) : w'.ownsRow B' e sz sv n xs := by
  refine ⟨h.1, ?_⟩
  rcases h.2 with h' | ⟨b, cap, cur, rfl, hb, hg, rest⟩
  · exact .inl h'
  · exact .inr ⟨b, cap, cur, rfl, by omega, hF.some hg (hX b rfl hb), rest⟩

theorem Fr.set2 {a b : World} {n : Nat} (h : Fr (fun k => k = n ∨ k = n + 1) a b) {p : Addr} {u : Value} (hp : p.block = n ∨ p.block = n + 1) : Fr (fun k => k = n ∨ k = n + 1) a (b.setCell p u) := h.setCell u (fun _ => hp)

set_option maxHeartbeats 2000000 in
theorem told_any (g : Nat) (sv : Value) (m : Mp) (w : World) (hM : Mem w g sv m) (hlen : m.peers.length ≤ 4) :
    Calls Try.prog 51 #[.pointer (some ⟨g, 0, none⟩)] w fun e w' => ∃ sv', e = .returned (.agg #[.int .i64 m.proto, .int .i64 m.ia, .int .i64 m.ip, .int .i64 m.port, sv', .int .i64 m.st, .int .i64 m.idle]) ∧ w'.ownsRow w.heap.size 3 1 sv' m.peers.length (intsV m.peers) ∧ Below w.heap.size w w' := by
  have hC : ∀ W, Below w.heap.size w W → Hid (Calls Try.prog 71 #[sv] W fun e w' => ∃ sv', e = .returned sv' ∧ w'.ownsRow W.heap.size 3 1 sv' m.peers.length (intsV m.peers) ∧ Below W.heap.size W w') := fun W hb =>
    clone_any sv m.peers W hlen (ownsRow_keep hM.2 (Fr.of_below (X := fun _ => False) hb) (fun _ _ f => f))
  obtain ⟨hlt, c0, c1, c2, c3, c4, c5, c6, -, -, -⟩ := hM.cells
  obtain ⟨ao, l, cp, rfl⟩ := row_slice hM.2
  clear hM
  go_enter Try.func51, Try.ntmps51
  go_wp2_with fail
  have hbW : Below w.heap.size w ((w.alloc (.cells #[.int .i64 0, .int .i64 0, .int .i64 0, .int .i64 0, .slice none 0 0, .int .i64 0, .int .i64 0] 52)).alloc (.cells #[.int .i64 m.proto, .int .i64 m.ia, .int .i64 m.ip, .int .i64 m.port, .slice ao l cp, .int .i64 m.st, .int .i64 m.idle] 52)) := ((Below.refl _ _).alloc (Nat.le_refl _) _).alloc (by simp) _
  refine (unhide (hC _ hbW)).mono ?_
  rintro e w1 ⟨sv', rfl, hO1, hb1⟩
  obtain ⟨ao', l', cp', rfl⟩ := row_slice hO1
  have hz : w.heap.size + 2 ≤ w1.heap.size := by have := hb1.size; simpa using this
  have hr1 : w1.heap[w.heap.size]? = some (.cells #[.int .i64 0, .int .i64 0, .int .i64 0, .int .i64 0, .slice none 0 0, .int .i64 0, .int .i64 0] 52 (0, 0)) := (hb1.block _ (by simp; omega)).trans (blkA (blkN _ _ _ rfl))
  have hc1 : w1.heap[w.heap.size + 1]? = some (.cells #[.int .i64 m.proto, .int .i64 m.ia, .int .i64 m.ip, .int .i64 m.port, .slice ao l cp, .int .i64 m.st, .int .i64 m.idle] 52 (0, 0)) := (hb1.block _ (by simp)).trans (blkN _ _ _ (by simp))
  obtain ⟨r0, r1, r2, r3, r4, r5, r6, rz⟩ : w1.cell? ⟨w.heap.size, 0, none⟩ = some (.int .i64 0) ∧ w1.cell? ⟨w.heap.size, 1, none⟩ = some (.int .i64 0) ∧ w1.cell? ⟨w.heap.size, 2, none⟩ = some (.int .i64 0) ∧ w1.cell? ⟨w.heap.size, 3, none⟩ = some (.int .i64 0) ∧ w1.cell? ⟨w.heap.size, 4, none⟩ = some (.slice none 0 0) ∧ w1.cell? ⟨w.heap.size, 5, none⟩ = some (.int .i64 0) ∧ w1.cell? ⟨w.heap.size, 6, none⟩ = some (.int .i64 0) ∧ ∀ o, w1.frozen? ⟨w.heap.size, o, none⟩ = false := by
    refine ⟨?_, ?_, ?_, ?_, ?_, ?_, ?_, fun o => ?_⟩ <;> simp [World.cell?, World.frozen?, hr1]
  obtain ⟨s0, s1, s2, s3, s4, s5, s6, sz⟩ : w1.cell? ⟨w.heap.size + 1, 0, none⟩ = some (.int .i64 m.proto) ∧ w1.cell? ⟨w.heap.size + 1, 1, none⟩ = some (.int .i64 m.ia) ∧ w1.cell? ⟨w.heap.size + 1, 2, none⟩ = some (.int .i64 m.ip) ∧ w1.cell? ⟨w.heap.size + 1, 3, none⟩ = some (.int .i64 m.port) ∧ w1.cell? ⟨w.heap.size + 1, 4, none⟩ = some (.slice ao l cp) ∧ w1.cell? ⟨w.heap.size + 1, 5, none⟩ = some (.int .i64 m.st) ∧ w1.cell? ⟨w.heap.size + 1, 6, none⟩ = some (.int .i64 m.idle) ∧ ∀ o, w1.frozen? ⟨w.heap.size + 1, o, none⟩ = false := by
    refine ⟨?_, ?_, ?_, ?_, ?_, ?_, ?_, fun o => ?_⟩ <;> simp [World.cell?, World.frozen?, hc1]
  have HX := hide (And.intro hO1 (And.intro hb1 (And.intro hbW (And.intro hr1 hc1))))
  clear hO1 hb1 hbW hr1 hc1 hC
  go_wp2
  refine bodyPost_ret (v := .agg #[.int .i64 m.proto, .int .i64 m.ia, .int .i64 m.ip, .int .i64 m.port, .slice ao' l' cp', .int .i64 m.st, .int .i64 m.idle]) (by simp [results, Try.results51, go_sem, r0, r1, r2, r3, r4, r5, r6]) rfl ⟨_, rfl, ?_, ?_⟩
  · obtain ⟨hO1, hb1, hbW, hr1, hc1⟩ := unhide HX
    refine row_keepB (X := fun k => k = w.heap.size ∨ k = w.heap.size + 1) hO1 (by simp; omega) ?_ (fun k _ hk => by simp at hk; omega)
    repeat (refine Fr.set2 ?_ (.inl rfl))
    refine Fr.set2 ?_ (.inr rfl)
    exact Fr.refl _ _
  · obtain ⟨hO1, hb1, hbW, hr1, hc1⟩ := unhide HX
    repeat (refine Below.setCell ?_ (by simp) _)
    exact hbW.trans (hb1.mono (by simp; omega))
end

section

theorem rowF_snoc (l : List Mp) (p : Int) : ∀ (n : Nat) (q : Int), rowF l p (n + 1) q = rowF l p n q ++ (match l.find? (isP p (q + n)) with | some m => [m] | none => [])
  | 0, q => by
    simp only [rowF, List.append_nil, List.nil_append]
    have : q + ((0 : Nat) : Int) = q := by omega
    rw [this]
    cases l.find? (isP p q) <;> rfl
  | n + 1, q => by
    have ih := rowF_snoc l p n (q + 1)
    rw [rowF, ih, rowF]
    have : q + 1 + (n : Int) = q + ((n + 1 : Nat) : Int) := by omega
    rw [this, List.append_assoc]

/-- the rows ahead of Proto k -/
def upTo (T : Tn) : Nat → List Mp
  | 0 => []
  | k + 1 => upTo T k ++ rowF T.maps (k + 1) (T.high + 1 - T.low).toNat T.low

theorem upTo_three (T : Tn) : upTo T 3 = tableF T := by
  simp only [upTo, tableF, List.nil_append, List.append_assoc]
  rfl

theorem nodup_lt : ∀ (n : Nat) (l : List Nat), l.Nodup → (∀ x ∈ l, x < n) → l.length ≤ n
  | 0, [], _, _ => Nat.le_refl _
  | 0, x :: _, _, h => by have := h x (.head _); omega
  | n + 1, l, hn, h => by
    have h1 : (l.erase n).length ≤ n := nodup_lt n (l.erase n) (hn.erase n) (fun x hx => by
      have h2 := (hn.mem_erase_iff).1 hx
      have := h x h2.2
      omega)
    have h3 : l.length ≤ (l.erase n).length + 1 := by
      rw [List.length_erase]
      split <;> omega
    omega

def codeM (T : Tn) (m : Mp) : Nat := ((m.proto - 1) * 64 + (m.port - T.low)).toNat

theorem good_few {T : Tn} (h : GoodT T) : T.maps.length ≤ 192 := by
  have h1 := h.span
  have := nodup_lt 192 (T.maps.map (codeM T)) (by
    refine List.pairwise_map.2 (h.apart.imp_of_mem ?_)
    intro a b ha hb hab e
    obtain ⟨a1, a2, a3, a4, _⟩ := h.ok a ha
    obtain ⟨b1, b2, b3, b4, _⟩ := h.ok b hb
    apply hab.1
    unfold codeM at e
    omega) (by
    intro x hx
    obtain ⟨m, hm, rfl⟩ := List.mem_map.1 hx
    obtain ⟨a1, a2, a3, a4, _⟩ := h.ok m hm
    unfold codeM
    omega)
  simpa using this

theorem rowF_len (l : List Mp) (p : Int) : ∀ (n : Nat) (q : Int), (rowF l p n q).length ≤ n
  | 0, _ => Nat.le_refl _
  | n + 1, q => by
    have := rowF_len l p n (q + 1)
    rw [rowF, List.length_append]
    split <;> simp <;> omega
end

section
open Go.RowKit

/-- a table in memory: its rows, the lists of peers in them -/
def TabR (W : World) (base : Nat) (lv : Value) (ms : List Mp) : Prop :=
  ∃ R : List (Mp × Value), R.map (·.1) = ms ∧ W.ownsRow base 52 7 lv ms.length (R.flatMap fun y => rowC y.1 y.2) ∧ ∀ y ∈ R, W.ownsRow base 3 1 y.2 y.1.peers.length (intsV y.1.peers)

theorem row_kind {w : World} {B B' : Nat} {e e' : TypeId} {sz sz' : Nat} {v v' : Value} {n n' : Nat} {xs xs' : List Value} (h : w.ownsRow B e sz v n xs) (h' : w.ownsRow B' e' sz' v' n' xs') (he : e ≠ e') {k : Nat} (hk : v.ownBlock = some k) : v'.ownBlock ≠ some k := by
  intro hk'
  rcases h.2 with ⟨rfl, _⟩ | ⟨b, cap, cur, rfl, _, hb, _⟩
  · cases hk
  · rcases h'.2 with ⟨rfl, _⟩ | ⟨b', cap', cur', rfl, _, hb', _⟩
    · cases hk'
    · cases hk
      cases hk'
      rw [hb] at hb'
      cases hb'
      exact he rfl

theorem TabR.snoc {W W1 W3 : World} {base g2 cap2 : Nat} {lv sv' : Value} {ms : List Mp} {m : Mp} {R : List (Mp × Value)} {o : Obj} (hR : R.map (·.1) = ms) (hL : W.ownsRow base 52 7 lv ms.length (R.flatMap fun y => rowC y.1 y.2)) (hP : ∀ y ∈ R, W.ownsRow base 3 1 y.2 y.1.peers.length (intsV y.1.peers))
    (hbase : base ≤ W.heap.size) (hb1 : Below W.heap.size W W1) (hsv : W1.ownsRow W.heap.size 3 1 sv' m.peers.length (intsV m.peers)) (hO3 : W3.ownsRow base 52 7 (.slice (some ⟨g2, 0, none⟩) (ms.length + 1) cap2) (ms.length + 1) ((R.flatMap fun y => rowC y.1 y.2) ++ rowC m sv'))
    (hG3 : (lv.ownBlock = some g2 ∧ (W1.alloc o).grownBy W3 (some g2)) ∨ (g2 = (W1.alloc o).heap.size ∧ (W1.alloc o).grownBy W3 none)) :
    TabR W3 base (.slice (some ⟨g2, 0, none⟩) (ms.length + 1) cap2) (ms ++ [m]) := by
  have hF1 : Fr (fun _ => False) W W1 := Fr.of_below hb1
  have hF3 : Fr (fun k => lv.ownBlock = some k) W1 W3 := by
    rcases hG3 with ⟨h1, h2⟩ | ⟨_, h2⟩
    · exact ((Fr.refl _ W1).alloc o).trans (Fr.of_grown h2 (fun k hk _ => by cases hk; exact h1))
    · exact ((Fr.refl _ W1).alloc o).trans (Fr.of_grown h2 (fun k hk _ => by cases hk))
  have hL1 := row_keepB hL (Nat.le_refl _) hF1 (fun _ _ _ f => f)
  refine ⟨R ++ [(m, sv')], by simp [hR], ?_, ?_⟩
  · rw [List.length_append, List.flatMap_append]
    simpa using hO3
  · intro y hy
    rcases List.mem_append.1 hy with hy | hy
    · have h1 := row_keepB (hP y hy) (Nat.le_refl _) hF1 (fun _ _ _ f => f)
      exact row_keepB h1 (Nat.le_refl _) hF3 (fun k hk _ hk' => row_kind h1 hL1 (by decide) hk hk')
    · rw [List.mem_singleton.1 hy]
      exact row_keepB hsv hbase hF3 (fun k hk _ hk' => row_kind hsv hL1 (by decide) hk hk')

def mapZ : Value := .agg #[.int .i64 0, .int .i64 0, .int .i64 0, .int .i64 0, .slice none 0 0, .int .i64 0, .int .i64 0]
theorem info52 : (Try.prog.info? 52).map (fun i => (i.zero, i.size, i.bytes)) = some (some mapZ, 7, 72) := by kernel_rfl

theorem run_lenMap (w : World) (h c : Nat) (es : Array MapEntry) (hh : w.heap[h]? = some (.map es c)) (_hs : es.size ≤ 192) (ty : TypeId) : (Builtin.len_ #[101] ty #[.map (some h)]).run Try.prog w = .ok (.int .i64 es.size) w := by
  simp [Builtin.len_, run_underlying Try.underlying101, MapKept.run_getObj_map hh, goInt, Result.andThen]

theorem upTo_len {T : Tn} (h : GoodT T) : ∀ k : Nat, (upTo T k).length ≤ k * 64
  | 0 => Nat.le_refl _
  | k + 1 => by
    have h1 := upTo_len h k
    have h2 := rowF_len T.maps (k + 1) (T.high + 1 - T.low).toNat T.low
    have h3 := h.span
    rw [upTo, List.length_append]
    omega

set_option maxHeartbeats 4000000 in
set_option maxRecDepth 100000 in
theorem table_ten {w : World} {S : Nat → Prop} {g hp hi : Nat} {T : Tn} {L : List Cl} (h : TenR w S g hp hi T L) :
    Calls Try.prog 30 #[.pointer (some ⟨g, 0, none⟩)] w fun e w' => ∃ lv, e = .returned lv ∧ TabR w' w.heap.size lv (tableF T) ∧ Below w.heap.size w w' := by
  obtain ⟨i0, hi0, hz0, hz1, hz2⟩ := info_parts info52
  obtain ⟨es, c, a1, a2, _⟩ := h.mp
  have hes : es.size ≤ 192 := by
    have h1 := good_few h.good
    have h2 := congrArg List.length a2
    have h3 := congrArg List.length h.maps
    simp at h2 h3
    omega
  have hlen := fun ty => run_lenMap w hp c es a1 hes ty
  have hmk := run_make (P := Try.prog) w 43 52 i0 mapZ Try.underlying43 hi0 hz0 .i64 .i64 0 es.size (Int.le_refl _) (by omega) (by rw [hz2]; omega) (by omega)
  have HI := hide (And.intro hi0 (And.intro hz0 (And.intro hz1 hz2)))
  obtain ⟨l1, -, c1, c2, c3, -⟩ := h.cells
  have hlo := h.good.low
  have hhi := h.good.high
  have hle := h.good.le
  have HT := hide h
  clear h a2 hi0 hz0 hz2
  rw [hz1] at hmk
  simp only [Int.toNat_zero, Int.toNat_natCast] at hmk
  have HST : Hid (TabR (w.alloc (.cells (madeCells mapZ.cells (es.size * 7)) 52)) w.heap.size (.slice (some ⟨w.heap.size, 0, none⟩) 0 es.size) (upTo T 0)) := by
    refine ⟨[], rfl, ?_, by simp⟩
    have := World.ownsRow_made (e := 52) (size := 7) (base := w.heap.size) w (madeCells mapZ.cells (es.size * 7)) es.size (Nat.le_refl _) (by unfold maxLen; omega) (by simp [madeCells])
    simpa [upTo] using this
  generalize hWm : w.alloc (.cells (madeCells mapZ.cells (es.size * 7)) 52) = wm at *
  have hbm : Below w.heap.size w wm := by rw [← hWm]; exact (Below.refl _ _).alloc (Nat.le_refl _) _
  have HBM := hide hbm
  clear hWm hbm hz1 a1
  go_enter Try.func30, Try.ntmps30
  go_wp2
  go_loopg [3, 4] 3 (fun k l p wr => ∃ j : Nat, j ≤ 3 ∧ k = 3 - j ∧ p = .int .i64 ((j : Int) + 1) ∧ TabR wr w.heap.size l (upTo T j) ∧ Below w.heap.size w wr)
  case atStart => exact ⟨0, by omega, by omega, rfl, unhide HST, unhide HBM⟩
  case round =>
    obtain ⟨j, hj, hk, rfl, hTab, hbl⟩ := hrel
    have HK := hide hk
    have HTab := hide hTab
    have HBl := hide hbl
    have hlo1 := (hbl.cell (p := ⟨g, 1, none⟩) l1).trans c1
    clear hk hTab hbl HST HBM
    by_cases hlt : j < 3
    · have hjl : (upTo T j).length ≤ j * 64 := upTo_len (unhide HT).good j
      generalize wr = wo at *
      have hj3 : decide ((j : Int) + 1 ≤ 3) = true := by simp; omega
      go_wp2
      go_loopg [3, 5] (T.high + 1 - T.low).toNat (fun k l q wr => ∃ x : Int, T.low ≤ x ∧ x ≤ T.high + 1 ∧ k = (T.high + 1 - x).toNat ∧ q = .int .i64 x ∧ TabR wr w.heap.size l (upTo T j ++ rowF T.maps ((j : Int) + 1) (x - T.low).toNat T.low) ∧ Below w.heap.size w wr)
      case atStart => exact ⟨T.low, by omega, by omega, rfl, rfl, by simpa [rowF] using unhide HTab, unhide HBl⟩
      case round =>
        obtain ⟨x, hx1, hx2, hk2, rfl, hTab2, hbl2⟩ := hrel
        have hc2 := (hbl2.cell (p := ⟨g, 2, none⟩) l1).trans c2
        have hc3 := (hbl2.cell (p := ⟨g, 3, none⟩) l1).trans c3
        have hszr := hbl2.size
        have hsp := (unhide HT).good.span
        have HTab2 := hide hTab2
        have HB2 := hide hbl2
        have HK2 := hide hk2
        clear hTab2 hbl2 hk2
        by_cases hxh : x ≤ T.high
        · have hsn := rowF_snoc T.maps ((j : Int) + 1) (x - T.low).toNat T.low
          have hsx : T.low + ((x - T.low).toNat : Int) = x := by omega
          have hsy : (x + 1 - T.low).toNat = (x - T.low).toNat + 1 := by omega
          rw [hsx] at hsn
          cases hf : T.maps.find? (isP ((j : Int) + 1) x) with
          | none =>
            rw [hf, List.append_nil] at hsn
            have HSN := hide hsn
            have HSY := hide hsy
            have hl := ((unhide HT).new (unhide HB2)).lookP_none hf
            clear hsn hsx hsy hf
            go_wp2
            go_roundg (T.high + 1 - (x + 1)).toNat
            case measure => have := unhide HK2; omega
            case rel => exact ⟨x + 1, by omega, by omega, rfl, rfl, by rw [unhide HSY, unhide HSN]; exact unhide HTab2, unhide HB2⟩
          | some m =>
            rw [hf] at hsn
            obtain ⟨y, hy, rfl⟩ := (unhide HT).ofFind hf
            have HSN := hide hsn
            have HSY := hide hsy
            have hl := ((unhide HT).new (unhide HB2)).lookP_some hy hf
            have hok := (unhide HT).good.ok y.m (List.mem_of_find?_eq_some hf)
            have HTO := hide (told_any y.g y.sv y.m wr (((unhide HT).new (unhide HB2)).mem y hy).1 hok.2.2.2.2.1)
            obtain ⟨R, hR, hL, hP⟩ := unhide HTab2
            have hrl := rowF_len T.maps ((j : Int) + 1) (x - T.low).toNat T.low
            have hnl : (upTo T j ++ rowF T.maps ((j : Int) + 1) (x - T.low).toNat T.low).length ≤ 192 := by
              rw [List.length_append]
              omega
            generalize hms : upTo T j ++ rowF T.maps ((j : Int) + 1) (x - T.low).toNat T.low = ms at *
            generalize hnn : ms.length = nn at *
            have HX := hide (And.intro hR (And.intro hL (And.intro hP (And.intro hms hnn))))
            clear hsn hsx hsy hf hy hok hR hL hP hrl hms hnn
            go_wp2_with fail
            refine (unhide HTO).mono ?_
            rintro e w1 ⟨sv', rfl, hsv, hb1⟩
            obtain ⟨ao, sl, sc, rfl⟩ := row_slice hsv
            have hs1 := hb1.size
            have HX1 := hide (And.intro hsv hb1)
            clear hsv hb1 HTO
            go_wp2_with (at_builtin; refine wpList_append_x _ rfl _ _ 43 rfl w.heap.size 52 i0 _ 7 72 Try.underlying43 (unhide HI).1 (unhide HI).2.1 (unhide HI).2.2.1 (unhide HI).2.2.2 rfl (by decide) _ nn (R.flatMap fun y => rowC y.1 y.2) rfl (row_keepB (unhide HX).2.1 (Nat.le_refl _) ((Fr.of_below (X := fun _ => False) (unhide HX1).2).alloc _) (fun _ _ _ f => f)) ⟨w1.heap.size, 0, none⟩ 1 1 (rowC y.m (.slice ao sl sc)) rfl rfl (World.news_of_block (by exact blkN w1 _ _ rfl)) (by simp [rowC, Value.oneCell']) (by omega) (by unfold maxLen; omega) (by omega) (by simp; omega) ?_; intro g2 cap2 w3 hO3 hG3; have HO3 := hide (And.intro hO3 hG3); clear hO3 hG3)
            go_roundg (T.high + 1 - (x + 1)).toNat
            case measure => have := unhide HK2; omega
            case rel =>
              obtain ⟨hR, hL, hP, hms, hnn⟩ := unhide HX
              obtain ⟨hsv, hb1⟩ := unhide HX1
              obtain ⟨hO3, hG3⟩ := unhide HO3
              refine ⟨x + 1, by omega, by omega, rfl, rfl, ?_, ?_⟩
              · rw [unhide HSY, unhide HSN, ← List.append_assoc, hms]
                subst hnn
                exact TabR.snoc hR hL hP hszr hb1 hsv hO3 hG3
              · have hb' : Below w.heap.size w (w1.alloc (.cells (rowC y.m (.slice ao sl sc)).toArray 52)) := ((unhide HB2).trans (hb1.mono hszr)).alloc (by omega) _
                rcases hG3 with ⟨h5, h6⟩ | ⟨h5, h6⟩
                · exact hb'.grown h6 (by simp; omega) (fun k hk => by cases hk; exact (hL.lt _ h5).1)
                · exact hb'.grown h6 (by simp; omega) (fun k hk => by cases hk)
        · have hxe : x = T.high + 1 := by omega
          subst hxe
          go_wp2
          go_roundg (3 - (j + 1))
          case measure => have := unhide HK; omega
          case rel => exact ⟨j + 1, by omega, rfl, by go_num, by rw [upTo]; have := unhide HTab2; exact this, unhide HB2⟩
    · have hj3 : j = 3 := by omega
      subst hj3
      go_wp2
      go_ret
      have hT := unhide HTab
      rw [upTo_three] at hT
      exact ⟨_, rfl, hT, unhide HBl⟩
end

end Go.Proofs.Ytgpplekabohneaa
