/- append of one element onto a row of the call's own, at whatever length the model's growth lets by: what becomes of the old row said. -/
import Derived.Test.YtgpplekabohneaaHa
import Derived.Test.YtgpplekabohneaaHa
namespace Go.Proofs.Ytgpplekabohneaa.B0
open Go.RowKit

/-- growing by one: a quarter more, or twice a small row -/
theorem next_le (n : Nat) : Builtin.nextslicecap (n + 1) n ≤ n + (n + 768) / 4 + 512 := by
  unfold Builtin.nextslicecap
  split
  · omega
  · split
    · omega
    · rw [growBy_four]
      repeat' split
      all_goals omega

section
variable {P : Program} (w : World)

/-- the new row of the growing arm -/
theorem grown_row (base e size n old : Nat) (z : Value) (hzs : z.cells.size = size) (xs news : List Value) (hx : xs.length = n * size) (hl : news.length = size) (h63 : n + 1 ≤ maxLen) (hbase : base ≤ w.heap.size) :
    (w.drew.alloc (.cells (xs.toArray ++ news.toArray ++ Builtin.zeroCells z.cells (grownCap w (n + 1) old e - (n + 1))) e)).ownsRow base e size (.slice (some ⟨w.heap.size, 0, none⟩) (n + 1) (grownCap w (n + 1) old e)) (n + 1) (xs ++ news) := by
  have hge := grownCap_ge w (n + 1) old e
  have hlen : (xs ++ news).length = (n + 1) * size := by rw [List.length_append, hx, hl, Nat.add_mul]; omega
  refine ⟨hlen, .inr ⟨w.heap.size, grownCap w (n + 1) old e, _, rfl, hbase, blkN w.drew _ _ rfl, hge, grownCap_le_maxLen w (n + 1) old e h63, ?_, ?_⟩⟩
  · rw [Array.size_append, Array.size_append, size_zeroCells, hzs, List.size_toArray, List.size_toArray, hx, hl]
    have e1 : n * size + size = (n + 1) * size := by rw [Nat.add_mul]; omega
    rw [e1, ← Nat.add_mul]
    congr 1
    omega
  · have e2 : (xs.toArray ++ news.toArray ++ Builtin.zeroCells z.cells (grownCap w (n + 1) old e - (n + 1))).toList = (xs ++ news) ++ (Builtin.zeroCells z.cells (grownCap w (n + 1) old e - (n + 1))).toList := by simp
    rw [e2, ← hlen, List.take_left]

theorem run_append_y (t ty : TypeId) (base : Nat) (e : TypeId) (i : TypeInfo) (z : Value) (size bytes : Nat) (ht : P.underlying t = some (.slice e)) (hi : P.info? e = some i) (hz : i.zero = some z)
    (hsize : i.size = size) (hby : i.bytes = bytes) (hzs : z.cells.size = size)
    (v : Value) (n : Nat) (xs : List Value) (hown : w.ownsRow base e size v n xs)
    (ad : Addr) (c : Nat) (news : List Value) (hl : news.length = size) (hnews : ∀ j u, news[j]? = some u → w.cell? (ad.add j) = some u) (h1 : ∀ u ∈ news, u.oneCell' = true)
    (h63 : n + 1 ≤ maxLen) (h48 : (n + (n + 768) / 4 + 512) * bytes ≤ 281474976710656) (hbase : base ≤ w.heap.size) :
    ∃ g cap w', (Builtin.append_ #[t, t] ty #[v, .slice (some ad) 1 c]).run P w = .ok (.slice (some ⟨g, 0, none⟩) (n + 1) cap) w' ∧
      w'.ownsRow base e size (.slice (some ⟨g, 0, none⟩) (n + 1) cap) (n + 1) (xs ++ news) ∧ ((v.ownBlock = some g ∧ w.grownBy w' (some g)) ∨ (g = w.heap.size ∧ w.grownBy w' none)) := by
  subst hsize
  subst hby
  have hl1 : news.length = 1 * i.size := by omega
  have hsmall : n + 1 ≤ 9223372036854775807 := by simp only [maxLen] at h63; omega
  have hby1 : i.bytes ≤ 281474976710656 := Nat.le_trans (Nat.le_mul_of_pos_left _ (by omega)) h48
  have hgr : ∀ (o : Obj), w.grownBy (w.drew.alloc o) none := fun o => ⟨rfl, rfl, rfl, by simp, fun k hk _ => Below.heap_alloc w.drew o k hk⟩
  rcases hown.2 with ⟨rfl, rfl⟩ | ⟨g, cap, cur, rfl, hbg, hg, hnc, hcm, hcs, htake⟩
  · have hx : xs = [] := List.eq_nil_of_length_eq_zero (by simpa using hown.1)
    subst hx
    have hr := run_append_nil (P := P) w t ty e i z ht hi hz ad 1 c news hl1 hnews (by omega) (by omega) (by omega)
    have ho := grown_row w base e i.size 0 0 z hzs [] news (by simp) hl h63 hbase
    simp only [Nat.zero_add, Array.empty_append] at ho
    exact ⟨w.heap.size, _, _, hr, by simpa using ho, .inr ⟨rfl, hgr _⟩⟩
  · by_cases hroom : n + 1 ≤ cap
    · have hfit : n * i.size + news.length ≤ cur.size := by
        rw [hl, hcs]
        have := Nat.mul_le_mul_right i.size hroom
        rw [Nat.add_mul] at this
        omega
      have hr := run_append_room (P := P) w t ty e i ht hi g n cap cur hg ad 1 c news hl1 hnews h1 hroom hfit
      refine ⟨g, cap, _, hr, ⟨?_, .inr ⟨g, cap, _, rfl, hbg, setRow_heap w g cur _ e _ hg, hroom, hcm, ?_, ?_⟩⟩, .inl ⟨rfl, rfl, rfl, rfl, by simp, fun k _ hk => setRow_other w g k _ (fun e => hk (by rw [e]))⟩⟩
      · rw [List.length_append, hown.1, hl, Nat.add_mul]
        omega
      · rw [List.size_toArray, List.length_append, List.length_append, List.length_take, List.length_drop, Array.length_toList]
        omega
      · have e1 : (n + 1) * i.size = (cur.toList.take (n * i.size) ++ news).length := by
          rw [htake, List.length_append, hown.1, hl, Nat.add_mul]
          omega
        rw [List.toList_toArray, e1, List.take_left, htake]
    · have hcn : cap = n := by omega
      subst hcn
      have holds : ∀ j u, xs[j]? = some u → w.cell? ((⟨g, 0, none⟩ : Addr).add j) = some u := hown.cells (g := g) rfl
      have hfit : Builtin.nextslicecap (cap + 1) cap * i.bytes ≤ 281474976710656 := Nat.le_trans (Nat.mul_le_mul_right _ (next_le cap)) h48
      have hr := run_append_grow (P := P) w t ty e i z ht hi hz ⟨g, 0, none⟩ cap cap xs hown.1 holds ad 1 c news hl1 hnews (by omega) (by omega) hfit
      exact ⟨w.heap.size, _, _, hr, grown_row w base e i.size cap cap z hzs xs news hown.1 hl h63 hbase, .inr ⟨rfl, hgr _⟩⟩

theorem wpList_append_y {ops : Array Oper} {rest : List Oper} {o : Oper} {a : Act} {Q : Exit → Act → World → Prop} (hgd : o.guard = none) (s x : Operand) (t : TypeId)
    (ho : o.op = .call { callee := .builtin .append, args := #[s, x], argTypes := #[t, t] })
    (base : Nat) (e : TypeId) (i : TypeInfo) (z : Value) (size bytes : Nat) (ht : P.underlying t = some (.slice e)) (hi : P.info? e = some i) (hz : i.zero = some z)
    (hsize : i.size = size) (hby : i.bytes = bytes) (hzs : z.cells.size = size)
    (v : Value) (n : Nat) (xs : List Value) (hs : a.eval s = v) (hown : w.ownsRow base e size v n xs)
    (ad : Addr) (c : Nat) (news : List Value) (hx : a.eval x = .slice (some ad) 1 c) (hl : news.length = size) (hnews : ∀ j u, news[j]? = some u → w.cell? (ad.add j) = some u) (h1 : ∀ u ∈ news, u.oneCell' = true)
    (h63 : n + 1 ≤ maxLen) (h48 : (n + (n + 768) / 4 + 512) * bytes ≤ 281474976710656) (hbase : base ≤ w.heap.size)
    (h : ∀ g cap w', w'.ownsRow base e size (.slice (some ⟨g, 0, none⟩) (n + 1) cap) (n + 1) (xs ++ news) → ((v.ownBlock = some g ∧ w.grownBy w' (some g)) ∨ (g = w.heap.size ∧ w.grownBy w' none)) → wpList P ops Q rest (a.put o.dst (.slice (some ⟨g, 0, none⟩) (n + 1) cap)) w') : wpList P ops Q (o :: rest) a w := by
  refine wpList_plain hgd fun _ hK => ?_
  obtain ⟨g, cap, w', hr, h2, h3⟩ := run_append_y (P := P) w t o.type base e i z size bytes ht hi hz hsize hby hzs v n xs hown ad c news hl hnews h1 h63 h48 hbase
  unfold Oper.wp execOp
  simp only [ho, resolve, invoke, builtin, Sem.run_bind, Sem.run_pure, Result.andThen_ok, List.map_toArray, List.map_cons, List.map_nil, hs, hx, hr]
  exact hK _ _ (h g cap w' h2 h3)

end

end Go.Proofs.Ytgpplekabohneaa.B0
