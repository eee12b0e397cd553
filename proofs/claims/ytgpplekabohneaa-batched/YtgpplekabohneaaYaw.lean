/- The starter's loop over the packets, for the machine of a batch. · The starter's loop over the packets, one packet. · The starter's loop over the packets, whole. -/
import Derived.Test.YtgpplekabohneaaYav
namespace Go.Proofs.Ytgpplekabohneaa.Co
open Go Go.Conc Go.ConcN Go.RowKit
open Go.ConcR (KK WgAt stA smA)

/-- What a started goroutine leaves behind: of the k-th tag. -/
def payQ (m : MS) (C : List BC) (all : List (Nat × Pk)) (fin : List Int) (k : Nat) (O : Own) (w : World) : Prop :=
  ∃ x ∈ C, fin[k]? = some x.tag ∧ Pay ⟨x.g, x.hp, x.hi, 0, m.rs, m.N, m.Wg⟩ ((ofTag x.tag all).map (·.1)) (finT x.T (ofTag x.tag all)) (finR x.T (ofTag x.tag all)) O w

theorem payQ_steady (m : MS) (C : List BC) (all : List (Nat × Pk)) (fin : List Int) (k : Nat) : Steady (payQ m C all fin k) m.Wg := by
  have hs : ∀ x : BC, Steady (Pay ⟨x.g, x.hp, x.hi, 0, m.rs, m.N, m.Wg⟩ ((ofTag x.tag all).map (·.1)) (finT x.T (ofTag x.tag all)) (finR x.T (ofTag x.tag all))) m.Wg := fun x => pay_steady _ _ _ _ fun y hy => by
    rw [← finR_fst x.T]
    exact List.mem_map.2 ⟨y, hy, rfl⟩
  refine ⟨fun O w w₁ ⟨x, hx, h1, h2⟩ hr => ⟨x, hx, h1, (hs x).rely O w w₁ h2 hr⟩, fun O w i v st sm hi ⟨x, hx, h1, h2⟩ hw => ⟨x, hx, h1, (hs x).wg O w i v st sm hi h2 hw⟩⟩

/-- What the starter itself leaves behind. -/
structure EndF (m : MS) (C : List BC) (all : List (Nat × Pk)) (fin : List Int) (O : Own) (w : World) : Prop where
  ob : O.B m.b ∧ O.B m.r
  ot : ∀ x ∈ C, x.tag ∉ fin → ∀ b, x.S b → O.B b
  oc : ∀ y ∈ all, y.2.tag ∉ C.map (·.tag) → ∀ o, 16 * y.1 ≤ o → o < 16 * y.1 + 16 → O.C m.rs o
  box : w.heap[m.b]? = some (.cells #[.map (some m.r)] 82 (0, 0))
  map : ∃ es c, w.heap[m.r]? = some (.map es c) ∧ es.toList.map (fun e => (e.key, e.val)) = C.map fun x => (Value.int .i64 x.tag, ptrV x.g)
  ten : ∀ x ∈ C, x.tag ∉ fin → TenC w x.S x.g x.hp x.hi x.T x.L
  row : RowAt w m.rs m.N
  res : ∀ y ∈ all, y.2.tag ∉ C.map (·.tag) → ∀ jj v, (reC pk0 1)[jj]? = some v → w.cell? ⟨m.rs, 16 * y.1 + jj, none⟩ = some v
  oth : ∀ b, m.ot b → O.B b ∧ w.heap[b]? = m.w0.heap[b]?
  lv : Live m.Wg w
  bg : w.os = m.w0.os ∧ w.output = m.w0.output

theorem EndF.rely {m : MS} {C : List BC} {all : List (Nat × Pk)} {fin : List Int} {O U : Own} {w w₁ : World} (h : EndF m C all fin O w) (hr : Rely U w w₁) (hb : U.B m.b ∧ U.B m.r) (ht : ∀ x ∈ C, x.tag ∉ fin → ∀ b, x.S b → U.B b) (hc : ∀ y ∈ all, y.2.tag ∉ C.map (·.tag) → ∀ o, 16 * y.1 ≤ o → o < 16 * y.1 + 16 → U.C m.rs o) (ho : ∀ b, m.ot b → U.B b) (hX : U.X m.Wg) : EndF m C all fin O w₁ := by
  refine ⟨h.ob, h.ot, h.oc, (hr.blk _ hb.1).trans h.box, ?_, fun x hx hn => (h.ten x hx hn).keep (fun b hb => hr.blk b (ht x hx hn b hb)) hr.size, ?_, fun y hy hn jj v hj => ?_, fun b hb => ⟨(h.oth b hb).1, (hr.blk b (ho b hb)).trans (h.oth b hb).2⟩, hr.live _ hX h.lv, hr.os.trans h.bg.1, hr.output.trans h.bg.2⟩
  · obtain ⟨es, c, h1, h2⟩ := h.map
    exact ⟨es, c, (hr.blk _ hb.2).trans h1, h2⟩
  · obtain ⟨cur, h1, h2⟩ := h.row
    obtain ⟨c', h3, h4⟩ := hr.shape _ _ _ _ h1
    exact ⟨c', h3, h4.trans h2⟩
  · have hj16 : jj < 16 := by
      have := (Array.getElem?_eq_some_iff.1 hj).1
      simpa [reC] using this
    rw [show w₁.cell? ⟨m.rs, 16 * y.1 + jj, none⟩ = w.cell? ⟨m.rs, 16 * y.1 + jj, none⟩ from hr.cell _ _ (hc y hy hn _ (by omega) (by omega))]
    exact h.res y hy hn jj v hj

/-- ALL PACKETS SENT. -/
theorem loop_end (m : MS) (C : List BC) (ps : List Pk) (all : List (Nat × Pk)) (c : Frame) (cs : List Frame) (hF : Fix m C) {st : List (Int × Nat)} (hst : StOk C st) (hlt : ∀ y ∈ all, y.1 < m.N) {j : Nat → Value} {w : World} (h : LI m C ps all m.N st w) (hlen : st.length < 2147483647) :
    Run Try.prog true (EvMn m.Wg) (MStop Try.prog m.Wg plZ (payQ m C all (st.map (·.1))) (MNext m c cs (EndF m C all (st.map (·.1)))) [] (st.map (·.2))) ⟨mown m C all (st.map (·.1)) m.ot, 0, m.head (c :: cs) m.N j, w⟩ := by
  refine Run.here fun w₁ h₁ => ?_
  have h1 := h.rely hst h₁
  have hWB : mBase m m.Wg := .inr (.inr (.inr (.inr rfl)))
  have hwl : m.Wg < w₁.heap.size := (Array.getElem?_eq_some_iff.1 h1.wg).1
  have hsl : (st.map (·.2)).length = st.length := by simp
  have hCW : ∀ o, ¬ (mown m C all (st.map (·.1)) m.ot).C m.Wg o := fun o x => hF.rb (x.1 ▸ hWB)
  refine ⟨rfl, rfl, .inl hWB, hCW, by rw [hsl]; exact h1.wg, ?_⟩
  dsimp only
  generalize hO : (mown m C all (st.map (·.1)) m.ot).free m.Wg = O
  have hOb : ∀ b, mBase m b → b ≠ m.Wg → O.B b := fun b x y => hO ▸ ⟨.inl x, y⟩
  have hOt : ∀ x ∈ C, x.tag ∉ st.map (·.1) → ∀ b, x.S b → O.B b := fun x hx hn b hb => hO ▸ ⟨.inr (.inr ⟨x, hx, hn, hb⟩), fun e => (hF.sb x hx b hb).1 (e ▸ hWB)⟩
  have hOc : ∀ y ∈ all, y.2.tag ∉ C.map (·.tag) → ∀ o, 16 * y.1 ≤ o → o < 16 * y.1 + 16 → O.C m.rs o := fun y hy hn o h1 h2 => hO ▸ ⟨rfl, y, hy, fun x => hn (hst.hs _ x), h1, h2⟩
  have hOo : ∀ b, m.ot b → O.B b := fun b hb => hO ▸ ⟨.inr (.inl hb), (hF.ob b hb).2.1⟩
  have hOX : O.X m.Wg := hO ▸ rfl
  have hlies : Lies O w₁ := by
    have hl := h1.lies
    rw [← hO]
    exact ⟨fun b x => hl.B b x.1, fun b o x => hl.C b o x, fun b x => by cases x; exact hwl⟩
  clear hO
  refine head_end m (c :: cs) j (mn_obj m.Wg) hlies (hOb _ (.inr (.inr (.inr (.inl rfl)))) hF.qW) hF.qW h1.qm (fun w₂ it j' h66 hsz hit h₂ => ?_)
  have hne : it ≠ m.q := fun e => by
    have : m.q < w₁.heap.size := (Array.getElem?_eq_some_iff.1 h1.qm).1
    omega
  have hnb : ∀ b, O.B b → b ≠ it := fun b hb e => by have := hlies.B b hb; omega
  have hend : EndF m C all (st.map (·.1)) (O.new it) w₁ := by
    refine ⟨⟨.inl (hOb _ (.inl rfl) hF.bW), .inl (hOb _ (.inr (.inl rfl)) hF.rW)⟩, fun x hx hn b hb => .inl (hOt x hx hn b hb), hOc, h1.box, h1.map, h1.ten, h1.row, fun y hy hn jj v hj => h1.res y hy hn jj v ?_, fun b hb => ⟨.inl (hOo b hb), (h1.otl b hb).2⟩, ⟨_, _, h1.wg⟩, h1.bg⟩
    rw [if_pos (hlt y hy)]; exact hj
  have hend2 : EndF m C all (st.map (·.1)) (O.new it) w₂ := hend.rely h₂ ⟨hOb _ (.inl rfl) hF.bW, hOb _ (.inr (.inl rfl)) hF.rW⟩ hOt hOc hOo hOX
  have := close_loop m c cs (l := st) hst.cn (O := O.new it) (it := it) (N := st.length) (by omega) hOX (by omega) hF.qW (F := EndF m C all (st.map (·.1))) (fun a b h0 hr => h0.rely hr ⟨⟨h0.ob.1, hnb _ (hOb _ (.inl rfl) hF.bW)⟩, ⟨h0.ob.2, hnb _ (hOb _ (.inr (.inl rfl)) hF.rW)⟩⟩ (fun x hx hn b hb => ⟨h0.ot x hx hn b hb, hnb b (hOt x hx hn b hb)⟩) (fun y hy hn o a1 a2 => ⟨h0.oc y hy hn o a1 a2, fun e => by
      obtain ⟨cur, r1, _⟩ := h1.row
      have : m.rs < w₁.heap.size := (Array.getElem?_eq_some_iff.1 r1).1
      omega⟩) (fun b hb => ⟨(h0.oth b hb).1, hnb b (hOo b hb)⟩) ⟨hOX, fun e => by omega⟩)
    st.length (st.map (·.2)) #[] st.length w₂ j' h66 ⟨hit, (h₂.blk m.q (hOb _ (.inr (.inr (.inr (.inl rfl)))) hF.qW)).trans h1.qm, Nat.le_refl _, .inr rfl, .inl (hOb _ (.inr (.inr (.inr (.inl rfl)))) hF.qW), hne⟩ (h₂.live m.Wg hOX ⟨_, _, h1.wg⟩) hend2 hst.cn hsl fun x => ?_
  · rw [hsl]
    exact this
  · constructor
    · intro hx
      obtain ⟨y, hy, rfl⟩ := List.mem_map.1 hx
      obtain ⟨k, hk⟩ := List.mem_iff_getElem?.1 hy
      exact ⟨qent y k, mem_left.2 ⟨by simpa using qents_mem hk, by simp⟩, rfl⟩
    · rintro ⟨e, he, hv⟩
      obtain ⟨k, y, hk, rfl⟩ := mem_qents (by simpa using (mem_left.1 he).1)
      simp only [qent, Value.chan.injEq, Option.some.injEq] at hv
      exact List.mem_map.2 ⟨y, List.mem_of_getElem? hk, hv⟩

end Go.Proofs.Ytgpplekabohneaa.Co

namespace Go.Proofs.Ytgpplekabohneaa.Co
open Go Go.Conc Go.ConcN Go.RowKit
open Go.ConcR (KK WgAt stA smA)

/-! ### a worker's stops hang on what it leaves behind -/
section
variable {P : Program} {Ev : Own → Event → Prop} {Q Q' : Own → World → Prop} {Wg : Nat} {x : Pos}
theorem D4S.mono (hq : ∀ O w, Q O w → Q' O w) (h : D4S P Q Wg x) : D4S P Q' Wg x := ⟨h.1, h.2.1, h.2.2.1, hq _ _ h.2.2.2.1, h.2.2.2.2⟩
theorem Run.mono {main : Bool} {S S' : Pos → Prop} (hk : ∀ y, S y → S' y) (h : Run P main Ev S x) : Run P main Ev S' x := by
  induction h using Run.ind with
  | stop h => exact .stop fun w₁ h₁ => hk _ (h w₁ h₁)
  | step next hs h1 _ ih => exact .step next hs h1 ih
theorem D3S.mono (hq : ∀ O w, Q O w → Q' O w) (h : D3S P Ev Q Wg x) : D3S P Ev Q' Wg x := ⟨h.1, h.2.1, fun hw => by obtain ⟨g', a, b⟩ := h.2.2 hw; exact ⟨g', a, b.mono fun _ => D4S.mono hq⟩⟩
theorem D2S.mono (hq : ∀ O w, Q O w → Q' O w) (h : D2S P Ev Q Wg x) : D2S P Ev Q' Wg x := ⟨h.1, h.2.1, fun hw => by obtain ⟨g', a, b⟩ := h.2.2 hw; exact ⟨g', a, b.mono fun _ => D3S.mono hq⟩⟩
theorem D1S.mono (hq : ∀ O w, Q O w → Q' O w) (h : D1S P Ev Q Wg x) : D1S P Ev Q' Wg x := ⟨h.1, h.2.1, hq _ _ h.2.2.1, fun v wt a b c => by obtain ⟨g', e1, e2, e3⟩ := h.2.2.2 v wt a b c; exact ⟨g', e1, fun y => (e2 y).mono fun _ => D2S.mono hq, e3⟩⟩
theorem RelS.mono (hq : ∀ O w, Q O w → Q' O w) (h : RelS P Ev Q Wg x) : RelS P Ev Q' Wg x := ⟨h.1, h.2.1, by obtain ⟨g', a, b⟩ := h.2.2; exact ⟨g', a, b.mono fun _ => D1S.mono hq⟩⟩
theorem RStop.mono {z : Value} {c : Nat} (hq : ∀ O w, Q O w → Q' O w) : ∀ {l : List Value} {x : Pos}, RStop P Wg z Q c l x → RStop P Wg z Q' c l x
  | [], _, h => ⟨h.1, h.2.1, h.2.2.1, fun hl => (h.2.2.2 hl).mono fun _ => RelS.mono hq⟩
  | _ :: _, _, h => ⟨h.1, h.2.1, h.2.2.1, h.2.2.2.mono fun _ => RStop.mono hq⟩
end

section
variable {m : MS} {C : List BC} {ps : List Pk} {all : List (Nat × Pk)} {i : Nat} {st : List (Int × Nat)} {w : World}

theorem LI.next (h : LI m C ps all i st w) (hn : ∀ y ∈ all, y.1 = i → y.2.tag ∈ C.map (·.tag)) : LI m C ps all (i + 1) st w :=
  ⟨h.box, h.map, h.pk, h.qm, h.wg, h.ten, h.row, fun y hy ht jj v hj => h.res y hy ht jj v (by
    have : y.1 ≠ i := fun e => ht (hn y hy e)
    by_cases hl : y.1 < i
    · rw [if_pos (by omega)] at hj; rw [if_pos hl]; exact hj
    · rw [if_neg (by omega)] at hj; rw [if_neg hl]; exact hj), h.chl, h.otl, h.bg⟩

theorem mown_less {tags : List Int} {n : Nat} : (∀ b, (mown m C all tags m.ot).B b → (mown m C all tags fun b => m.ot b ∨ b = n).B b) ∧ (∀ b o, (mown m C all tags m.ot).C b o → (mown m C all tags fun b => m.ot b ∨ b = n).C b o) ∧ ∀ b, (mown m C all tags m.ot).X b → (mown m C all tags fun b => m.ot b ∨ b = n).X b :=
  ⟨fun _ hb => hb.elim .inl fun x => x.elim (fun y => .inr (.inl (.inl y))) fun y => .inr (.inr y), fun _ _ x => x, fun _ x => x⟩

/-- The packet is sent; on to the next. -/
theorem send_part (c : Frame) (cs : List Frame) (hF : Fix m C) (hst : StOk C st) {Q : Nat → Own → World → Prop} {Next : Pos → Prop} {p : Pk} {n9 k ch : Nat} {S : List Cmd} {j : Nat → Value} (hi : i < m.N) (hn9 : w.heap[n9]? = some (.cells (pkC p) 38 (0, 0))) (h9W : n9 ≠ m.Wg) (hk : (st.map (·.2))[k]? = some ch)
    (h8 : j 8 = .int .i64 i) (h9 : j 9 = .pointer (some ⟨n9, 0, none⟩)) (h12 : j 12 = .chan (some ch)) (h : LI m C ps all i st w) (hn : ∀ y ∈ all, y.1 = i → y.2.tag ∈ C.map (·.tag))
    (ih : ∀ (j : Nat → Value) (w : World), LI m C ps all (i + 1) st w → Run Try.prog true (EvMn m.Wg) (MStop Try.prog m.Wg plZ Q Next S (st.map (·.2))) ⟨mown m C all (st.map (·.1)) m.ot, 0, m.head (c :: cs) (i + 1) j, w⟩) :
    Run Try.prog true (EvMn m.Wg) (MStop Try.prog m.Wg plZ Q Next (.send k (valP (i, p)) :: S) (st.map (·.2))) ⟨mown m C all (st.map (·.1)) fun b => m.ot b ∨ b = n9, 0, m.at16 (c :: cs) i j, w⟩ := by
  refine at16_send m (c :: cs) i j (mn_own m.Wg) h8 h9 h12 (.inr (.inl (.inr rfl))) h9W hn9 (fun w₁ j' h60 h63 h₁ => ?_)
  refine Run.here fun w₂ h₂ => ?_
  have hl := mown_less (m := m) (C := C) (all := all) (tags := st.map (·.1)) (n := n9)
  refine ⟨rfl, rfl, ch, hk, atS_comm m (c :: cs) i j' true h60 h63, ?_⟩
  refine atS_next m (c :: cs) i j' hi hF.n63 hl.1 hl.2.1 hl.2.2 (fun w₃ j2 h₃ => ?_)
  exact ih j2 w₃ ((h.rely hst (((h₁.trans h₂).trans h₃).less hl.1 hl.2.1 hl.2.2)).next hn)
end

end Go.Proofs.Ytgpplekabohneaa.Co

namespace Go.Proofs.Ytgpplekabohneaa.Co
open Go Go.Conc Go.ConcN Go.RowKit
open Go.ConcR (KK WgAt stA smA)

section
variable {m : MS} {C : List BC} {ps : List Pk} {all : List (Nat × Pk)} {i : Nat} {st : List (Int × Nat)} {w : World}

/-- The tenants' map, looked into. -/
theorem look_box {es : Array MapEntry} (hm : es.toList.map (fun e => (e.key, e.val)) = C.map fun x => (Value.int .i64 x.tag, ptrV x.g)) (hap : C.Pairwise fun x y => x.tag ≠ y.tag ∧ ∀ k, x.S k → ¬ y.S k) (t : Int) :
    (∀ e ∈ es.toList, ∃ n : Int, e.key = .int .i64 n) ∧
    (t ∉ C.map (·.tag) → ∀ (w₁ : World) (c : Nat), w₁.heap[m.r]? = some (.map es c) → (Instr.lookup 80 (.map (some m.r)) (.int .i64 t) true).run Try.prog w₁ = .ok (.tuple #[.pointer none, .bool false]) w₁) ∧
    (∀ x ∈ C, x.tag = t → ∀ (w₁ : World) (c : Nat), w₁.heap[m.r]? = some (.map es c) → (Instr.lookup 80 (.map (some m.r)) (.int .i64 t) true).run Try.prog w₁ = .ok (.tuple #[ptrV x.g, .bool true]) w₁) := by
  have mem : ∀ e ∈ es.toList, ∃ x ∈ C, e.key = .int .i64 x.tag ∧ e.val = ptrV x.g := fun e he => by
    have : (e.key, e.val) ∈ C.map fun x => (Value.int .i64 x.tag, ptrV x.g) := by rw [← hm]; exact List.mem_map.2 ⟨e, he, rfl⟩
    obtain ⟨x, hx, h⟩ := List.mem_map.1 this
    simp only [Prod.mk.injEq] at h
    exact ⟨x, hx, h.1.symm, h.2.symm⟩
  have uniq : ∀ x ∈ C, ∀ y ∈ C, x.tag = y.tag → x = y := by
    intro x hx y hy he
    apply Classical.byContradiction
    intro hne
    have := List.pairwise_iff_getElem.1 hap
    obtain ⟨a, ha, rfl⟩ := List.mem_iff_getElem.1 hx
    obtain ⟨b, hb, rfl⟩ := List.mem_iff_getElem.1 hy
    rcases Nat.lt_trichotomy a b with hl | hl | hl
    · exact (this a b ha hb hl).1 he
    · subst hl; exact hne rfl
    · exact (this b a hb ha hl).1 he.symm
  refine ⟨fun e he => by obtain ⟨x, _, h, _⟩ := mem e he; exact ⟨_, h⟩, fun hn w₁ c h1 => ?_, fun x hx ht w₁ c h1 => ?_⟩
  · refine run_look_none w₁ m.r es c t h1 fun e he => ?_
    obtain ⟨x, hx, h, _⟩ := mem e he
    exact ⟨_, h, fun e => hn (List.mem_map.2 ⟨x, hx, e⟩)⟩
  · have hin : ∃ e ∈ es.toList, e.key = .int .i64 t := by
      have : (Value.int .i64 x.tag, ptrV x.g) ∈ es.toList.map fun e => (e.key, e.val) := by rw [hm]; exact List.mem_map.2 ⟨x, hx, rfl⟩
      obtain ⟨e, he, h⟩ := List.mem_map.1 this
      simp only [Prod.mk.injEq] at h
      exact ⟨e, he, by rw [h.1, ht]⟩
    obtain ⟨e, he, hk, hrun⟩ := run_look_some w₁ m.r es c t h1 (fun e he => by obtain ⟨x, _, h, _⟩ := mem e he; exact ⟨_, h⟩) hin
    obtain ⟨y, hy, h2, h3⟩ := mem e he
    have : y = x := uniq y hy x hx (by rw [ht]; exact int_inj (h2.symm.trans hk))
    subst this
    rw [hrun, h3]

/-- The queues' map, looked into. -/
theorem look_q (hnd : (st.map (·.1)).Nodup) (t : Int) :
    (t ∉ st.map (·.1) → ∀ w₁ : World, w₁.heap[m.q]? = some (.map (qents st).toArray st.length) → (Instr.lookup 115 (.map (some m.q)) (.int .i64 t) true).run Try.prog w₁ = .ok (.tuple #[.chan none, .bool false]) w₁) ∧
    (∀ (k c : Nat), st[k]? = some (t, c) → ∀ w₁ : World, w₁.heap[m.q]? = some (.map (qents st).toArray st.length) → (Instr.lookup 115 (.map (some m.q)) (.int .i64 t) true).run Try.prog w₁ = .ok (.tuple #[.chan (some c), .bool true]) w₁) := by
  refine ⟨fun hn w₁ h1 => run_look15_none w₁ m.q _ _ t h1 fun e he => ?_, fun k c hk w₁ h1 => ?_⟩
  · obtain ⟨i, x, hi, rfl⟩ := mem_qents (by simpa using he)
    exact ⟨_, rfl, fun e => hn (List.mem_map.2 ⟨x, List.mem_of_getElem? hi, e⟩)⟩
  · obtain ⟨e, he, hkey, hrun⟩ := run_look15_some w₁ m.q _ _ t h1 (fun e he => qents_key (by simpa using he)) ⟨qent (t, c) k, by simpa using qents_mem hk, rfl⟩
    obtain ⟨i, x, hi, rfl⟩ := mem_qents (by simpa using he)
    have hx : x.1 = t := int_inj hkey
    have : i = k := nodup_idxI hnd (c := t) (by simp [hi, hx]) (by simp [hk])
    subst this
    rw [hi] at hk; cases hk
    exact hrun

theorem all_one (hall : all = plF 0 ps) {y y' : Nat × Pk} (h : y ∈ all) (h' : y' ∈ all) (e : y.1 = y'.1) : y = y' := by
  subst hall
  obtain ⟨_, _, h1⟩ := plF_mem h
  obtain ⟨_, _, h2⟩ := plF_mem h'
  rw [e, h2] at h1
  have h3 := Option.some.inj h1
  obtain ⟨a, b⟩ := y
  obtain ⟨a', b'⟩ := y'
  dsimp only at e h3 ⊢
  rw [e, h3]

set_option maxHeartbeats 1000000 in
/-- THE LOOP. -/
theorem loop_run (c : Frame) (cs : List Frame) (hF : Fix m C) (hall : all = plF 0 ps) (hN : ps.length = m.N) (hpr : ∀ p ∈ ps, 1 ≤ p.proto ∧ p.proto ≤ 3) {fin : List Int} {has : Int → Bool} (hhas : ∀ t, has t = true ↔ t ∈ C.map (·.tag)) :
    ∀ (l pre : List Pk) (st : List (Int × Nat)) (j : Nat → Value) (w : World), ps = pre ++ l → StOk C st → st.length ≤ pre.length → (∀ y ∈ plF 0 pre, y.2.tag ∈ C.map (·.tag) → y.2.tag ∈ st.map (·.1)) → lastTags has (plF pre.length l) (st.map (·.1)) = fin → LI m C ps all pre.length st w →
      Run Try.prog true (EvMn m.Wg) (MStop Try.prog m.Wg plZ (payQ m C all fin) (MNext m c cs (EndF m C all fin)) (script has (plF pre.length l) (st.map (·.1))) (st.map (·.2))) ⟨mown m C all (st.map (·.1)) m.ot, 0, m.head (c :: cs) pre.length j, w⟩ := by
  intro l
  induction l with
  | nil =>
    intro pre st j w hps hst hlen _ hfin h
    rw [List.append_nil] at hps
    subst hps
    rw [plF, lastTags] at hfin
    subst hfin
    rw [hN] at h ⊢
    exact loop_end m C ps all c cs hF hst (fun y hy => by rw [hall] at hy; have := (plF_mem hy).2.1; omega) h (by have := hF.small; omega)
  | cons p l ih =>
    intro pre st j w hps hst hlen hpre hfin h
    have hi : pre.length < m.N := by rw [← hN, hps]; simp
    have hpi : ps[pre.length]? = some p := by rw [hps]; simp
    have hpp : p ∈ ps := List.mem_of_getElem? hpi
    have hia : (pre.length, p) ∈ all := by rw [hall, hps, plF_append]; simp [plF]
    have hps' : ps = (pre ++ [p]) ++ l := by rw [hps]; simp
    have hlen1 : (pre ++ [p]).length = pre.length + 1 := by simp
    obtain ⟨cur, e, hcur, hle, hpk⟩ := h.pk
    have hlies := h.lies
    have hWB : mBase m m.Wg := .inr (.inr (.inr (.inr rfl)))
    have hWl : m.Wg < w.heap.size := hlies.B m.Wg (.inl hWB)
    have hrl : m.rs < w.heap.size := by obtain ⟨cur, h1, _⟩ := h.row; exact (Array.getElem?_eq_some_iff.1 h1).1
    have hrW : m.rs ≠ m.Wg := fun e => hF.rb (e ▸ hWB)
    rw [plF]
    refine head_some m (c :: cs) pre.length j (mn_own m.Wg) hlies hi (hF.pa.resolve_left (by omega)) (.inl (.inr (.inr (.inl rfl)))) hF.pW (fun b hb => by rw [hb]; exact hWl) hcur hle p (hpk _ _ hpi) (fun n9 W' j1 e8 e9 hn9 hs9 hR => ?_)
    rw [mown_new]
    have hl9 := mown_less (m := m) (C := C) (all := all) (tags := st.map (·.1)) (n := n9)
    have h1 := h.rely hst hR
    have h9W : n9 ≠ m.Wg := by omega
    have h9b : ∀ b, mBase m b → n9 ≠ b := fun b hb e => by have := hlies.B b (.inl hb); omega
    obtain ⟨es, cl, hes, hem⟩ := h1.map
    obtain ⟨hkey, hlook0, hlook1⟩ := look_box (m := m) hem hF.ap p.tag
    by_cases hin : p.tag ∈ C.map (·.tag)
    · -- a tenant's
      obtain ⟨x, hx, hxt⟩ := List.mem_map.1 hin
      have hhp : has p.tag = true := (hhas _).2 hin
      have hown : ∀ y ∈ all, y.1 = pre.length → y.2.tag ∈ C.map (·.tag) := fun y hy e => by
        have := all_one hall hy hia e
        subst this
        exact hin
      refine at7_run m (c :: cs) pre.length j1 (mn_own m.Wg) (fun O b hb hz => mn_obj m.Wg O b false hb hz) e8 e9 ⟨.inl (.inl rfl), hF.bW⟩ ⟨.inl (.inr (.inl rfl)), hF.rW⟩ ⟨.inr (.inl (.inr rfl)), h9W⟩ ⟨h1.box, hn9⟩ hes (fun w₁ hw₁ => hlook1 x hx hxt w₁ cl hw₁) hkey (fun W2 j2 f8 f9 f10 f11 hS7 => ?_)
      obtain ⟨_, hn92, _, hR2⟩ := hS7
      have h2 := h1.rely hst (hR2.less hl9.1 hl9.2.1 hl9.2.2)
      unfold script
      rw [if_pos hhp]
      rw [plF] at hfin
      unfold lastTags at hfin
      rw [if_pos hhp] at hfin
      cases ha : at? p.tag (st.map (·.1)) with
      | some k =>
        have hk := at?_some ha
        rw [ha] at hfin
        dsimp only at hfin ⊢
        obtain ⟨⟨t0, ch⟩, hst0, ht0⟩ : ∃ y, st[k]? = some y ∧ y.1 = p.tag := by
          rw [List.getElem?_map] at hk
          obtain ⟨y, h1, h2⟩ := Option.map_eq_some_iff.1 hk
          exact ⟨y, h1, h2⟩
        dsimp only at ht0
        subst ht0
        refine at8_some m (c :: cs) pre.length j2 (mn_own m.Wg) (mn_obj m.Wg) f8 f9 f10 f11 (.inr (.inl (.inr rfl))) (.inl (.inr (.inr (.inr (.inl rfl))))) h9W hF.qW hn92 h2.qm (fun e he => qents_key (by simpa using he)) ((look_q (m := m) hst.nd p.tag).2 k ch hst0) (fun w₃ j3 g8 g9 _ g11 g12 hR3 => ?_)
        refine at11_there m (c :: cs) pre.length j3 g8 g9 g11 g12 (fun w₄ j4 i8 i9 i12 hR4 => ?_)
        have hR24 := hR3.trans hR4
        have h4 := h2.rely hst (hR24.less hl9.1 hl9.2.1 hl9.2.2)
        refine send_part c cs hF hst hi ((hR24.blk n9 (.inr (.inl (.inr rfl)))).trans hn92) h9W (by simp [hst0]) i8 i9 i12 h4 hown (fun j5 w5 h5 => ?_)
        have := ih (pre ++ [p]) st j5 w5 hps' hst (by rw [hlen1]; omega) (fun y hy ht => by
          rw [plF_append] at hy
          rcases List.mem_append.1 hy with hy | hy
          · exact hpre y hy ht
          · simp [plF] at hy
            subst hy
            exact List.mem_of_getElem? hk) (by rw [hlen1]; exact hfin) (by rw [hlen1]; exact h5)
        rw [hlen1] at this
        exact this
      | none =>
        have hnt := at?_none ha
        rw [ha] at hfin
        dsimp only at hfin ⊢
        refine at8_some m (c :: cs) pre.length j2 (mn_own m.Wg) (mn_obj m.Wg) f8 f9 f10 f11 (.inr (.inl (.inr rfl))) (.inl (.inr (.inr (.inr (.inl rfl))))) h9W hF.qW hn92 h2.qm (fun e he => qents_key (by simpa using he)) ((look_q (m := m) hst.nd p.tag).1 hnt) (fun w₃ j3 g8 g9 g10 g11 _ hR3 => ?_)
        have h3 := h2.rely hst (hR3.less hl9.1 hl9.2.1 hl9.2.2)
        have hn93 := (hR3.blk n9 (.inr (.inl (.inr rfl)))).trans hn92
        have hl3 := h3.lies
        have hO1 : Lies (mown m C all (st.map (·.1)) fun b => m.ot b ∨ b = n9) w₃ := by
          refine ⟨?_, hl3.C, hl3.X⟩
          rintro b (hb | (hb | hb) | hb)
          · exact hl3.B b (.inl hb)
          · exact hl3.B b (.inr (.inl hb))
          · rw [hb]; exact (Array.getElem?_eq_some_iff.1 hn93).1
          · exact hl3.B b (.inr (.inr hb))
        have hqB : mBase m m.q := .inr (.inr (.inr (.inl rfl)))
        have htx : x.tag ∉ st.map (·.1) := by rw [hxt]; exact hnt
        have hs9' : ¬ x.S n9 := fun hb => by have := (h.ten x hx htx).ten.bound n9 hb; omega
        refine at11_new m (c :: cs) pre.length j3 (mn_own m.Wg) (mn_obj m.Wg) g8 g9 g10 g11 hO1 (.inr (.inl (.inr rfl))) (.inl hqB) h9W hF.qW hn93 h3.qm (fun e he => ?_) (fun w₄ ch j4 i8 i9 i10 i12 hsc hch4 hq4 hR4 => ?_)
        · obtain ⟨i, y, hi, rfl⟩ := mem_qents (by simpa using he)
          exact ⟨_, rfl, fun e => hnt (List.mem_map.2 ⟨y, List.mem_of_getElem? hi, e⟩)⟩
        have hchW : ch ≠ m.Wg := fun e => by have := hl3.B m.Wg (.inl hWB); omega
        refine atA_add m (c :: cs) pre.length j4 (mn_grp m.Wg) i8 i9 i10 i12 (.inl (.inl hWB)) (v := st.length) (by have := hF.small; omega) ((hR4.blk m.Wg ⟨.inl hWB, Ne.symm hF.qW⟩).trans h3.wg) (fun w₅ j5 k8 k9 k12 k57 k58 k59 hW5 hR5 => ?_)
        refine Run.here fun w₆ h₆ => ?_
        have hR46 : Rely (((mown m C all (st.map (·.1)) m.ot).less m.q).less m.Wg) w₃ w₆ := ((hR4.less (U := ((mown m C all (st.map (·.1)) m.ot).less m.q).less m.Wg) (fun b hb => ⟨hl9.1 b hb.1.1, hb.1.2⟩) (fun b o hb => ⟨hl9.2.1 b o hb.1.1, hb.1.2⟩) (fun b hb => hb.1.1.elim)).trans (hR5.less (U := ((mown m C all (st.map (·.1)) m.ot).less m.q).less m.Wg) (fun b hb => ⟨.inl (hl9.1 b hb.1.1), hb.2⟩) (fun b o hb => ⟨hl9.2.1 b o hb.1.1, hb.2⟩) (fun b hb => hb.1.1.elim))).trans (h₆.less (fun b hb => .inl (hl9.1 b hb.1.1)) (fun b o hb => hl9.2.1 b o hb.1.1) (fun b hb => hb.1.1.elim))
        have hch6 : w₆.heap[ch]? = some (.chan 0 #[] false 0 0 false) := (h₆.blk ch (.inr rfl)).trans ((hR5.blk ch ⟨.inr rfl, hchW⟩).trans hch4)
        have hqe : ((qents st).toArray.push { key := .int .i64 p.tag, val := .chan (some ch), born := st.length }) = (qents (st ++ [(p.tag, ch)])).toArray := by
          rw [qents_push]; simp [qent]
        have hq6 : w₆.heap[m.q]? = some (.map (qents (st ++ [(p.tag, ch)])).toArray (st ++ [(p.tag, ch)]).length) := by
          rw [← hqe, List.length_append]
          exact (h₆.blk m.q (.inl (.inl hqB))).trans ((hR5.blk m.q ⟨.inl (.inl hqB), hF.qW⟩).trans hq4)
        have hW6 : WgAt 125 m.Wg w₆ (((st ++ [(p.tag, ch)]).length : Int) * KK) 0 := by
          have e : (((st ++ [(p.tag, ch)]).length : Nat) : Int) = (st.length : Int) + 1 := by simp
          rw [e]
          exact (h₆.blk m.Wg (.inl (.inl hWB))).trans hW5
        have hn96 : w₆.heap[n9]? = some (.cells (pkC p) 38 (0, 0)) := (h₆.blk n9 (.inl (.inr (.inl (.inr rfl))))).trans ((hR5.blk n9 ⟨.inl (.inr (.inl (.inr rfl))), h9W⟩).trans ((hR4.blk n9 ⟨.inr (.inl (.inr rfl)), h9b _ hqB⟩).trans hn93))
        have hsz36 : w₃.heap.size ≤ w₆.heap.size := hR46.size
        have hchl : ch < w₆.heap.size := (Array.getElem?_eq_some_iff.1 hch6).1
        have bb : ∀ b, mBase m b → b ≠ m.q → b ≠ m.Wg → w₆.heap[b]? = w₃.heap[b]? := fun b hb h1 h2 => hR46.blk b ⟨⟨.inl hb, h1⟩, h2⟩
        have tt : ∀ y ∈ C, y.tag ∉ st.map (·.1) → TenC w₆ y.S y.g y.hp y.hi y.T y.L := fun y hy ht => (h3.ten y hy ht).keep (fun b hb => hR46.blk b ⟨⟨.inr (.inr ⟨y, hy, ht, hb⟩), fun e => (hF.sb y hy b hb).1 (e ▸ hqB)⟩, fun e => (hF.sb y hy b hb).1 (e ▸ hWB)⟩) hsz36
        have hst' : StOk C (st ++ [(p.tag, ch)]) := by
          refine ⟨?_, ?_, ?_⟩
          · rw [List.map_append, List.nodup_append]
            exact ⟨hst.nd, by simp, fun u hu v hv => by simp at hv; subst hv; exact fun e => hnt (e ▸ hu)⟩
          · intro t ht
            rw [List.map_append] at ht
            rcases List.mem_append.1 ht with y | y
            · exact hst.hs t y
            · simp at y; subst y; exact hin
          · rw [List.map_append, List.nodup_append]
            refine ⟨hst.cn, by simp, fun u hu v hv => ?_⟩
            simp at hv
            subst hv
            obtain ⟨y, hy, rfl⟩ := List.mem_map.1 hu
            have := h3.chl y hy
            omega
        have hrow6 : RowAt w₆ m.rs m.N := by
          obtain ⟨cur, q1, q2⟩ := h3.row
          obtain ⟨c', q3, q4⟩ := hR46.shape _ _ _ _ q1
          exact ⟨c', q3, q4.trans q2⟩
        have hrq : m.rs ≠ m.q := fun e => hF.rb (e ▸ hqB)
        have h6 : LI m C ps all pre.length (st ++ [(p.tag, ch)]) w₆ := by
          refine ⟨(bb _ (.inl rfl) hF.bq hF.bW).trans h3.box, ?_, ?_, hq6, hW6, fun y hy ht => tt y hy (fun z => ht (by rw [List.map_append]; exact List.mem_append_left _ z)), hrow6, fun y hy ht jj v hj => ?_, fun y hy => ?_, fun b hb => ⟨Nat.lt_of_lt_of_le (h3.otl b hb).1 hsz36, (hR46.blk b ⟨⟨.inr (.inl hb), (hF.ob b hb).1⟩, (hF.ob b hb).2.1⟩).trans (h3.otl b hb).2⟩, hR46.os.trans h3.bg.1, hR46.output.trans h3.bg.2⟩
          · obtain ⟨es, cl, q1, q2⟩ := h3.map
            exact ⟨es, cl, (bb _ (.inr (.inl rfl)) hF.rq hF.rW).trans q1, q2⟩
          · obtain ⟨cur, e, q1, q2⟩ := h3.pk
            exact ⟨cur, e, (bb _ (.inr (.inr (.inl rfl))) hF.pq hF.pW).trans q1, q2⟩
          · have hj16 : jj < 16 := by
              have := (Array.getElem?_eq_some_iff.1 hj).1
              simpa [reC] using this
            rw [show w₆.cell? ⟨m.rs, 16 * y.1 + jj, none⟩ = w₃.cell? ⟨m.rs, 16 * y.1 + jj, none⟩ from hR46.cell _ _ ⟨⟨⟨rfl, y, hy, fun z => ht (hst.hs _ z), by omega, by omega⟩, hrq⟩, hrW⟩]
            exact h3.res y hy ht jj v hj
          · rcases List.mem_append.1 hy with hy | hy
            · exact Nat.lt_of_lt_of_le (h3.chl y hy) hsz36
            · simp at hy; subst hy; exact hchl
        have htags : (st ++ [(p.tag, ch)]).map (·.1) = st.map (·.1) ++ [p.tag] := by simp
        have hchs : (st ++ [(p.tag, ch)]).map (·.2) = st.map (·.2) ++ [ch] := by simp
        have hsl : (st.map (·.2)).length = (st.map (·.1)).length := by simp
        have hof : ofTag p.tag all = ofTag p.tag ((pre.length, p) :: plF (pre.length + 1) l) := by
          rw [hall, hps, plF_append, Nat.zero_add, plF]
          unfold ofTag
          rw [List.filter_append]
          have : (plF 0 pre).filter (fun x => x.2.tag == p.tag) = [] := by
            rw [List.filter_eq_nil_iff]
            intro y hy
            simp only [beq_iff_eq]
            intro e
            exact hnt (e ▸ hpre y hy (e ▸ hin))
          rw [this, List.nil_append]
        obtain ⟨g', hsp, hgo⟩ := atG_spawn m (c :: cs) pre.length j5 ⟨x.g, x.hp, x.hi, ch, m.rs, m.N, m.Wg⟩ rfl rfl rfl k57 k58 k59
        have hsx : ∀ b, x.S b → b < w₃.heap.size := fun b hb => (h3.ten x hx htx).ten.bound b hb
        refine ⟨rfl, rfl, ch, g', WS.born ⟨x.g, x.hp, x.hi, ch, m.rs, m.N, m.Wg⟩, mown m C all (st.map (·.1) ++ [p.tag]) (fun b => m.ot b ∨ b = n9), WS.own ⟨x.g, x.hp, x.hi, ch, m.rs, m.N, m.Wg⟩ x.S ((ofTag p.tag all).map (·.1)), hsp, .inr rfl, hchW, hch6, ?_, fun hb => (hF.sb x hx _ hb).1 hWB, fun o ho => hrW ho.1.symm, ?_, ?_⟩
        · -- who has what
          have inall : ∀ i', i' ∈ (ofTag p.tag all).map (·.1) → ∃ y ∈ all, y.1 = i' ∧ y.2.tag = p.tag := fun i' hi' => by
            obtain ⟨y, hy, rfl⟩ := List.mem_map.1 hi'
            have := List.mem_filter.1 hy
            exact ⟨y, this.1, rfl, by simpa using this.2⟩
          have chn : ¬ (mown m C all (st.map (·.1)) fun b => m.ot b ∨ b = n9).B ch := fun hb => by have := hO1.B ch hb; omega
          have sub1 : ∀ b, (mown m C all (st.map (·.1) ++ [p.tag]) fun b => m.ot b ∨ b = n9).B b → (mown m C all (st.map (·.1)) fun b => m.ot b ∨ b = n9).B b := by
            rintro b (hb | hb | ⟨y, hy, ht, hb⟩)
            · exact .inl hb
            · exact .inr (.inl hb)
            · exact .inr (.inr ⟨y, hy, fun z => ht (List.mem_append_left _ z), hb⟩)
          have rsn : ¬ (mown m C all (st.map (·.1) ++ [p.tag]) fun b => m.ot b ∨ b = n9).B m.rs := by
            rintro (hb | (hb | hb) | ⟨y, hy, ht, hb⟩)
            · exact hF.rb hb
            · exact (hF.ob _ hb).2.2 rfl
            · have : m.rs = n9 := hb; omega
            · exact (hF.sb y hy _ hb).2 rfl
          refine ⟨fun b hb => .inl (sub1 b hb), ?_, fun b hb => .inl (.inr (.inr ⟨x, hx, htx, hb⟩)), ?_, ⟨fun b hb => ⟨fun hxb => ?_, fun o ho => ?_⟩, fun b o ho => ⟨fun hxb => ?_, fun ho' => ?_⟩⟩, ⟨fun hb => chn (sub1 _ hb), fun o ho => ?_⟩, ⟨fun hb => ?_, fun o ho => ?_⟩, fun _ z => z, fun _ z => z⟩
          · rintro b o ⟨rfl, y, hy, ht, r⟩
            exact ⟨rfl, y, hy, fun z => ht (List.mem_append_left _ z), r⟩
          · rintro b o ⟨rfl, i', hi', r⟩
            obtain ⟨y, hy, rfl, ht⟩ := inall i' hi'
            exact ⟨rfl, y, hy, by rw [ht]; exact hnt, r⟩
          · rcases hb with hb | (hb | hb) | ⟨y, hy, ht, hb⟩
            · exact (hF.sb x hx b hxb).1 hb
            · exact hF.so x hx b hxb hb
            · have : b = n9 := hb
              exact hs9' (this ▸ hxb)
            · have hne : x ≠ y := fun e => ht (by rw [← e, hxt]; simp)
              have := List.pairwise_iff_getElem.1 hF.ap
              obtain ⟨a, ha', rfl⟩ := List.mem_iff_getElem.1 hx
              obtain ⟨b', hb', rfl⟩ := List.mem_iff_getElem.1 hy
              rcases Nat.lt_trichotomy a b' with hl | hl | hl
              · exact (this a b' ha' hb' hl).2 b hxb hb
              · subst hl; exact hne rfl
              · exact (this b' a hb' ha' hl).2 b hb hxb
          · have : b = m.rs := ho.1
            exact rsn (this ▸ hb)
          · have : b = m.rs := ho.1
            exact (hF.sb x hx b hxb).2 this
          · obtain ⟨_, y, hy, ht, r1, r2⟩ := ho
            obtain ⟨_, i', hi', r3, r4⟩ := ho'
            obtain ⟨y', hy', rfl, ht'⟩ := inall i' hi'
            have : y = y' := all_one hall hy hy' (by omega)
            subst this
            exact ht (by rw [ht']; simp)
          · have : ch = m.rs := ho.1
            have : m.rs < w₃.heap.size := by obtain ⟨cur, q1, _⟩ := h3.row; exact (Array.getElem?_eq_some_iff.1 q1).1
            omega
          · have := hsx ch hb; omega
          · have : ch = m.rs := ho.1
            have : m.rs < w₃.heap.size := by obtain ⟨cur, q1, _⟩ := h3.row; exact (Array.getElem?_eq_some_iff.1 q1).1
            omega
        · -- the starter goes on
          refine hgo (fun w₇ h₇ => ?_)
          rw [← htags, ← hchs]
          have hl9' := mown_less (m := m) (C := C) (all := all) (tags := (st ++ [(p.tag, ch)]).map (·.1)) (n := n9)
          rw [← htags] at h₇
          refine send_part c cs hF hst' hi ((h₇.blk n9 (.inr (.inl (.inr rfl)))).trans hn96) h9W (by simp) k8 k9 k12 (h6.rely hst' (h₇.less hl9'.1 hl9'.2.1 hl9'.2.2)) hown (fun j8 w8 h8 => ?_)
          have := ih (pre ++ [p]) (st ++ [(p.tag, ch)]) j8 w8 hps' hst' (by rw [hlen1]; simp; omega) (fun y hy ht => by
            rw [plF_append] at hy
            rw [htags]
            rcases List.mem_append.1 hy with hy | hy
            · exact List.mem_append_left _ (hpre y hy ht)
            · simp [plF] at hy
              subst hy
              simp) (by rw [hlen1, htags]; exact hfin) (by rw [hlen1]; exact h8)
          rw [hlen1] at this
          exact this
        · -- the worker
          have hfk : fin[(st.map (·.2)).length]? = some x.tag := by
            rw [← hfin, hsl]
            exact last_prefix _ _ (by rw [hxt]; simp)
          have hvals : valsOf (st.map (·.2)).length (.send (st.map (·.1)).length (valP (pre.length, p)) :: script has (plF (pre.length + 1) l) (st.map (·.1) ++ [p.tag])) = (ofTag p.tag all).map valP := by
            rw [hof, hsl, valsOf, if_pos rfl, vals_script (t := p.tag) _ _ (htags ▸ hst'.nd) (by simp) hhp]
            simp [ofTag]
          rw [hvals]
          have hbn := worker_born ⟨x.g, x.hp, x.hi, ch, m.rs, m.N, m.Wg⟩ hrW (l := ofTag p.tag all) (T := x.T) (S := x.S) (L := x.L) (w := w₆) (fun y hy => by
            have hy' := (List.mem_filter.1 hy).1
            rw [hall] at hy'
            obtain ⟨_, y1, y2⟩ := plF_mem hy'
            exact ⟨by show y.1 < m.N; omega, hpr _ (List.mem_of_getElem? y2)⟩) (by
            have := plF_nodup ps 0
            rw [← hall] at this
            exact this.sublist (List.filter_sublist.map _)) (tt x hx htx) (fun hb => (hF.sb x hx _ hb).2 rfl) (fun hb => (hF.sb x hx _ hb).1 hWB) hrow6 ⟨Nat.lt_of_lt_of_le hrl (Nat.le_trans hR.size (Nat.le_trans hR2.size (Nat.le_trans hR3.size hsz36))), (Array.getElem?_eq_some_iff.1 hW6).1⟩
          refine hbn.mono fun y => RStop.mono fun O w hp => ⟨x, hx, hfk, ?_⟩
          rw [hxt]
          exact hp
    · -- nobody's
      have hhp : ¬ has p.tag = true := fun e => hin ((hhas _).1 e)
      refine at7_run m (c :: cs) pre.length j1 (mn_own m.Wg) (fun O b hb hz => mn_obj m.Wg O b false hb hz) e8 e9 ⟨.inl (.inl rfl), hF.bW⟩ ⟨.inl (.inr (.inl rfl)), hF.rW⟩ ⟨.inr (.inl (.inr rfl)), h9W⟩ ⟨h1.box, hn9⟩ hes (fun w₁ hw₁ => hlook0 hin w₁ cl hw₁) hkey (fun W2 j2 f8 f9 f10 f11 hS7 => ?_)
      obtain ⟨_, hn92, _, hR2⟩ := hS7
      have h2 := h1.rely hst (hR2.less hl9.1 hl9.2.1 hl9.2.2)
      unfold script
      rw [if_neg hhp]
      rw [plF] at hfin
      unfold lastTags at hfin
      rw [if_neg hhp] at hfin
      have hpt : p.tag ∉ st.map (·.1) := fun x => hin (hst.hs _ x)
      refine at8_none m (c :: cs) pre.length j2 (mn_own m.Wg) f8 f11 hi hF.n63 ⟨rfl, _, hia, hpt, by dsimp only; omega, by dsimp only; omega⟩ hrW h2.row hl9.1 hl9.2.1 hl9.2.2 (fun W3 w3 j3 hR3 c1 c2 c3 c4 c6 c5 => ?_)
      have h3 := h2.rely hst (hR3.less hl9.1 hl9.2.1 hl9.2.2)
      have nr : ∀ b, mBase m b → b ≠ m.rs := fun b hb e => hF.rb (e ▸ hb)
      have h4 : LI m C ps all (pre.length + 1) st W3 := by
        refine ⟨(c3 _ (nr _ (.inl rfl))).trans h3.box, ?_, ?_, (c3 _ (nr _ (.inr (.inr (.inr (.inl rfl)))))).trans h3.qm, (c3 _ (nr _ hWB)).trans h3.wg, fun y hy ht => (h3.ten y hy ht).keep (fun b hb => c3 b (hF.sb y hy b hb).2) (Nat.le_of_eq c4.symm), c5, fun y hy ht jj v hj => ?_, fun y hy => by rw [c4]; exact h3.chl y hy, fun b hb => ⟨by rw [c4]; exact (h3.otl b hb).1, (c3 b (hF.ob b hb).2.2).trans (h3.otl b hb).2⟩, c6.1.trans h3.bg.1, c6.2.trans h3.bg.2⟩
        · obtain ⟨es, cl, q1, q2⟩ := h3.map
          exact ⟨es, cl, (c3 _ (nr _ (.inr (.inl rfl)))).trans q1, q2⟩
        · obtain ⟨cur, e, q1, q2⟩ := h3.pk
          exact ⟨cur, e, (c3 _ (nr _ (.inr (.inr (.inl rfl))))).trans q1, q2⟩
        · have hj16 : jj < 16 := by
            have := (Array.getElem?_eq_some_iff.1 hj).1
            simpa [reC] using this
          by_cases hy1 : y.1 = pre.length
          · rw [hy1, if_pos (by omega)] at hj
            rw [hy1]
            by_cases hj15 : jj = 15
            · subst hj15
              rw [show 16 * pre.length + 15 = pre.length * 16 + 15 by omega, c1]
              simpa [reC] using hj
            · rw [c2 _ (by omega), ← hy1]
              refine h3.res y hy ht jj v ?_
              rw [hy1, if_neg (by omega)]
              have : jj < 15 := by omega
              rcases (by omega : jj = 0 ∨ jj = 1 ∨ jj = 2 ∨ jj = 3 ∨ jj = 4 ∨ jj = 5 ∨ jj = 6 ∨ jj = 7 ∨ jj = 8 ∨ jj = 9 ∨ jj = 10 ∨ jj = 11 ∨ jj = 12 ∨ jj = 13 ∨ jj = 14) with rfl | rfl | rfl | rfl | rfl | rfl | rfl | rfl | rfl | rfl | rfl | rfl | rfl | rfl | rfl <;> exact hj
          · rw [c2 _ (by omega)]
            refine h3.res y hy ht jj v ?_
            by_cases hl : y.1 < pre.length
            · rw [if_pos (by omega)] at hj; rw [if_pos hl]; exact hj
            · rw [if_neg (by omega)] at hj; rw [if_neg hl]; exact hj
      have := ih (pre ++ [p]) st j3 W3 hps' hst (by rw [hlen1]; omega) (fun y hy ht => by
        rw [plF_append] at hy
        rcases List.mem_append.1 hy with hy | hy
        · exact hpre y hy ht
        · simp [plF] at hy
          subst hy
          exact absurd ht hin) (by rw [hlen1]; exact hfin) (by rw [hlen1]; exact h4)
      rw [hlen1] at this
      exact this
end

end Go.Proofs.Ytgpplekabohneaa.Co
