/- 'Round', walked. -/
import Derived.Test.YtkbgjbbniaflhaaRg
import Derived.Test.YtkbgjbbniaflhaaRh
namespace Go.Proofs.Ytkbgjbbniaflhaa
open Go.RowKit

/-- a statement's box, on its way: its blocks are new since w0, and nothing that lay in w0 has turned -/
structure St (w0 W : World) (F : Nat → Prop) (b : Nat) (B : List (Int × Tn)) : Prop where
  box : BoxR W F b B
  base : ∀ k, F k → w0.heap.size ≤ k
  fr : Fr (fun k => w0.heap.size ≤ k) w0 W

theorem St.new {w0 W w' : World} {F : Nat → Prop} {b : Nat} {B : List (Int × Tn)} (h : St w0 W F b B) (hb : Below W.heap.size W w') : St w0 w' F b B :=
  ⟨h.box.new hb, h.base, h.fr.trans (Fr.of_below hb)⟩

theorem St.step {w0 W w' : World} {F : Nat → Prop} {b : Nat} {B B' : List (Int × Tn)} (h : St w0 W F b B) (h1 : BoxR w' (grow F W w') b B') (h2 : Fr F W w') : St w0 w' (grow F W w') b B' := by
  refine ⟨h1, ?_, h.fr.trans' h2 (fun k hk _ => h.base k hk)⟩
  rintro k (hk | hk)
  · exact h.base k hk
  · have := h.fr.size
    omega

theorem St.below {w0 W : World} {F : Nat → Prop} {b : Nat} {B : List (Int × Tn)} (h : St w0 W F b B) : Below w0.heap.size w0 W :=
  ⟨h.fr.os, h.fr.tape, h.fr.output, h.fr.size, fun k hk => h.fr.block k hk (by omega)⟩

theorem passS {w0 W : World} {F : Nat → Prop} {b : Nat} {B B' : List (Int × Tn)} {p q : Pk} {v e : Int} (h : St w0 W F b B) (hp : passB B p = (B', q, v, e)) :
    Calls Try.prog 16 #[.pointer (some ⟨b, 0, none⟩), .agg (pkC p)] W fun en w' => en = .returned (.tuple #[.agg (pkC q), .int .i64 v, .int .i64 e]) ∧ St w0 w' (grow F W w') b B' ∧ Fr F W w' := by
  refine (passC h.box hp).mono ?_
  rintro en w' ⟨rfl, h1, h2⟩
  exact ⟨rfl, h.step h1 h2, h2⟩

theorem belowA (W : World) (o : Obj) : Below W.heap.size W (W.alloc o) := (Below.refl _ _).alloc (Nat.le_refl _) o

set_option maxHeartbeats 8000000 in
set_option maxRecDepth 100000 in
theorem round_any (a c port : Int) (w : World) (ha : -9223372036854775808 ≤ a) (ha' : a ≤ 9223372036854775807) (hc : -9223372036854775808 ≤ c) (hc' : c ≤ 9223372036854775807) (hp : -9223372036854775808 ≤ port) (hp' : port ≤ 9223372036854775807) :
    Calls Try.prog 10 #[.int .i64 a, .int .i64 c, .int .i64 port] w fun e w' => e = .returned (.bool true) ∧ Below w.heap.size w w' := by
  have e34 := eq34 9998
  have e38 : ∀ w, (Op.equalIn (9996 + 4) 38 (.agg #[.int .i64 0, .int .i64 0, .bool false, .int .i64 0, .int .i64 0, .int .i64 0, .int .i64 0, .bool false, .bool false, .bool false, .bool false, .int .i64 0, .int .i64 0, .int .i64 0, .int .i64 0]) (.agg #[.int .i64 0, .int .i64 0, .bool false, .int .i64 0, .int .i64 0, .int .i64 0, .int .i64 0, .bool false, .bool false, .bool false, .bool false, .int .i64 0, .int .i64 0, .int .i64 0, .int .i64 0])).run Try.prog w = .ok true w := fun w => eq38 9996 pk0 pk0 w
  have ka := pk_lt a 400 (by omega)
  have kc := pk_lt c 400 (by omega)
  have kp := pk_lt port 65536 (by omega)
  have HA := fun W => hide (pick_eq a 400 W ha ha' (by omega) (by omega))
  have HC := fun W => hide (pick_eq c 400 W hc hc' (by omega) (by omega))
  have HP := fun W => hide (pick_eq port 65536 W hp hp' (by omega) (by omega))
  obtain ⟨xa, hxa⟩ : ∃ x : Int, x = (pk a 400 : Nat) := ⟨_, rfl⟩
  obtain ⟨xc, hxc⟩ : ∃ x : Int, x = (pk c 400 : Nat) := ⟨_, rfl⟩
  obtain ⟨xp, hxp⟩ : ∃ x : Int, x = (pk port 65536 : Nat) := ⟨_, rfl⟩
  rw [← hxa] at HA
  rw [← hxc] at HC
  rw [← hxp] at HP
  have a1 : 0 ≤ xa := by omega
  have a2 : xa ≤ 399 := by omega
  have c1 : 0 ≤ xc := by omega
  have c2 : xc ≤ 399 := by omega
  have p1 : 0 ≤ xp := by omega
  have p2 : xp ≤ 65535 := by omega
  clear hxa hxc hxp ka kc kp
  go_enter Try.func10, Try.ntmps10
  go_wp2_with fail
  refine (box_any 4 w (by omega) (by omega)).mono ?_
  rintro e w1 ⟨b, rfl, hB1, hb1⟩
  have HS1 : Hid (St w w1 (fun k => w.heap.size ≤ k ∧ k < w1.heap.size) b (rb [] [])) := ⟨hB1, fun k hk => hk.1, Fr.of_below hb1⟩
  have hs1 := hb1.size
  have hbw : b < w1.heap.size := by
    obtain ⟨r, C, hC, _⟩ := hB1
    exact hC.cell.1
  clear hB1 hb1
  generalize hF1 : (fun k => w.heap.size ≤ k ∧ k < w1.heap.size) = F1 at HS1
  clear hF1
  go_wp2_with fail
  refine (unhide (HA _)).mono ?_
  rintro e wx ⟨rfl, hw⟩
  symm at hw
  subst hw
  go_wp2_with fail
  refine (unhide (HP _)).mono ?_
  rintro e wx ⟨rfl, hw⟩
  symm at hw
  subst hw
  go_wp2_with fail
  refine (unhide (HC _)).mono ?_
  rintro e wx ⟨rfl, hw⟩
  symm at hw
  subst hw
  go_wp2_with fail
  refine (unhide (HP _)).mono ?_
  rintro e wx ⟨rfl, hw⟩
  symm at hw
  subst hw
  go_wp2_with fail
  have hS2 := ((unhide HS1).new (belowA _ (.cells #[.int .i64 (1 + xa), .int .i64 xp] 34))).new (belowA _ (.cells #[.int .i64 (401 + xc), .int .i64 xp] 34))
  have hO1 := (Out.alloc (unhide HS1).box (.cells #[.int .i64 (1 + xa), .int .i64 xp] 34)).new (belowA _ (.cells #[.int .i64 (401 + xc), .int .i64 xp] 34))
  have hO2 := Out.alloc ((unhide HS1).new (belowA _ (.cells #[.int .i64 (1 + xa), .int .i64 xp] 34))).box (.cells #[.int .i64 (401 + xc), .int .i64 xp] 34)
  have e0 : (w1.alloc (.cells #[.int .i64 (1 + xa), .int .i64 xp] 34)).heap.size = w1.heap.size + 1 := by simp
  rw [e0] at hO2
  refine (passS (p := rpk 1 (401 + xc) xp 103) hS2 (round1 (401 + xc) xp (by omega) (by omega) p1 p2)).mono ?_
  rintro e w2 ⟨rfl, hS3, hF3⟩
  have e1 : w1.heap.size + 2 ≤ w2.heap.size := by have := hF3.size; simpa using this
  have hO1' := hO1.pass hF3
  have hO2' := hO2.pass hF3
  generalize grow F1 _ w2 = F2 at hS3 hO1' hO2'
  have HS3 := hide (And.intro hS3 (And.intro hO1' hO2'))
  obtain ⟨f0, f1⟩ := end_cells hO1'.1
  obtain ⟨t0, t1⟩ := end_cells hO2'.1
  clear hS2 hO1 hO2 hS3 hF3 hO1' hO2' e0 HS1 HA HC HP
  have l1 : w1.heap.size < w2.heap.size := by omega
  have l2 : w1.heap.size + 1 < w2.heap.size := by omega
  dsimp only [pkC, pk0]
  go_wp2_with fail
  have hS4 := (unhide HS3).1.new (belowA w2 (.cells (pkC pk0) 38))
  have hO3 := (unhide HS3).2.1.new (belowA w2 (.cells (pkC pk0) 38))
  have hO4 := (unhide HS3).2.2.new (belowA w2 (.cells (pkC pk0) 38))
  refine (passS (p := rpk 1 (1 + xa) xp 100) hS4 (round2 (1 + xa) (401 + xc) xp (by omega) (by omega) p1 p2 (by omega))).mono ?_
  rintro e w3 ⟨rfl, hS5, hF5⟩
  have e2 : w2.heap.size + 1 ≤ w3.heap.size := by have := hF5.size; simpa using this
  have hO3' := hO3.pass hF5
  have hO4' := hO4.pass hF5
  generalize grow F2 _ w3 = F3 at hS5 hO3' hO4'
  have HS5 := hide (And.intro hS5 (And.intro hO3' hO4'))
  clear f0 f1 t0 t1
  obtain ⟨f0, f1⟩ := end_cells hO3'.1
  obtain ⟨t0, t1⟩ := end_cells hO4'.1
  clear hS4 hO3 hO4 hS5 hF5 hO3' hO4' HS3
  have l3 : w1.heap.size < w3.heap.size := by omega
  have l4 : w1.heap.size + 1 < w3.heap.size := by omega
  dsimp only [pkC]
  go_wp2_with fail
  have hS6 := (unhide HS5).1.new (belowA w3 (.cells (pkC ⟨1, 1, false, 1000, 101, 401 + xc, xp, false, false, false, false, 0, 0, 0, 0⟩) 38))
  have hO5 := (unhide HS5).2.1.new (belowA w3 (.cells (pkC ⟨1, 1, false, 1000, 101, 401 + xc, xp, false, false, false, false, 0, 0, 0, 0⟩) 38))
  have hO6 := (unhide HS5).2.2.new (belowA w3 (.cells (pkC ⟨1, 1, false, 1000, 101, 401 + xc, xp, false, false, false, false, 0, 0, 0, 0⟩) 38))
  have hR6 := Out.alloc (unhide HS5).1.box (.cells (pkC ⟨1, 1, false, 1000, 101, 401 + xc, xp, false, false, false, false, 0, 0, 0, 0⟩) 38)
  refine (passS (p := rpk 1 (401 + xc) xp 101) hS6 (round3 (1 + xa) (401 + xc) xp (by omega) (by omega) p1 p2)).mono ?_
  rintro e w4 ⟨rfl, hS7, hF7⟩
  have e3 : w3.heap.size + 1 ≤ w4.heap.size := by have := hF7.size; simpa using this
  have hO5' := hO5.pass hF7
  have hO6' := hO6.pass hF7
  have hR6' := hR6.pass hF7
  generalize grow F3 _ w4 = F4 at hS7 hO5' hO6' hR6'
  have HS7 := hide (And.intro hS7 (And.intro hO5' (And.intro hO6' hR6')))
  clear f0 f1 t0 t1
  obtain ⟨f0, f1⟩ := end_cells hO5'.1
  obtain ⟨t0, t1⟩ := end_cells hO6'.1
  clear hS6 hO5 hO6 hR6 hS7 hF7 hO5' hO6' hR6' HS5
  have l5 : w1.heap.size < w4.heap.size := by omega
  have l6 : w1.heap.size + 1 < w4.heap.size := by omega
  dsimp only [pkC]
  go_wp2_with fail
  have hS8 := (unhide HS7).1.new (belowA w4 (.cells (pkC ⟨1, 1, false, 1000, 100, 1 + xa, xp, false, false, false, false, 0, 0, 0, 0⟩) 38))
  have hO7 := (unhide HS7).2.1.new (belowA w4 (.cells (pkC ⟨1, 1, false, 1000, 100, 1 + xa, xp, false, false, false, false, 0, 0, 0, 0⟩) 38))
  have hO8 := (unhide HS7).2.2.1.new (belowA w4 (.cells (pkC ⟨1, 1, false, 1000, 100, 1 + xa, xp, false, false, false, false, 0, 0, 0, 0⟩) 38))
  have hR8 := (unhide HS7).2.2.2.new (belowA w4 (.cells (pkC ⟨1, 1, false, 1000, 100, 1 + xa, xp, false, false, false, false, 0, 0, 0, 0⟩) 38))
  have hT8 := Out.alloc (unhide HS7).1.box (.cells (pkC ⟨1, 1, false, 1000, 100, 1 + xa, xp, false, false, false, false, 0, 0, 0, 0⟩) 38)
  obtain ⟨B5, hB5⟩ := round4 (1 + xa) xp [rm (401 + xc) xp 100, rm (1 + xa) xp 101] (by omega) (by omega) p1 p2
  refine (passS (p := rpk 2 (1 + xa) xp 100) hS8 hB5).mono ?_
  rintro e w5 ⟨rfl, hS9, hF9⟩
  have e4 : w4.heap.size + 1 ≤ w5.heap.size := by have := hF9.size; simpa using this
  clear f0 f1 t0 t1
  obtain ⟨f0, f1⟩ := end_cells (hO7.pass hF9).1
  obtain ⟨t0, t1⟩ := end_cells (hO8.pass hF9).1
  obtain ⟨r0, r1, r2, r3, r4, r5, r6, -⟩ := pk_cells (hR8.pass hF9).1
  obtain ⟨s0, s1, s2, s3, s4, s5, s6, -⟩ := pk_cells (hT8.pass hF9).1
  dsimp only at r0 r1 r2 r3 r4 r5 r6 s0 s1 s2 s3 s4 s5 s6
  have HS9 := hide hS9.below
  clear hS8 hO7 hO8 hR8 hT8 hS9 hF9 HS7
  have l7 : w1.heap.size < w5.heap.size := by omega
  have l8 : w1.heap.size + 1 < w5.heap.size := by omega
  have l9 : w3.heap.size < w5.heap.size := by omega
  have l10 : w4.heap.size < w5.heap.size := by omega
  dsimp only [pkC]
  go_wp2
  go_ret
  exact ⟨rfl, (unhide HS9).alloc (unhide HS9).size _⟩

end Go.Proofs.Ytkbgjbbniaflhaa
