/-
  Layer 8, texts merged: SuA, SuB, SuC, StE, SuD, SuE. For every argument within the bounds that each theorem names.
-/
import Derived.Test.YtcapkeaedpabjaaGreatDoorML1
import Derived.Test.YtcapkeaedpabjaaGreatDoorMG4
import Derived.Test.YtcapkeaedpabjaaGreatDoorMF1
import Derived.Maps.OwnSet
import Derived.Maps.OwnOps
import Derived.Test.YtcapkeaedpabjaaGreatDoorMN1

/-
 Layer 9: Builtin and HostOp, as the program and the reference have them.
-/
namespace Go.Proofs.YtcapkeaedpabjaaGreatDoor
open Go.RowKit Go.ChangeShapes Go.WideShapes
namespace Syn
/-- A number and whether it is known. -/
def okN (n : Int) : Value := .tuple #[.int .i64 (if n < 0 then 0 else n), .bool (decide (0 ≤ n))]
set_option maxRecDepth 100000 in
set_option maxHeartbeats 2000000 in
theorem blt_any (s : Txt) (w : World) : Calls Tryz.prog 50 #[.string ⟨s.toArray⟩] w fun e w' => e = .returned (okN (bltI s)) ∧ w' = w := by
 by_cases h0 : s = [108, 101, 110]
 ·subst h0
  rw [show okN (bltI [108, 101, 110]) = .tuple #[.int .i64 1, .bool true] from rfl]
  go_enter Tryz.func50, Tryz.ntmps50
  go_wp2
  go_ret2
  exact ⟨rfl, rfl⟩
 by_cases h1 : s = [115, 116, 114]
 ·subst h1
  rw [show okN (bltI [115, 116, 114]) = .tuple #[.int .i64 1, .bool true] from rfl]
  go_enter Tryz.func50, Tryz.ntmps50
  go_wp2
  go_ret2
  exact ⟨rfl, rfl⟩
 by_cases h2 : s = [105, 110, 116]
 ·subst h2
  rw [show okN (bltI [105, 110, 116]) = .tuple #[.int .i64 1, .bool true] from rfl]
  go_enter Tryz.func50, Tryz.ntmps50
  go_wp2
  go_ret2
  exact ⟨rfl, rfl⟩
 by_cases h3 : s = [107, 101, 121, 115]
 ·subst h3
  rw [show okN (bltI [107, 101, 121, 115]) = .tuple #[.int .i64 1, .bool true] from rfl]
  go_enter Tryz.func50, Tryz.ntmps50
  go_wp2
  go_ret2
  exact ⟨rfl, rfl⟩
 by_cases h4 : s = [102, 97, 105, 108]
 ·subst h4
  rw [show okN (bltI [102, 97, 105, 108]) = .tuple #[.int .i64 1, .bool true] from rfl]
  go_enter Tryz.func50, Tryz.ntmps50
  go_wp2
  go_ret2
  exact ⟨rfl, rfl⟩
 by_cases h5 : s = [112, 117, 115, 104]
 ·subst h5
  rw [show okN (bltI [112, 117, 115, 104]) = .tuple #[.int .i64 2, .bool true] from rfl]
  go_enter Tryz.func50, Tryz.ntmps50
  go_wp2
  go_ret2
  exact ⟨rfl, rfl⟩
 by_cases h6 : s = [104, 97, 115]
 ·subst h6
  rw [show okN (bltI [104, 97, 115]) = .tuple #[.int .i64 2, .bool true] from rfl]
  go_enter Tryz.func50, Tryz.ntmps50
  go_wp2
  go_ret2
  exact ⟨rfl, rfl⟩
 by_cases h7 : s = [112, 117, 116]
 ·subst h7
  rw [show okN (bltI [112, 117, 116]) = .tuple #[.int .i64 3, .bool true] from rfl]
  go_enter Tryz.func50, Tryz.ntmps50
  go_wp2
  go_ret2
  exact ⟨rfl, rfl⟩
 have b0 : (s == [108, 101, 110]) = false := by simpa using h0
 have b1 : (s == [115, 116, 114]) = false := by simpa using h1
 have b2 : (s == [105, 110, 116]) = false := by simpa using h2
 have b3 : (s == [107, 101, 121, 115]) = false := by simpa using h3
 have b4 : (s == [102, 97, 105, 108]) = false := by simpa using h4
 have b5 : (s == [112, 117, 115, 104]) = false := by simpa using h5
 have b6 : (s == [104, 97, 115]) = false := by simpa using h6
 have b7 : (s == [112, 117, 116]) = false := by simpa using h7
 have e : bltI s = -1 := by
  unfold bltI
  simp [h0, h1, h2, h3, h4, h5, h6, h7]
 rw [e, show okN (-1) = .tuple #[.int .i64 0, .bool false] from rfl]
 clear e
 go_enter Tryz.func50, Tryz.ntmps50
 go_wp2
 go_ret2
 exact ⟨rfl, rfl⟩
set_option maxRecDepth 100000 in
set_option maxHeartbeats 2000000 in
theorem rblt_any (s : Txt) (w : World) : Calls Tryz.prog 52 #[.string ⟨s.toArray⟩] w fun e w' => e = .returned (okN (bltI s)) ∧ w' = w := by
 by_cases h0 : s = [108, 101, 110]
 ·subst h0
  rw [show okN (bltI [108, 101, 110]) = .tuple #[.int .i64 1, .bool true] from rfl]
  go_enter Tryz.func52, Tryz.ntmps52
  go_wp2
  go_ret2
  exact ⟨rfl, rfl⟩
 by_cases h1 : s = [115, 116, 114]
 ·subst h1
  rw [show okN (bltI [115, 116, 114]) = .tuple #[.int .i64 1, .bool true] from rfl]
  go_enter Tryz.func52, Tryz.ntmps52
  go_wp2
  go_ret2
  exact ⟨rfl, rfl⟩
 by_cases h2 : s = [105, 110, 116]
 ·subst h2
  rw [show okN (bltI [105, 110, 116]) = .tuple #[.int .i64 1, .bool true] from rfl]
  go_enter Tryz.func52, Tryz.ntmps52
  go_wp2
  go_ret2
  exact ⟨rfl, rfl⟩
 by_cases h3 : s = [107, 101, 121, 115]
 ·subst h3
  rw [show okN (bltI [107, 101, 121, 115]) = .tuple #[.int .i64 1, .bool true] from rfl]
  go_enter Tryz.func52, Tryz.ntmps52
  go_wp2
  go_ret2
  exact ⟨rfl, rfl⟩
 by_cases h4 : s = [102, 97, 105, 108]
 ·subst h4
  rw [show okN (bltI [102, 97, 105, 108]) = .tuple #[.int .i64 1, .bool true] from rfl]
  go_enter Tryz.func52, Tryz.ntmps52
  go_wp2
  go_ret2
  exact ⟨rfl, rfl⟩
 by_cases h5 : s = [112, 117, 115, 104]
 ·subst h5
  rw [show okN (bltI [112, 117, 115, 104]) = .tuple #[.int .i64 2, .bool true] from rfl]
  go_enter Tryz.func52, Tryz.ntmps52
  go_wp2
  go_ret2
  exact ⟨rfl, rfl⟩
 by_cases h6 : s = [104, 97, 115]
 ·subst h6
  rw [show okN (bltI [104, 97, 115]) = .tuple #[.int .i64 2, .bool true] from rfl]
  go_enter Tryz.func52, Tryz.ntmps52
  go_wp2
  go_ret2
  exact ⟨rfl, rfl⟩
 by_cases h7 : s = [112, 117, 116]
 ·subst h7
  rw [show okN (bltI [112, 117, 116]) = .tuple #[.int .i64 3, .bool true] from rfl]
  go_enter Tryz.func52, Tryz.ntmps52
  go_wp2
  go_ret2
  exact ⟨rfl, rfl⟩
 have b0 : (s == [108, 101, 110]) = false := by simpa using h0
 have b1 : (s == [115, 116, 114]) = false := by simpa using h1
 have b2 : (s == [105, 110, 116]) = false := by simpa using h2
 have b3 : (s == [107, 101, 121, 115]) = false := by simpa using h3
 have b4 : (s == [102, 97, 105, 108]) = false := by simpa using h4
 have b5 : (s == [112, 117, 115, 104]) = false := by simpa using h5
 have b6 : (s == [104, 97, 115]) = false := by simpa using h6
 have b7 : (s == [112, 117, 116]) = false := by simpa using h7
 have e : bltI s = -1 := by
  unfold bltI
  simp [h0, h1, h2, h3, h4, h5, h6, h7]
 rw [e, show okN (-1) = .tuple #[.int .i64 0, .bool false] from rfl]
 clear e
 go_enter Tryz.func52, Tryz.ntmps52
 go_wp2
 go_ret2
 exact ⟨rfl, rfl⟩
set_option maxRecDepth 100000 in
set_option maxHeartbeats 2000000 in
theorem hst_any (s : Txt) (w : World) : Calls Tryz.prog 210 #[.string ⟨s.toArray⟩] w fun e w' => e = .returned (okN (hstI s)) ∧ w' = w := by
 by_cases h0 : s = [110, 111, 119]
 ·subst h0
  rw [show okN (hstI [110, 111, 119]) = .tuple #[.int .i64 0, .bool true] from rfl]
  go_enter Tryz.func210, Tryz.ntmps210
  go_wp2
  go_ret2
  exact ⟨rfl, rfl⟩
 by_cases h1 : s = [103, 101, 116]
 ·subst h1
  rw [show okN (hstI [103, 101, 116]) = .tuple #[.int .i64 1, .bool true] from rfl]
  go_enter Tryz.func210, Tryz.ntmps210
  go_wp2
  go_ret2
  exact ⟨rfl, rfl⟩
 by_cases h2 : s = [100, 101, 108, 101, 116, 101]
 ·subst h2
  rw [show okN (hstI [100, 101, 108, 101, 116, 101]) = .tuple #[.int .i64 1, .bool true] from rfl]
  go_enter Tryz.func210, Tryz.ntmps210
  go_wp2
  go_ret2
  exact ⟨rfl, rfl⟩
 by_cases h3 : s = [115, 101, 99, 114, 101, 116]
 ·subst h3
  rw [show okN (hstI [115, 101, 99, 114, 101, 116]) = .tuple #[.int .i64 1, .bool true] from rfl]
  go_enter Tryz.func210, Tryz.ntmps210
  go_wp2
  go_ret2
  exact ⟨rfl, rfl⟩
 by_cases h4 : s = [108, 111, 103]
 ·subst h4
  rw [show okN (hstI [108, 111, 103]) = .tuple #[.int .i64 1, .bool true] from rfl]
  go_enter Tryz.func210, Tryz.ntmps210
  go_wp2
  go_ret2
  exact ⟨rfl, rfl⟩
 by_cases h5 : s = [112, 117, 116]
 ·subst h5
  rw [show okN (hstI [112, 117, 116]) = .tuple #[.int .i64 2, .bool true] from rfl]
  go_enter Tryz.func210, Tryz.ntmps210
  go_wp2
  go_ret2
  exact ⟨rfl, rfl⟩
 by_cases h6 : s = [115, 101, 110, 100]
 ·subst h6
  rw [show okN (hstI [115, 101, 110, 100]) = .tuple #[.int .i64 2, .bool true] from rfl]
  go_enter Tryz.func210, Tryz.ntmps210
  go_wp2
  go_ret2
  exact ⟨rfl, rfl⟩
 by_cases h7 : s = [115, 105, 103, 110, 97, 108]
 ·subst h7
  rw [show okN (hstI [115, 105, 103, 110, 97, 108]) = .tuple #[.int .i64 2, .bool true] from rfl]
  go_enter Tryz.func210, Tryz.ntmps210
  go_wp2
  go_ret2
  exact ⟨rfl, rfl⟩
 by_cases h8 : s = [102, 101, 116, 99, 104]
 ·subst h8
  rw [show okN (hstI [102, 101, 116, 99, 104]) = .tuple #[.int .i64 2, .bool true] from rfl]
  go_enter Tryz.func210, Tryz.ntmps210
  go_wp2
  go_ret2
  exact ⟨rfl, rfl⟩
 by_cases h9 : s = [116, 105, 109, 101, 114]
 ·subst h9
  rw [show okN (hstI [116, 105, 109, 101, 114]) = .tuple #[.int .i64 3, .bool true] from rfl]
  go_enter Tryz.func210, Tryz.ntmps210
  go_wp2
  go_ret2
  exact ⟨rfl, rfl⟩
 have b0 : (s == [110, 111, 119]) = false := by simpa using h0
 have b1 : (s == [103, 101, 116]) = false := by simpa using h1
 have b2 : (s == [100, 101, 108, 101, 116, 101]) = false := by simpa using h2
 have b3 : (s == [115, 101, 99, 114, 101, 116]) = false := by simpa using h3
 have b4 : (s == [108, 111, 103]) = false := by simpa using h4
 have b5 : (s == [112, 117, 116]) = false := by simpa using h5
 have b6 : (s == [115, 101, 110, 100]) = false := by simpa using h6
 have b7 : (s == [115, 105, 103, 110, 97, 108]) = false := by simpa using h7
 have b8 : (s == [102, 101, 116, 99, 104]) = false := by simpa using h8
 have b9 : (s == [116, 105, 109, 101, 114]) = false := by simpa using h9
 have e : hstI s = -1 := by
  unfold hstI
  simp [h0, h1, h2, h3, h4, h5, h6, h7, h8, h9]
 rw [e, show okN (-1) = .tuple #[.int .i64 0, .bool false] from rfl]
 clear e
 go_enter Tryz.func210, Tryz.ntmps210
 go_wp2
 go_ret2
 exact ⟨rfl, rfl⟩
set_option maxRecDepth 100000 in
set_option maxHeartbeats 2000000 in
theorem rhst_any (s : Txt) (w : World) : Calls Tryz.prog 212 #[.string ⟨s.toArray⟩] w fun e w' => e = .returned (okN (hstI s)) ∧ w' = w := by
 by_cases h0 : s = [110, 111, 119]
 ·subst h0
  rw [show okN (hstI [110, 111, 119]) = .tuple #[.int .i64 0, .bool true] from rfl]
  go_enter Tryz.func212, Tryz.ntmps212
  go_wp2
  go_ret2
  exact ⟨rfl, rfl⟩
 by_cases h1 : s = [103, 101, 116]
 ·subst h1
  rw [show okN (hstI [103, 101, 116]) = .tuple #[.int .i64 1, .bool true] from rfl]
  go_enter Tryz.func212, Tryz.ntmps212
  go_wp2
  go_ret2
  exact ⟨rfl, rfl⟩
 by_cases h2 : s = [100, 101, 108, 101, 116, 101]
 ·subst h2
  rw [show okN (hstI [100, 101, 108, 101, 116, 101]) = .tuple #[.int .i64 1, .bool true] from rfl]
  go_enter Tryz.func212, Tryz.ntmps212
  go_wp2
  go_ret2
  exact ⟨rfl, rfl⟩
 by_cases h3 : s = [115, 101, 99, 114, 101, 116]
 ·subst h3
  rw [show okN (hstI [115, 101, 99, 114, 101, 116]) = .tuple #[.int .i64 1, .bool true] from rfl]
  go_enter Tryz.func212, Tryz.ntmps212
  go_wp2
  go_ret2
  exact ⟨rfl, rfl⟩
 by_cases h4 : s = [108, 111, 103]
 ·subst h4
  rw [show okN (hstI [108, 111, 103]) = .tuple #[.int .i64 1, .bool true] from rfl]
  go_enter Tryz.func212, Tryz.ntmps212
  go_wp2
  go_ret2
  exact ⟨rfl, rfl⟩
 by_cases h5 : s = [112, 117, 116]
 ·subst h5
  rw [show okN (hstI [112, 117, 116]) = .tuple #[.int .i64 2, .bool true] from rfl]
  go_enter Tryz.func212, Tryz.ntmps212
  go_wp2
  go_ret2
  exact ⟨rfl, rfl⟩
 by_cases h6 : s = [115, 101, 110, 100]
 ·subst h6
  rw [show okN (hstI [115, 101, 110, 100]) = .tuple #[.int .i64 2, .bool true] from rfl]
  go_enter Tryz.func212, Tryz.ntmps212
  go_wp2
  go_ret2
  exact ⟨rfl, rfl⟩
 by_cases h7 : s = [115, 105, 103, 110, 97, 108]
 ·subst h7
  rw [show okN (hstI [115, 105, 103, 110, 97, 108]) = .tuple #[.int .i64 2, .bool true] from rfl]
  go_enter Tryz.func212, Tryz.ntmps212
  go_wp2
  go_ret2
  exact ⟨rfl, rfl⟩
 by_cases h8 : s = [102, 101, 116, 99, 104]
 ·subst h8
  rw [show okN (hstI [102, 101, 116, 99, 104]) = .tuple #[.int .i64 2, .bool true] from rfl]
  go_enter Tryz.func212, Tryz.ntmps212
  go_wp2
  go_ret2
  exact ⟨rfl, rfl⟩
 by_cases h9 : s = [116, 105, 109, 101, 114]
 ·subst h9
  rw [show okN (hstI [116, 105, 109, 101, 114]) = .tuple #[.int .i64 3, .bool true] from rfl]
  go_enter Tryz.func212, Tryz.ntmps212
  go_wp2
  go_ret2
  exact ⟨rfl, rfl⟩
 have b0 : (s == [110, 111, 119]) = false := by simpa using h0
 have b1 : (s == [103, 101, 116]) = false := by simpa using h1
 have b2 : (s == [100, 101, 108, 101, 116, 101]) = false := by simpa using h2
 have b3 : (s == [115, 101, 99, 114, 101, 116]) = false := by simpa using h3
 have b4 : (s == [108, 111, 103]) = false := by simpa using h4
 have b5 : (s == [112, 117, 116]) = false := by simpa using h5
 have b6 : (s == [115, 101, 110, 100]) = false := by simpa using h6
 have b7 : (s == [115, 105, 103, 110, 97, 108]) = false := by simpa using h7
 have b8 : (s == [102, 101, 116, 99, 104]) = false := by simpa using h8
 have b9 : (s == [116, 105, 109, 101, 114]) = false := by simpa using h9
 have e : hstI s = -1 := by
  unfold hstI
  simp [h0, h1, h2, h3, h4, h5, h6, h7, h8, h9]
 rw [e, show okN (-1) = .tuple #[.int .i64 0, .bool false] from rfl]
 clear e
 go_enter Tryz.func212, Tryz.ntmps212
 go_wp2
 go_ret2
 exact ⟨rfl, rfl⟩
end Syn
end Go.Proofs.YtcapkeaedpabjaaGreatDoor

/-
 Layer 9: the scope of a function: a map behind a pointer; add, find, declare.
-/
namespace Go.Proofs.YtcapkeaedpabjaaGreatDoor
open Go.RowKit Go.ChangeShapes Go.WideShapes Go.Maps
namespace Syn
theorem alloc_szs (w : World) (o : Obj) : (w.alloc o).heap.size = w.heap.size + 1 := by show (w.heap.push o).size = _; simp
theorem mlaw : Keyed Tryz.prog 9 := string_keyed Tryz.underlying9
theorem mzero (w : World) : (zeroValue 3).run Tryz.prog w = .ok (.int .i64 0) w := by kernel_rfl
theorem mkey (s : Txt) (h : s.length ≤ 140737488355328) : keyOf Tryz.prog 9 (.string ⟨s.toArray⟩) = some (.string s) := Go.WideMaps.keyOf_string_mk Tryz.underlying9 (show s.toArray.size ≤ maxLen by unfold maxLen; simp; omega)
/-- What the map holds is what is visible. -/
def View (D : DataW Unit) (s : Sc) : Prop := ∀ nm : Txt, Maps.has D (.string nm) = (s.vis nm).isSome ∧ ∀ n, s.vis nm = some n → D.atKey (.string nm) (.lit (.int .i64 0)) = .lit (.int .i64 (n : Int))
theorem View.empty : View (.map []) ⟨fun _ => none, 0⟩ := fun nm => ⟨rfl, fun n h => by cases h⟩
theorem lit_ne {a b : Txt} (h : a ≠ b) : Lit.string a ≠ Lit.string b := fun e => h (by cases e; rfl)
theorem View.add {D : DataW Unit} {s : Sc} (h : View D s) (hi : IsMap D) (nm : Txt) : View (D.put (.string nm) (.lit (.int .i64 (s.cnt : Int)))) (s.add nm) := fun x => by
 unfold Sc.add
 simp only
 by_cases e : x = nm
 ·rw [if_pos e, e]
  exact ⟨has_put_same hi (show WideAt.IsKeyLit (.string nm) from trivial) _, fun n q => by
   obtain rfl := Option.some.inj q
   exact atKey_put_same hi (show WideAt.IsKeyLit (.string nm) from trivial) _ _⟩
 ·rw [if_neg e, has_put_other (lit_ne e), atKey_put_other (lit_ne e)]
  exact h x
theorem View.del {D : DataW Unit} {s : Sc} (h : View D s) (nm : Txt) : View (D.del (.string nm)) (s.del nm) := fun x => by
 unfold Sc.del
 simp only
 by_cases e : x = nm
 ·rw [if_pos e, e]
  exact ⟨has_del_same, fun n q => by cases q⟩
 ·rw [if_neg e, has_del_other (lit_ne e), atKey_del_other (lit_ne e)]
  exact h x
/-- A scope in memory: its struct, its map. -/
structure ScAt (w : World) (sb mb : Nat) (s : Sc) : Prop where
 c0 : w.cell? ⟨sb, 0, none⟩ = some (.map (some mb))
 c1 : w.cell? ⟨sb, 1, none⟩ = some (.int .i64 (s.cnt : Int))
 f1 : w.frozen? ⟨sb, 1, none⟩ = false
 ne : mb ≠ sb
 map : ∃ D : DataW Unit, w.ownsMap Tryz.prog 9 (plainElem Tryz.prog 3) mb s.cnt D ∧ View D s
/-- The blocks of a scope. -/
def Of (sb mb : Nat) (b : Nat) : Prop := b = sb ∨ b = mb
theorem turn_mod {w w' : World} {mb : Nat} (h : w.mapTurned w' mb) : Mod (fun b => b = mb) w w' := Mod.grown h.grown (fun i e => by cases e; rfl)
theorem mod_froz {F : Nat → Prop} {w w' : World} (h : Mod F w w') {p : Addr} {v : Value} (hc : w.cell? p = some v) (hp : ¬ F p.block) : w'.frozen? p = w.frozen? p := by
 have hb := h.block p.block (World.block_lt_of_cell? w p hc) hp
 unfold World.frozen?
 rw [hb]
theorem ScAt.on {w w' : World} {sb mb : Nat} {s : Sc} {F : Nat → Prop} (h : ScAt w sb mb s) (g : Mod F w w') (h1 : ¬ F sb) (h2 : ¬ F mb) : ScAt w' sb mb s := by
 obtain ⟨D, hD, hv⟩ := h.map
 refine ⟨g.cell h.c0 h1, g.cell h.c1 h1, (mod_froz g h.c1 h1).trans h.f1, h.ne, D, ?_, hv⟩
 have hb := g.block mb hD.lt h2
 unfold World.ownsMap at hD ⊢
 rw [hb]
 exact hD
set_option maxRecDepth 100000 in
set_option maxHeartbeats 2000000 in
theorem scadd_any (sb mb : Nat) (s : Sc) (nm : Txt) (hn : nm.length ≤ 140737488355328) (hc : s.cnt ≤ 100000) (w : World) (hA : ScAt w sb mb s) :
  Calls Tryz.prog 205 #[.pointer (some ⟨sb, 0, none⟩), .string ⟨nm.toArray⟩] w fun e w' => e = .returned (.int .i64 (s.cnt : Int)) ∧ ScAt w' sb mb (s.add nm) ∧ Mod (Of sb mb) w w' := by
 obtain ⟨c0, c1, f1, hne, D, hown, hv⟩ := hA
 have hkey := mkey nm hn
 have hv2 := Lib.hid (hv.add hown.isMap nm)
 have hwf : (Lit.int .i64 (s.cnt : Int)).wf = true := WalkArith.wf_i64 (by omega)
 have hml : s.cnt < maxLen := by unfold maxLen; omega
 have hcc := Lib.hid hc
 clear hv hc
 go_enter Tryz.func205, Tryz.ntmps205
 go_wp2_with (first | (at_mapUpdate; refine wpList_mapUpdate_in _ rfl _ _ _ 161 rfl 9 3 mlaw Tryz.underlying161 _ mb s.cnt D rfl hown hml _ _ _ rfl rfl hkey _ [] (plainElem_int Tryz.underlying3 hwf) ?_; intro w1 hown1 hturn1; have d0 := (turn_mod hturn1).cell c0 hne.symm; have d1 := (turn_mod hturn1).cell c1 hne.symm; have g1 := (hturn1.frozen ⟨sb, 1, none⟩).trans f1))
 go_ret
 refine ⟨rfl, ⟨?_, ?_, ?_, hne, _, hown1.setCell hne _, hv2.out⟩, ?_⟩
 ·refine (World.cell?_setCell_other _ _ _ _ ?_).trans d0
  simp
 ·refine (World.cell?_setCell_same _ _ _ d1).trans ?_
  rw [show wrap64 ((s.cnt : Int) + 1) = (s.cnt : Int) + 1 by have := hcc.out; unfold wrap64; omega]
  rfl
 ·rw [World.frozen?_setCell]; exact g1
 ·exact Mod.setCell (F := Of sb mb) ((turn_mod hturn1).weak (fun i e => Or.inr e)) (p := ⟨sb, 1, none⟩) (Or.inl (Or.inl rfl)) _
/-- What find answers. -/
def findX (o : Option Nat) : Int := match o with | some _ => 0 | none => 4
def findE (o : Option Nat) : Value := .tuple #[.int .i64 (outI o), .int .i64 (findX o)]
set_option maxRecDepth 100000 in
set_option maxHeartbeats 2000000 in
theorem find_any2 (sb mb : Nat) (s : Sc) (nm : Txt) (hn : nm.length ≤ 140737488355328) (w : World) (hA : ScAt w sb mb s) :
  Calls Tryz.prog 206 #[.pointer (some ⟨sb, 0, none⟩), .string ⟨nm.toArray⟩] w fun e w' => e = .returned (findE (s.vis nm)) ∧ w' = w := by
 obtain ⟨c0, c1, f1, hne, D, hown, hv⟩ := hA
 have hkey := mkey nm hn
 obtain ⟨h1, h2⟩ := hv nm
 cases ho : s.vis nm with
 | none =>
  rw [ho] at h1
  have hh : Maps.has D (.string nm) = false := h1
  clear h1 h2 hv
  go_enter Tryz.func206, Tryz.ntmps206
  go_wp2_with (first | (at_lookup; refine wpList_lookup_own_ok_int _ rfl _ _ 161 rfl 9 3 .i64 mlaw Tryz.underlying161 Tryz.underlying3 (mzero _) mb s.cnt D rfl hown _ _ rfl hkey ?_; intro c hat hwc; rw [hh]))
  go_ret2
  exact ⟨rfl, rfl⟩
 | some n =>
  rw [ho] at h1
  have hh : Maps.has D (.string nm) = true := h1
  have hd := h2 n ho
  clear h1 h2 hv
  go_enter Tryz.func206, Tryz.ntmps206
  go_wp2_with (first | (at_lookup; refine wpList_lookup_own_ok_int _ rfl _ _ 161 rfl 9 3 .i64 mlaw Tryz.underlying161 Tryz.underlying3 (mzero _) mb s.cnt D rfl hown _ _ rfl hkey ?_; intro c hat hwc; rw [hh]; rw [hd] at hat; cases hat))
  go_ret2
  exact ⟨rfl, rfl⟩
/-- What declare answers, and what is visible then. -/
def declE (s : Sc) (nm : Txt) : Int × Int := match s.vis nm with | some _ => (-1, 6) | none => if s.cnt = 32 then (-1, 3) else ((s.cnt : Int), 0)
def declS (s : Sc) (nm : Txt) : Sc := match s.vis nm with | some _ => s | none => if s.cnt = 32 then s else s.add nm
set_option maxRecDepth 100000 in
set_option maxHeartbeats 2000000 in
theorem declare_any (sb mb : Nat) (s : Sc) (nm : Txt) (hn : nm.length ≤ 140737488355328) (hc : s.cnt ≤ 100000) (w : World) (hA : ScAt w sb mb s) :
  Calls Tryz.prog 207 #[.pointer (some ⟨sb, 0, none⟩), .string ⟨nm.toArray⟩] w fun e w' => e = .returned (.tuple #[.int .i64 (declE s nm).1, .int .i64 (declE s nm).2]) ∧ ScAt w' sb mb (declS s nm) ∧ Mod (Of sb mb) w w' := by
 have HAd := Lib.hid (scadd_any sb mb s nm hn hc w hA)
 have HA := Lib.hid hA
 obtain ⟨c0, c1, f1, hne, D, hown, hv⟩ := hA
 have hkey := mkey nm hn
 obtain ⟨h1, h2⟩ := hv nm
 unfold declE declS
 cases ho : s.vis nm with
 | some n =>
  rw [ho] at h1
  have hh : Maps.has D (.string nm) = true := h1
  clear h1 h2 hv HAd
  go_enter Tryz.func207, Tryz.ntmps207
  go_wp2_with (first | (at_lookup; refine wpList_lookup_own_ok_int _ rfl _ _ 161 rfl 9 3 .i64 mlaw Tryz.underlying161 Tryz.underlying3 (mzero _) mb s.cnt D rfl hown _ _ rfl hkey ?_; intro c hat hwc; rw [hh]))
  go_ret2
  exact ⟨rfl, HA.out, Mod.refl _ _⟩
 | none =>
  rw [ho] at h1
  have hh : Maps.has D (.string nm) = false := h1
  clear h1 h2 hv
  by_cases h32 : s.cnt = 32
  ·simp only [if_pos h32]
   rw [h32] at c1
   clear HAd
   go_enter Tryz.func207, Tryz.ntmps207
   go_wp2_with (first | (at_lookup; refine wpList_lookup_own_ok_int _ rfl _ _ 161 rfl 9 3 .i64 mlaw Tryz.underlying161 Tryz.underlying3 (mzero _) mb s.cnt D rfl hown _ _ rfl hkey ?_; intro c hat hwc; rw [hh]))
   go_ret2
   exact ⟨rfl, HA.out, Mod.refl _ _⟩
  ·simp only [if_neg h32]
   have hne32 : ((s.cnt : Int) == 32) = false := by simp; omega
   go_enter Tryz.func207, Tryz.ntmps207
   go_wp2_with (first | (at_lookup; refine wpList_lookup_own_ok_int _ rfl _ _ 161 rfl 9 3 .i64 mlaw Tryz.underlying161 Tryz.underlying3 (mzero _) mb s.cnt D rfl hown _ _ rfl hkey ?_; intro c hat hwc; rw [hh]))
   refine HAd.out.mono ?_
   rintro e w2 ⟨rfl, k1, k2⟩
   go_wp2_with fail
   go_ret2
   exact ⟨rfl, k1, k2⟩
end Syn
end Go.Proofs.YtcapkeaedpabjaaGreatDoor

/-
 Layer 9: a new scope; leaving a block.
-/
namespace Go.Proofs.YtcapkeaedpabjaaGreatDoor
open Go.RowKit Go.ChangeShapes Go.WideShapes Go.Maps
namespace Syn
theorem sc0_take {ps : List Txt} {j : Nat} (h : j < ps.length) : sc0 (ps.take (j + 1)) = (sc0 (ps.take j)).add ps[j] := by
 unfold sc0
 rw [List.take_succ_eq_append_getElem h, List.foldl_append]
 rfl
set_option maxRecDepth 100000 in
set_option maxHeartbeats 4000000 in
theorem newScope_any (po : Option Addr) (k pc : Nat) (ps : List Txt) (hk : k ≤ 1000) (hs : ∀ p ∈ ps, p.length ≤ 140737488355328) (w : World) (hA : KArg w po k ps) :
  Calls Tryz.prog 155 #[.slice po k pc] w fun e w' => ∃ sb mb, e = .returned (.pointer (some ⟨sb, 0, none⟩)) ∧ ScAt w' sb mb (sc0 ps) ∧ Bel w w' ∧ w.heap.size ≤ sb ∧ w.heap.size ≤ mb := by
 have hmm := @run_makeMap Tryz.prog
 have hkl := karg_at hA
 obtain ⟨V, hV⟩ : ∃ V, (w.alloc (.map #[] 0)).alloc (.cells #[.map (some w.heap.size), .int .i64 0] 163) = V := ⟨_, rfl⟩
 have BV : Bel w V := by rw [← hV]; exact Bel.alloc (Bel.alloc (Bel.refl w) _) _
 have hz : (w.alloc (.map #[] 0)).heap.size = w.heap.size + 1 := alloc_szs _ _
 have hSc : ScAt V (w.heap.size + 1) w.heap.size (sc0 []) := by
  rw [← hV, ← hz]
  refine ⟨World.cell?_alloc_new .., World.cell?_alloc_new .., World.frozen?_alloc_new .., by omega, .map [], (World.ownsMap_made _ _ _ _).alloc _, View.empty⟩
 have HS := Lib.hid hSc
 have HB := Lib.hid BV
 have HV := Lib.hid hV
 have Hs := Lib.hid hs
 have Hk := Lib.hid hkl
 clear hSc BV hV hs hkl hz hA
 go_enter Tryz.func155, Tryz.ntmps155
 go_wp2_with fail
 go_loopw [11] (fun iv wr => ∃ j : Nat, iv = .int .i64 (j : Int) ∧ j ≤ k ∧ Hid (ScAt wr (w.heap.size + 1) w.heap.size (sc0 (ps.take j))) ∧ Hid (Bel w wr)) (fun iv _ => k - (intOf iv).toNat)
 case atStart => exact ⟨0, rfl, Nat.zero_le _, Lib.hid (by rw [HV.out]; exact HS.out), Lib.hid (by rw [HV.out]; exact HB.out)⟩
 case round =>
  obtain ⟨j, rfl, hj, HSc, HBr⟩ := hrel
  rename World => wr
  rcases Nat.lt_or_ge j k with hjk | hjk
  ·have hjl : j < ps.length := by rw [Hk.out.1]; exact hjk
   obtain ⟨b, off, rfl, hc⟩ := Hk.out.2 (by omega)
   have c0 := HBr.out.cell' (hc j hjl)
   have HA := Lib.hid (scadd_any (w.heap.size + 1) w.heap.size _ ps[j] (Hs.out _ (List.getElem_mem hjl)) (by rw [sc0_cnt, List.length_take]; omega) wr HSc.out)
   have Hst := Lib.hid (sc0_take hjl)
   have hjk' : (j : Int) < (k : Int) := by omega
   generalize ps[j] = p at *
   clear hc
   go_wp2_with fail
   refine HA.out.mono ?_
   rintro e w2 ⟨rfl, k1, k2⟩
   have B2 := Lib.hid (Mod.bel_of HBr.out k2 (fun i h => by rcases h with h | h <;> omega))
   have S2 := Lib.hid (show ScAt w2 _ _ (sc0 (ps.take (j + 1))) by rw [Hst.out]; exact k1)
   clear k1 k2
   go_wp2_with fail
   go_round
   case rel => exact ⟨j + 1, by go_num, by omega, S2, B2⟩
   case measure => simp [intOf]; omega
  ·obtain rfl : j = k := by omega
   have S2 := Lib.hid (show ScAt wr _ _ (sc0 ps) by have := HSc.out; rw [List.take_of_length_le (by rw [Hk.out.1]; exact Nat.le_refl _)] at this; exact this)
   go_wp2_with fail
   go_ret
   exact ⟨_, _, rfl, S2.out, HBr.out, by omega, Nat.le_refl _⟩
end Syn
end Go.Proofs.YtcapkeaedpabjaaGreatDoor

/-
 Layer 9, plainly: calls and reached functions, the reference's.
-/
namespace Go.Proofs.YtcapkeaedpabjaaGreatDoor
namespace Syn
theorem asc_ext : ∀ {l m : List Int}, l.Pairwise (· < ·) → m.Pairwise (· < ·) → (∀ x, x ∈ l ↔ x ∈ m) → l = m
 | [], [], _, _, _ => rfl
 | [], y :: m, _, _, h => by have := (h y).2 (List.mem_cons_self ..); cases this
 | x :: l, [], _, _, h => by have := (h x).1 (List.mem_cons_self ..); cases this
 | x :: l, y :: m, hl, hm, h => by
  rw [List.pairwise_cons] at hl hm
  have hxy : x = y := by
   rcases List.mem_cons.1 ((h x).1 (List.mem_cons_self ..)) with q | q
   ·exact q
   ·have h1 := hm.1 x q
    rcases List.mem_cons.1 ((h y).2 (List.mem_cons_self ..)) with r | r
    ·exact r.symm
    ·have h2 := hl.1 y r
     omega
  subst hxy
  rw [asc_ext hl.2 hm.2 (fun z => by
   have hz := h z
   rw [List.mem_cons, List.mem_cons] at hz
   constructor
   ·intro q
    rcases hz.1 (Or.inr q) with r | r
    ·have := hl.1 z q; omega
    ·exact r
   ·intro q
    rcases hz.2 (Or.inr q) with r | r
    ·have := hm.1 z q; omega
    ·exact r)]
/-- The node at which a function begins. -/
def lowOf (F : List Fw) (f : Nat) : Nat := match f with
 | 0 => 0
 | q + 1 => match F[q]? with | some x => x.body.toNat + 1 | none => 0
end Syn
end Go.Proofs.YtcapkeaedpabjaaGreatDoor

/-
 Layer 9: small functions of the resolution.
-/
namespace Go.Proofs.YtcapkeaedpabjaaGreatDoor
open Go.RowKit Go.ChangeShapes Go.WideShapes Go.Maps
namespace Syn
set_option maxRecDepth 100000 in
set_option maxHeartbeats 2000000 in
theorem checkArgs_any (k : Int) (s : ByteArray) (i : Int) (ko jo : Option Addr) (kn kc m jc : Nat) (x : Int) (w : World) :
  Calls Tryz.prog 209 #[.agg #[.int .i64 k, .string s, .int .i64 i, .slice ko kn kc, .slice jo m jc], .int .i64 (if x < 0 then 0 else x), .bool (decide (0 ≤ x))] w fun e w' => e = .returned (.int .i64 (argE m x)) ∧ Bel w w' := by
 have HB := Lib.hid (Bel.alloc (Bel.refl w) (.cells #[.int .i64 k, .string s, .int .i64 i, .slice ko kn kc, .slice jo m jc] 65))
 unfold argE
 by_cases hx : x < 0
 ·rw [if_pos hx, if_pos hx, decide_eq_false (by omega)]
  go_enter Tryz.func209, Tryz.ntmps209
  go_wp2_with fail
  go_ret
  exact ⟨rfl, HB.out⟩
 ·rw [if_neg hx, if_neg hx, decide_eq_true (by omega)]
  by_cases hk : (m : Int) = x
  ·subst hk
   rw [if_pos rfl]
   go_enter Tryz.func209, Tryz.ntmps209
   go_wp2_with fail
   go_ret
   exact ⟨rfl, HB.out⟩
  ·rw [if_neg hk]
   have hk2 : ((m : Int) == x) = false := by simpa using hk
   go_enter Tryz.func209, Tryz.ntmps209
   go_wp2_with fail
   go_ret
   exact ⟨rfl, HB.out⟩
theorem find_lt (F : List Fw) (s : Txt) : findI F s < (F.length : Int) ∧ -1 ≤ findI F s := by
 have : ∀ (F : List Fw) (i : Nat), fixI (fun f => decide (f.name = s)) i F < ((i + F.length : Nat) : Int) ∧ -1 ≤ fixI (fun f => decide (f.name = s)) i F := fun F => by
  induction F with
  | nil => intro i; rw [fixI]; simp; omega
  | cons f r ih =>
   intro i
   rw [fixI]
   split
   ·rw [List.length_cons]; omega
   ·have := ih (i + 1)
    rw [List.length_cons]
    omega
 have := this F 0
 unfold findI
 omega
set_option maxRecDepth 100000 in
set_option maxHeartbeats 4000000 in
theorem paramsOf_any (no fo : Option Addr) (n nc k fc : Nat) (F : List Fw) (s : Txt) (hk : k ≤ 4611686018427387904) (hwF : ∀ x ∈ F, x.params.length ≤ 4611686018427387904) (w : World) (hF : FArg w fo k F) :
  Calls Tryz.prog 208 #[.agg #[.slice no n nc, .slice fo k fc], .string ⟨s.toArray⟩] w fun e w' => e = .returned (okN (parI F s)) ∧ Bel w w' := by
 obtain ⟨V, hV⟩ : ∃ V, w.alloc (.cells #[.slice no n nc, .slice fo k fc] 25) = V := ⟨_, rfl⟩
 have BV : Bel w V := by rw [← hV]; exact Bel.alloc (Bel.refl w) _
 obtain ⟨v0, v1⟩ : V.cell? ⟨w.heap.size, 0, none⟩ = some (.slice no n nc) ∧ V.cell? ⟨w.heap.size, 1, none⟩ = some (.slice fo k fc) := by
  rw [← hV]
  exact ⟨World.cell?_alloc_new .., World.cell?_alloc_new ..⟩
 have HBV := Lib.hid BV
 have HFi := Lib.hid (find_any no fo n nc k fc F s hk V (hF.on BV))
 have hX : fixI (fun f => decide (f.name = s)) 0 F = findI F s := rfl
 rw [hX] at HFi
 obtain ⟨h1, h2⟩ := find_lt F s
 unfold parI
 have HBl := Lib.hid (fun W => blt_any s W)
 have hFk := hF.1
 by_cases h0 : 0 ≤ findI F s
 ·rw [if_pos h0]
  obtain ⟨q, hq⟩ : ∃ q : Nat, findI F s = (q : Int) := ⟨(findI F s).toNat, by omega⟩
  have hql : q < F.length := by omega
  rw [hq, Int.toNat_natCast, List.getElem?_eq_getElem hql]
  simp only
  rw [hq] at HFi
  obtain ⟨b, off, rfl, hcs⟩ := hF.2 (by omega)
  obtain ⟨⟨vs, po, pk, pc, vj⟩, hv, hcc⟩ := hcs q hql
  have d1 : V.cell? ⟨b, off + q * 3 + 1, none⟩ = some (.slice po pk pc) := BV.cell' (by simpa using hcc 1 _ rfl)
  have hpk : F[q].params.length = pk := by have := hv.ps.1; simpa using this
  have hpb : pk ≤ 4611686018427387904 := by rw [← hpk]; exact hwF _ (List.getElem_mem hql)
  have hqk : (q : Int) < (k : Int) := by omega
  have hq0 : (0 : Int) ≤ (q : Int) := by omega
  rw [hpk, show okN (pk : Int) = .tuple #[.int .i64 (pk : Int), .bool true] by unfold okN; rw [if_neg (by omega), decide_eq_true (by omega)]]
  clear hcs hcc hv hpk hwF hF BV HBl h0 h1 h2 hX
  go_enter Tryz.func208, Tryz.ntmps208
  go_wp2_with fail
  refine HFi.out.mono ?_
  rintro e w2 ⟨rfl, g⟩
  have e0 := g.cell' v0
  have e1 := g.cell' v1
  have e2 := g.cell' d1
  have G := Lib.hid (Bel.trans HBV.out g)
  clear g v0 v1 d1
  go_wp2_with fail
  go_ret2
  exact ⟨rfl, G.out⟩
 ·rw [if_neg h0]
  have hm : findI F s = -1 := by omega
  rw [hm] at HFi
  clear h0 h1 h2 hm hX hF hwF BV
  unfold okN at *
  generalize (if bltI s < 0 then (0 : Int) else bltI s) = r1 at *
  generalize decide (0 ≤ bltI s) = r2 at *
  go_enter Tryz.func208, Tryz.ntmps208
  go_wp2_with fail
  refine HFi.out.mono ?_
  rintro e w2 ⟨rfl, g⟩
  have G := Lib.hid (Bel.trans HBV.out g)
  clear g v0 v1
  go_wp2_with fail
  refine (HBl.out _).mono ?_
  rintro e w3 ⟨rfl, rfl⟩
  go_wp2_with fail
  go_ret2
  exact ⟨rfl, G.out⟩
theorem lowOf_ok {n : Nat} : ∀ {F : List Fw} {low : Nat}, Asc n low F → ∀ q (h : q < F.length), (low : Int) ≤ F[q].body ∧ F[q].body < (n : Int)
 | [], _, _, q, h => absurd h (Nat.not_lt_zero q)
 | f :: F, low, hA, q, h => by
  obtain ⟨a1, a2, a3⟩ := hA
  cases q with
  | zero => exact ⟨a1, a2⟩
  | succ q =>
   have := lowOf_ok a3 q (by simpa using h)
   simp only [List.getElem_cons_succ]
   omega
set_option maxRecDepth 100000 in
set_option maxHeartbeats 4000000 in
theorem firstNode_any (no fo : Option Addr) (n nc k fc : Nat) (F : List Fw) (hn : n ≤ 100000) (hk : k ≤ 100000) (hb : ∀ q (h : q < F.length), 0 ≤ F[q].body ∧ F[q].body < (n : Int)) (q : Nat) (hq : q < k) (w : World) (hF : FArg w fo k F) :
  Calls Tryz.prog 106 #[.agg #[.slice no n nc, .slice fo k fc], .int .i64 (q : Int)] w fun e w' => e = .returned (.int .i64 (lowOf F q : Int)) ∧ Bel w w' := by
 have HB := Lib.hid (Bel.alloc (Bel.refl w) (.cells #[.slice no n nc, .slice fo k fc] 25))
 have hFk := hF.1
 cases q with
 | zero =>
  go_enter Tryz.func106, Tryz.ntmps106
  go_wp2_with fail
  go_ret
  exact ⟨rfl, HB.out⟩
 | succ q =>
  have hql : q < F.length := by omega
  obtain ⟨b, off, rfl, hcs⟩ := hF.2 (by omega)
  obtain ⟨⟨vs, po, pk, pc, vj⟩, hv, hcc⟩ := hcs q hql
  have d2 : w.cell? ⟨b, off + q * 3 + 2, none⟩ = some (.int .i64 vj) := by simpa using hcc 2 _ rfl
  have hj : vj = F[q].body := hv.j
  obtain ⟨h0, h1⟩ := hb q hql
  obtain ⟨z, hz⟩ : ∃ z : Nat, F[q].body = (z : Int) := ⟨F[q].body.toNat, by omega⟩
  rw [hj, hz] at d2
  have e : (lowOf F (q + 1) : Int) = (z : Int) + 1 := by
   show ((match F[q]? with | some x => x.body.toNat + 1 | none => 0 : Nat) : Int) = _
   rw [List.getElem?_eq_getElem hql]
   simp only
   rw [hz]
   omega
  rw [e]
  have hzn : (z : Int) < (n : Int) := by omega
  have hqk : (q : Int) < (k : Int) := by omega
  have h1f : ((q : Int) + 1 == 0) = false := by simp; omega
  have hsub : IntKind.i64.wrap ((q : Int) + 1 - 1) = (q : Int) := by rw [IntKind.wrap_i64]; omega
  have hsub2 : IntKind.i64.wrap (q : Int) = (q : Int) := by rw [IntKind.wrap_i64]; omega
  have hq0 : (0 : Int) ≤ (q : Int) := by omega
  have hadd : IntKind.i64.wrap ((z : Int) + 1) = (z : Int) + 1 := by rw [IntKind.wrap_i64]; omega
  have d3 := (Bel.alloc (Bel.refl w) (.cells #[.slice no n nc, .slice (some ⟨b, off, none⟩) k fc] 25)).cell' d2
  clear hcs hcc hv hj hb hF hz h0 h1
  go_enter Tryz.func106, Tryz.ntmps106
  go_wp2_with fail
  go_ret
  exact ⟨rfl, HB.out⟩
set_option maxRecDepth 100000 in
set_option maxHeartbeats 4000000 in
theorem hasTwice_any (po : Option Addr) (k pc : Nat) (ps : List Txt) (hk : k ≤ 1000) (w : World) (hA : KArg w po k ps) :
  Calls Tryz.prog 154 #[.slice po k pc] w fun e w' => e = .returned (.bool (twiceB ps)) ∧ Bel w w' := by
 have HS := Lib.hid (Idn.sorted_any po k pc (ps.map bz) (by omega) w hA)
 have hl := hA.1
 rw [List.length_map] at hl
 have hmm : (ps.map bz).map ByteArray.toList = ps := by rw [List.map_map]; exact (List.map_congr_left fun x _ => by show (bz x).toList = x; rw [Go.ByteArray.toList_eq]; rfl).trans (List.map_id _)
 rw [hmm] at HS
 unfold twiceB
 rw [hl]
 obtain ⟨M, hM⟩ : ∃ M, (Idn.srt ps).length = M := ⟨_, rfl⟩
 rw [hM]
 obtain ⟨Bv, hBv⟩ : ∃ Bv, decide (M < k) = Bv := ⟨_, rfl⟩
 rw [hBv]
 have HBv := Lib.hid hBv
 clear hBv
 go_enter Tryz.func154, Tryz.ntmps154
 go_wp2_with fail
 refine HS.out.mono ?_
 rintro e w2 ⟨⟨v, rfl, hO⟩, g⟩
 have G := Lib.hid g
 obtain ⟨o, m, c, D, rfl, hD, hown⟩ := hO
 have hm : (Idn.srt ps).length = m := by
  have := hown.1
  rw [← hD, List.length_map]
  simpa [encS] using this
 obtain rfl : m = M := by omega
 clear hown hD g hm hM
 by_cases hlt : m < k
 ·have h2 : (m : Int) < (k : Int) := by omega
  obtain rfl : Bv = true := by rw [← HBv.out]; exact decide_eq_true hlt
  go_wp2_with fail
  go_ret
  exact ⟨rfl, G.out⟩
 ·have h2 : ¬ (m : Int) < (k : Int) := by omega
  obtain rfl : Bv = false := by rw [← HBv.out]; exact decide_eq_false hlt
  go_wp2_with fail
  go_ret
  exact ⟨rfl, G.out⟩
end Syn
end Go.Proofs.YtcapkeaedpabjaaGreatDoor

/-
 Layer 9: leaving a block; a node's visit.
-/
namespace Go.Proofs.YtcapkeaedpabjaaGreatDoor
open Go.RowKit Go.ChangeShapes Go.WideShapes Go.Maps
namespace Syn
theorem leave_one (L : List Nd) (s : Sc) (z : Int) (r : List Int) : leaveP L s (z :: r) = leaveP L (match L[z.toNat]? with | some x => if x.k = 13 then s.del x.s else s | none => s) r := rfl
set_option maxRecDepth 100000 in
set_option maxHeartbeats 8000000 in
theorem leave_any (sb mb : Nat) (no jo : Option Addr) (n nc m jc : Nat) (L : List Nd) (kids : List Int) (hm : m ≤ 100000) (hk : ∀ z ∈ kids, 0 ≤ z ∧ z < (n : Int)) (hs : ∀ x ∈ L, x.s.length ≤ 140737488355328) (S : Sc) (hcn : S.cnt ≤ 100000) (w : World) (hA : NArg w no n L) (hK : ZArg w jo m kids) (hS : ScAt w sb mb S)
  (hfar : 0 < n → ∀ o, no = some o → o.block ≠ sb ∧ o.block ≠ mb) (hfar2 : 0 < m → ∀ o, jo = some o → o.block ≠ sb ∧ o.block ≠ mb) :
  Calls Tryz.prog 211 #[.pointer (some ⟨sb, 0, none⟩), .slice no n nc, .slice jo m jc] w fun e w' => e = .returned (.tuple #[]) ∧ ScAt w' sb mb (leaveP L S kids) ∧ Mod (Of sb mb) w w' := by
 have HA := Lib.hid hA
 have HK := Lib.hid hK
 have Hk := Lib.hid hk
 have Hs := Lib.hid hs
 have HL := Lib.hid hK.1
 have hne := hS.ne
 have HN := Lib.hid hfar
 have HJ := Lib.hid hfar2
 obtain ⟨R, hR⟩ : ∃ R, leaveP L S kids = R := ⟨_, rfl⟩
 have HR := Lib.hid hR
 have HS := Lib.hid hS
 rw [hR]
 clear hA hK hk hs hR hS hfar hfar2
 go_enter Tryz.func211, Tryz.ntmps211
 go_wp2_with fail
 go_loopw [10] (fun iv wr => ∃ (j : Nat) (s : Sc), iv = .int .i64 (j : Int) ∧ j ≤ m ∧ Hid (ScAt wr sb mb s) ∧ Hid (leaveP L s (kids.drop j) = R) ∧ Hid (Mod (Of sb mb) w wr) ∧ Hid (s.cnt ≤ 100000)) (fun iv _ => m - (intOf iv).toNat)
 case atStart => exact ⟨0, S, rfl, Nat.zero_le _, HS, HR, Lib.hid (Mod.refl _ _), Lib.hid hcn⟩
 case round =>
  obtain ⟨j, s, rfl, hj, HSc, HM, HB, Hc⟩ := hrel
  rename World => wr
  rcases Nat.lt_or_ge j m with hjm | hjm
  ·have hjl : j < kids.length := by rw [HL.out]; exact hjm
   obtain ⟨b2, off2, rfl, hck⟩ := za_addr HK.out (by omega)
   obtain ⟨hb2s, hb2m⟩ := HJ.out (by omega) _ rfl
   have hno2 : ¬ Of sb mb b2 := fun h => by rcases h with h | h; exact hb2s h; exact hb2m h
   have cK := HB.out.cell (hck j hjl) hno2
   obtain ⟨hz0, hzn⟩ := Hk.out kids[j] (List.getElem_mem hjl)
   obtain ⟨q, hq⟩ : ∃ q : Nat, kids[j] = (q : Int) := ⟨kids[j].toNat, by omega⟩
   have hM := HM.out
   rw [List.drop_eq_getElem_cons hjl, leave_one] at hM
   rw [hq] at cK hzn hM
   have hqL : q < L.length := by rw [HA.out.1]; omega
   obtain ⟨b, off, rfl, hcs⟩ := HA.out.2 (by omega)
   obtain ⟨hbs, hbm⟩ := HN.out (by omega) _ rfl
   have hno : ¬ Of sb mb b := fun h => by rcases h with h | h; exact hbs h; exact hbm h
   obtain ⟨v, hv, hcc⟩ := hcs q hqL
   rw [Int.toNat_natCast, List.getElem?_eq_getElem hqL] at hM
   simp only at hM
   obtain ⟨x, hx⟩ : ∃ x, L[q] = x := ⟨_, rfl⟩
   have hxs : x.s.length ≤ 140737488355328 := by rw [← hx]; exact Hs.out _ (List.getElem_mem hqL)
   rw [hx] at hM hv
   have e0 : wr.cell? ⟨b, off + q * 5, none⟩ = some (.int .i64 x.k) := HB.out.cell (by have := hcc 0 _ rfl; rw [hv.k] at this; simpa using this) hno
   have e1 : wr.cell? ⟨b, off + q * 5 + 1, none⟩ = some (.string ⟨x.s.toArray⟩) := HB.out.cell (by have := hcc 1 _ rfl; rw [hv.s] at this; simpa using this) hno
   have hjm' : (j : Int) < (m : Int) := by omega
   have hzq : (0 : Int) ≤ (q : Int) := by omega
   clear hcs hcc hck hv hx hz0 hjl hno hno2 hq
   by_cases h13 : x.k = 13
   ·rw [if_pos h13] at hM
    rw [h13] at e0
    have HM2 := Lib.hid hM
    obtain ⟨c0, c1, f1, hne2, D, hown, hvw⟩ := HSc.out
    obtain ⟨w1, hrun, hown1, hturn⟩ := hown.drew.drop mlaw Tryz.underlying161 (mkey x.s hxs) 0
    clear hM
    go_wp2_with fail
    refine wp_region_held_drew (S := fun W => W.cell? ⟨sb, 0, none⟩ = some (.map (some mb)) ∧ W.cell? ⟨b, off + q * 5 + 1, none⟩ = some (.string ⟨x.s.toArray⟩)) (by kernel_rfl) ⟨c0, e1⟩ (fun hH => ?_)
    refine take_yes (i := 0) (d := 20) (v := ?_) rfl rfl (by kernel_rfl) (by kernel_rfl) (by kernel_rfl) (fun _ _ _ h => h) (by rfl) ?_ (by assumption) ?_
    rotate_left 1
    ·intro w hSw
     obtain ⟨z0, z1⟩ := hSw
     go_simp
     with_reducible rfl
    try simp only [Act.put, List.setIfInBounds_toArray, List.set_cons_zero, List.set_cons_succ]
    refine take_yes (i := 1) (d := 21) (v := ?_) rfl rfl (by kernel_rfl) (by kernel_rfl) (by kernel_rfl) (fun _ _ _ h => h) (by rfl) ?_ (by assumption) ?_
    rotate_left 1
    ·intro w hSw
     obtain ⟨z0, z1⟩ := hSw
     go_simp
     with_reducible rfl
    try simp only [Act.put, List.setIfInBounds_toArray, List.set_cons_zero, List.set_cons_succ]
    refine take_yes (i := 2) (d := 22) (v := ?_) rfl rfl (by kernel_rfl) (by kernel_rfl) (by kernel_rfl) (fun _ _ _ h => h) (by rfl) ?_ (by assumption) ?_
    rotate_left 1
    ·intro w hSw
     obtain ⟨z0, z1⟩ := hSw
     go_simp
     with_reducible rfl
    try simp only [Act.put, List.setIfInBounds_toArray, List.set_cons_zero, List.set_cons_succ]
    refine take_yes (i := 3) (d := 23) (v := ?_) rfl rfl (by kernel_rfl) (by kernel_rfl) (by kernel_rfl) (fun _ _ _ h => h) (by rfl) ?_ (by assumption) ?_
    rotate_left 1
    ·intro w hSw
     obtain ⟨z0, z1⟩ := hSw
     go_simp
     with_reducible rfl
    try simp only [Act.put, List.setIfInBounds_toArray, List.set_cons_zero, List.set_cons_succ]
    refine take_yes (i := 4) (d := 24) (v := ?_) rfl rfl (by kernel_rfl) (by kernel_rfl) (by kernel_rfl) (fun _ _ _ h => h) (by rfl) ?_ (by assumption) ?_
    rotate_left 1
    ·intro w hSw
     obtain ⟨z0, z1⟩ := hSw
     go_simp
     with_reducible rfl
    try simp only [Act.put, List.setIfInBounds_toArray, List.set_cons_zero, List.set_cons_succ]
    refine take_yes (i := 5) (d := 25) (v := ?_) rfl rfl (by kernel_rfl) (by kernel_rfl) (by kernel_rfl) (fun _ _ _ h => h) (by rfl) ?_ (by assumption) ?_
    rotate_left 1
    ·intro w hSw
     obtain ⟨z0, z1⟩ := hSw
     go_simp
     with_reducible rfl
    try simp only [Act.put, List.setIfInBounds_toArray, List.set_cons_zero, List.set_cons_succ]
    refine take_yes (i := 6) (d := 26) (v := ?_) rfl rfl (by kernel_rfl) (by kernel_rfl) (by kernel_rfl) (fun _ _ _ h => h) (by rfl) ?_ (by assumption) ?_
    rotate_left 1
    ·intro w hSw
     obtain ⟨z0, z1⟩ := hSw
     go_simp
     with_reducible rfl
    try simp only [Act.put, List.setIfInBounds_toArray, List.set_cons_zero, List.set_cons_succ]
    refine take_yes (i := 7) (d := 27) (v := ?_) rfl rfl (by kernel_rfl) (by kernel_rfl) (by kernel_rfl) (fun _ _ _ h => h) (by rfl) ?_ (by assumption) ?_
    rotate_left 1
    ·intro w hSw
     obtain ⟨z0, z1⟩ := hSw
     go_simp
     with_reducible rfl
    try simp only [Act.put, List.setIfInBounds_toArray, List.set_cons_zero, List.set_cons_succ]
    refine take_yes (i := 8) (d := 28) (v := ?_) rfl rfl (by kernel_rfl) (by kernel_rfl) (by kernel_rfl) (fun _ _ _ h => h) (by rfl) ?_ (by assumption) ?_
    rotate_left 1
    ·intro w hSw
     obtain ⟨z0, z1⟩ := hSw
     go_simp
     with_reducible rfl
    try simp only [Act.put, List.setIfInBounds_toArray, List.set_cons_zero, List.set_cons_succ]
    refine wpAnyH_ready (rs := [9]) (by kernel_rfl) (by simp) ?_
    refine AllReadyH.cons rfl (fun K hK => ?_) AllReadyH.nil
    go_simp
    have t0 := (turn_mod hturn).cell (show wr.drew.cell? ⟨sb, 0, none⟩ = _ from c0) hne2.symm
    have t1 := (turn_mod hturn).cell (show wr.drew.cell? ⟨sb, 1, none⟩ = _ from c1) hne2.symm
    have t2 := (turn_mod hturn).cell (show wr.drew.cell? ⟨b, off + q * 5 + 1, none⟩ = _ from e1) hbm
    have t3 := (hturn.frozen ⟨sb, 1, none⟩).trans f1
    have S3 := Lib.hid (show ScAt w1 sb mb (s.del x.s) from ⟨t0, t1, t3, hne2, _, hown1, hvw.del x.s⟩)
    have B3 := Lib.hid (show Mod (Of sb mb) w w1 from HB.out.drew.trans (turn_mod hturn) (fun i h => Or.inl (Or.inr h)))
    refine hK.out _ _ ⟨t0, t2⟩ (fun hH2 => ?_)
    clear hK K hH hH2 hown1 hturn
    try simp only [Act.put, List.setIfInBounds_toArray, List.set_cons_zero, List.set_cons_succ]
    refine wpAnyH_done (by kernel_rfl) ?_ _
    go_wp2_with fail
    go_round
    case rel => exact ⟨j + 1, s.del x.s, by go_num, by omega, S3, HM2, B3, Lib.hid (by have := Hc.out; exact this)⟩
    case measure => simp [intOf]; omega
   ·rw [if_neg h13] at hM
    have HM2 := Lib.hid hM
    have h13b : (x.k == 13) = false := by simpa using h13
    clear hM
    go_wp2_with fail
    go_round
    case rel => exact ⟨j + 1, s, by go_num, by omega, HSc, HM2, HB, Hc⟩
    case measure => simp [intOf]; omega
  ·have S2 := Lib.hid (show ScAt wr sb mb R by have := HM.out; rw [List.drop_eq_nil_of_le (by rw [HL.out]; exact hjm)] at this; rw [← this]; exact HSc.out)
   obtain rfl : j = m := by omega
   go_wp2_with fail
   go_end0
   exact ⟨rfl, S2.out, HB.out⟩
end Syn
end Go.Proofs.YtcapkeaedpabjaaGreatDoor
