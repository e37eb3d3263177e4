/-
  Layer 4's reference: Pack. What append builds of bytes.
-/
import Derived.Test.YtkecellbbfhpoaaFrmE
import Derived.Lib.AppendStr
import Derived.Laws.OwnMore
import Derived.Deep.RegionHeld3
import Derived.Laws.BytesArg
namespace Go.Proofs.Ytkecellbbfhpoaa
open Go.RowKit Go.ChangeShapes Go.WideShapes

/-- Bytes as cells. -/
def encB (l : List UInt8) : List Value := l.map fun b => Value.int .u8 (b.toNat : Int)
theorem encB_len (l : List UInt8) : (encB l).length = l.length := by simp [encB]
theorem encB_app (l r : List UInt8) : encB (l ++ r) = encB l ++ encB r := by simp [encB]
theorem byte_one {l : List UInt8} : ∀ u ∈ encB l, u.oneCell' = true := fun u hu => by
  simp only [encB, List.mem_map] at hu
  obtain ⟨x, _, rfl⟩ := hu
  rfl
theorem info_u8 : (Try.prog.info? 5).map (fun i => (i.zero, i.size, i.bytes)) = some (some (.int .u8 0), 1, 1) := by kernel_rfl
theorem strCells_enc (s : ByteArray) : Lib.strCells s = encB s.toList := by rw [Hsh.toL]; rfl
/-- The string of owned bytes. -/
theorem own_conv {W : World} {base m c : Nat} {o : Option Addr} {l : List UInt8} (h : W.ownsRow base 5 1 (.slice o m c) m (encB l)) : (convert 36 9 (.slice o m c)).run Try.prog W = .ok (.string ⟨l.toArray⟩) W := by
  have hl : l.length = m := by have := h.1; rw [encB_len] at this; omega
  rcases h.2 with ⟨hv, hk⟩ | ⟨g, cap, cur, hv, _⟩
  · simp only [Value.slice.injEq] at hv
    obtain ⟨rfl, rfl, rfl⟩ := hv
    obtain rfl : l = [] := List.eq_nil_of_length_eq_zero hl
    exact run_convert_bytes_nil (P := Try.prog) (w := W) 36 5 Try.underlying36 Try.underlying5 0 0 9 Try.underlying9
  · simp only [Value.slice.injEq] at hv
    obtain ⟨rfl, -, rfl⟩ := hv
    subst hl
    exact run_convert_bytes_back (P := Try.prog) W 36 9 5 ⟨g, 0, none⟩ _ l Try.underlying36 Try.underlying5 Try.underlying9 (fun j hj => h.cells rfl j _ (by simp [encB, List.getElem?_eq_getElem hj]))
/-- A new block's cells, as append reads them. -/
theorem cells_new (w : World) (l : List Value) (t : TypeId) : ∀ j u, l[j]? = some u → (w.alloc (.cells l.toArray t)).cell? ((⟨w.heap.size, 0, none⟩ : Addr).add j) = some u := fun j u hj => by
  rw [Lib.add_plain, World.cell?_alloc_new]
  simpa using hj
/-- Two bytes behind what is owned. -/
theorem app2 (X Y : World) (base m c : Nat) (o : Option Addr) (l : List UInt8) (a b : Int) (w : World) (hb : Bel w X) (hbase : base = w.heap.size) (hown : X.ownsRow base 5 1 (.slice o m c) m (encB l)) (hm : m + 2 ≤ 140737488355328)
    (hY : Y = (X.alloc (.cells #[.int .u8 a, .int .u8 b] 5)).drew) :
    ∃ v' w', (Builtin.append_ #[36, 36] 36 #[.slice o m c, .slice (some ⟨X.heap.size, 0, none⟩) 2 2]).run Try.prog Y = .ok v' w' ∧ Bel w w' ∧ ∃ o2 c2, v' = .slice o2 (m + 2) c2 ∧ w'.ownsRow base 5 1 v' (m + 2) (encB l ++ [.int .u8 a, .int .u8 b]) := by
  subst hY hbase
  obtain ⟨i0, hi, hz0, hz1, hz2⟩ := info_parts info_u8
  have o1 : (X.alloc (.cells #[.int .u8 a, .int .u8 b] 5)).drew.ownsRow w.heap.size 5 1 (.slice o m c) m (encB l) := (hown.alloc _).drew
  have b1 : Bel w (X.alloc (.cells #[.int .u8 a, .int .u8 b] 5)).drew := (hb.alloc _).drewN 1
  obtain ⟨v', w', r, o2, g, -⟩ := run_append_own (P := Try.prog) _ w.heap.size 36 36 5 i0 _ 1 1 Try.underlying36 hi hz0 hz1 hz2 rfl (by decide) _ m _ o1 ⟨X.heap.size, 0, none⟩ 2 2 [.int .u8 a, .int .u8 b] rfl
    (fun j u hu => cells_new X [.int .u8 a, .int .u8 b] 5 j u hu) (fun u hu => by simp at hu; rcases hu with rfl | rfl <;> rfl) (by unfold maxLen; omega) (by omega) b1.size
  refine ⟨v', w', r, own_bel o1 b1 g, ?_⟩
  obtain ⟨p2, c2, rfl⟩ := own_shape o2
  exact ⟨p2, c2, rfl, o2⟩
namespace Frm
open Hsh

instance (fs : List (List UInt8)) : Decidable (OkR fs) := by unfold OkR; infer_instance
def pckB (fs : List (List UInt8)) : List UInt8 := if OkR fs then pck fs else []
def pckE (fs : List (List UInt8)) : Int := if OkR fs then 0 else 3
theorem pck_ok {fs : List (List UInt8)} (h : OkR fs) : pckB fs = pck fs ∧ pckE fs = 0 := by
  unfold pckB pckE
  rw [if_pos h, if_pos h]
  exact ⟨rfl, rfl⟩
theorem pck_no {fs : List (List UInt8)} (h : ¬ OkR fs) : pckB fs = [] ∧ pckE fs = 3 := by
  unfold pckB pckE
  rw [if_neg h, if_neg h]
  exact ⟨rfl, rfl⟩
/-- The strings of a slice as lists of bytes. -/
def lists (xs : List ByteArray) : List (List UInt8) := xs.map ByteArray.toList
theorem lists_len (xs : List ByteArray) : (lists xs).length = xs.length := by simp [lists]
/-- What is packed of the first k fields, whose number is n. -/
def pckAt (n : Nat) (xs : List ByteArray) (k : Nat) : List UInt8 := UInt8.ofNat n :: flds (lists (xs.take k))
theorem pckAt_all {n : Nat} {xs : List ByteArray} (h : xs.length = n) : pckAt n xs n = pck (lists xs) := by
  unfold pckAt pck
  rw [lists_len, h, List.take_of_length_le (by omega)]
theorem pckAt_step {n k : Nat} {xs : List ByteArray} (h : k < xs.length) (hx : xs[k].size ≤ 4000) : encB (pckAt n xs (k + 1)) = encB (pckAt n xs k) ++ [.int .u8 ((xs[k].size : Int) / 256), .int .u8 ((xs[k].size : Int) % 256)] ++ encB xs[k].toList := by
  have e : pckAt n xs (k + 1) = pckAt n xs k ++ ([UInt8.ofNat (xs[k].size / 256), UInt8.ofNat xs[k].size] ++ xs[k].toList) := by
    unfold pckAt lists flds fld
    rw [List.take_succ_eq_append_getElem h, List.map_append, List.flatMap_append]
    simp [toL_len]
  rw [e, encB_app, encB_app, ← List.append_assoc]
  congr 2
  simp only [encB, List.map_cons, List.map_nil, UInt8.toNat_ofNat', List.cons.injEq, Value.int.injEq, true_and, and_true]
  constructor <;> omega
set_option maxHeartbeats 8000000 in
theorem rpack_any (o : Option Addr) (n c : Nat) (xs : List ByteArray) (hn : n ≤ maxLen) (w : World) (hA : SlArg w o n xs) :
    Calls Try.prog 12 #[.slice o n c] w fun e w' => e = .returned (.tuple #[.string ⟨(pckB (lists xs)).toArray⟩, .int .i64 (pckE (lists xs))]) ∧ Bel w w' := by
  have hlen := hA.1
  unfold maxLen at hn
  obtain ⟨i0, hi, hz0, hz1, hz2⟩ := info_parts info_u8
  by_cases h64 : 64 < n
  · have hz := Lib.hid (pck_no (fs := lists xs) (fun h => by have := h.1; rw [lists_len] at this; omega))
    clear hA
    go_enter Try.func12, Try.ntmps12
    go_wp2
    go_ret2
    exact ⟨by rw [hz.out.1, hz.out.2]; rfl, Bel.refl _⟩
  · have HA := Lib.hid hA
    have hnw : IntKind.u8.wrap (n : Int) = (n : Int) := by simp [IntKind.wrap, IntKind.signed, IntKind.bits]; omega
    clear hA
    go_enter Try.func12, Try.ntmps12
    go_wp2
    have own1 := Lib.hid (World.ownsRow_lit (base := w.heap.size) (e := 5) (size := 1) w #[.int .u8 (n : Int)] 1 (Nat.le_refl _) (by decide) rfl)
    have enc1 : encB (pckAt n xs 0) = [.int .u8 (n : Int)] := by
      have e : (UInt8.ofNat n).toNat = n := cnt_of (by omega)
      simp [pckAt, encB, lists, flds, e]
    go_loopw [4, 15] (fun v i wr => ∃ (k m c' : Nat) (a : Option Addr), v = .slice a m c' ∧ i = .int .i64 (k : Int) ∧ k ≤ n ∧ m ≤ 1 + 4002 * k ∧ Hid (wr.ownsRow w.heap.size 5 1 (.slice a m c') m (encB (pckAt n xs k))) ∧
      Hid (∀ x ∈ xs.take k, x.size ≤ 4000) ∧ Hid (Bel w wr)) (fun _ i _ => n - (intOf i).toNat)
    case atStart => exact ⟨0, 1, 1, _, rfl, rfl, Nat.zero_le _, by omega, Lib.hid (by rw [enc1]; exact own1.out), Lib.hid (by simp), Lib.hid (Bel.alloc (Bel.refl _) _)⟩
    case round =>
      obtain ⟨k, m, c', a, rfl, rfl, hk, hm, hown, hsz, hb⟩ := hrel
      rename World => W0
      clear own1 enc1
      by_cases hlt : k < n
      · have hkx : k < xs.length := by omega
        obtain ⟨p, rfl, hc0⟩ := HA.out.2 k hkx
        have hc := hb.out.cell' hc0
        obtain ⟨x, hxe⟩ : ∃ x, xs[k] = x := ⟨_, rfl⟩
        by_cases hbig : 4000 < x.size
        · have hz := Lib.hid (pck_no (fs := lists xs) (fun h => by have := h.2 x.toList (List.mem_map.2 ⟨x, hxe ▸ List.getElem_mem hkx, rfl⟩); rw [toL_len] at this; omega))
          rw [hxe] at hc hc0
          clear hsz hown
          go_wp2
          go_ret2
          exact ⟨by rw [hz.out.1, hz.out.2]; rfl, hb.out⟩
        · have hst := Lib.hid (pckAt_step (n := n) hkx (by rw [hxe]; omega))
          have hsz' : Hid (∀ y ∈ xs.take (k + 1), y.size ≤ 4000) := Lib.hid (fun y hy => by
            rw [List.take_succ_eq_append_getElem hkx, List.mem_append] at hy
            rcases hy with hy | hy
            · exact hsz.out y hy
            · simp only [List.mem_singleton] at hy
              rw [hy, hxe]
              omega)
          rw [hxe] at hc hc0 hst
          have u0 : IntKind.i64.wrap ((x.size : Int) / 256) = (x.size : Int) / 256 := by rw [IntKind.wrap_i64]; omega
          have t0 : ((x.size : Int)).tmod 256 = (x.size : Int) % 256 := Int.tmod_eq_emod_of_nonneg (by omega)
          have u1 : IntKind.u8.wrap ((x.size : Int) / 256) = (x.size : Int) / 256 := by simp [IntKind.wrap, IntKind.signed, IntKind.bits]; omega
          have u2 : IntKind.u8.wrap ((x.size : Int) % 256) = (x.size : Int) % 256 := by simp [IntKind.wrap, IntKind.signed, IntKind.bits]
          clear hsz hxe
          go_upto_region 9 with (fail)
          have G := hb.out
          obtain ⟨v', w', r1, b1, hv'⟩ := app2 W0 _ w.heap.size m c' a (pckAt n xs k) ((x.size : Int) / 256) ((x.size : Int) % 256) w G rfl hown.out (by omega) rfl
          have Hv := Lib.hid hv'
          clear hv'
          go_region_held3 (fun w' => w'.cell? (p.add k) = some (.string x) ∧ Bel w w') (first | exact ⟨hc, Below.drew G⟩ | exact ⟨((Bel.refl W0).alloc _).cell' hc, Below.drew (Bel.alloc G _)⟩ | exact ⟨((Bel.refl W0).alloc _).cell' hc, Bel.alloc (Below.drew G) _⟩ | exact ⟨b1.cell' hc0, b1⟩) (first | (refine step_run _ _ _ (by rfl) (by rfl) (by rfl) (by rfl) r1 ?_))
          obtain ⟨o2, c2, rfl, hO2⟩ := Hv.out
          have HO := Lib.hid hO2
          have hcS := b1.cell' hc0
          have B1 := Lib.hid b1
          have q3 : Hid (m + 2 + x.size ≤ maxLen) := Lib.hid (by unfold maxLen; omega)
          have q4 : Hid (m + 2 + x.size ≤ 140737488355328) := Lib.hid (by omega)
          clear u0 t0 u1 u2 r1 hO2 Hv hown hc
          go_upto_region 10 with (fail)
          go_wp2_with (at_builtin; refine Lib.wpList_append_own_string _ rfl _ _ 36 9 rfl w.heap.size 5 i0 Try.underlying36 Try.underlying9 hi hz0 hz1 hz2 _ _ _ rfl HO.out x rfl q3.out q4.out B1.out.size ?_; intro v3 w3 hown3 hgrow3 hnil3; refine Hid.out ?_)
          refine Lib.hid ?_
          obtain ⟨o3, c3, rfl⟩ := own_shape hown3
          have b3 := Lib.hid (own_bel HO.out B1.out hgrow3)
          rw [strCells_enc, ← hst.out] at hown3
          have h3 := Lib.hid hown3
          clear hnil3 hgrow3 hown3 q3 q4 hst HO b1 B1 G hb
          go_wp2
          go_round
          case rel => exact ⟨k + 1, m + 2 + x.size, c3, o3, by go_num, by go_num, by omega, by omega, h3, hsz', b3⟩
          case measure => simp [intOf]; omega
      · obtain rfl : k = n := by omega
        have hz := Lib.hid (pck_ok (fs := lists xs) ⟨by rw [lists_len]; omega, fun f hf => by
          obtain ⟨y, hy, rfl⟩ := List.mem_map.1 hf
          rw [toL_len]
          exact hsz.out y (by rw [List.take_of_length_le (by omega)]; exact hy)⟩)
        have hO := hown.out
        rw [pckAt_all hlen] at hO
        have cv := own_conv hO
        clear hown hsz hO
        go_wp2
        go_ret2
        exact ⟨by rw [hz.out.1, hz.out.2]; rfl, hb.out⟩
end Frm
end Go.Proofs.Ytkecellbbfhpoaa
