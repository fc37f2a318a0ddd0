/-
  A digest in memory: New, the rounds of a block (addBlock), what the whole blocks leave (together), Sum and Count, by their contracts.
-/
import Derived.Test.YtmjcdondogpceaaDoorXxRest
import Derived.IntWalk
import Derived.Deep.QuietTactic
import Derived.BigQuiet
import Derived.Deep.RegionWith
namespace Go.Proofs.YtmjcdondogpceaaDoor.xx
open Go.ChangeShapes Go.WideShapes Go.ChangeAt Go.RowKit
/-- the cells of a digest: four sums, 32 bytes, the count. -/
def dig (s : Nat → Nat) (r : List Nat) (n : Nat) : List Value :=
  [.int .u64 (s 0 : Nat), .int .u64 (s 1 : Nat), .int .u64 (s 2 : Nat), .int .u64 (s 3 : Nat)] ++ (r.map (fun b : Nat => Value.int .u8 (b : Int)) ++ [.int .i64 n])
/-- a digest lies in block g: its sums are s, the bytes that wait are the first of r, the count is n. -/
structure Dig (w : World) (g : Nat) (s : Nat → Nat) (r : List Nat) (n : Nat) : Prop where
  block : w.heap[g]? = some (.cells (dig s r n).toArray 60 (0, 0))
  len : r.length = 32
  small : bytes r
  word : ∀ i, s i < 18446744073709551616
theorem Dig.cell {w : World} {g : Nat} {s : Nat → Nat} {r : List Nat} {n : Nat} (h : Dig w g s r n) (i : Nat) : w.cell? ⟨g, i, none⟩ = (dig s r n)[i]? := by
  simp [World.cell?, h.block]
theorem Dig.frozen {w : World} {g : Nat} {s : Nat → Nat} {r : List Nat} {n : Nat} (h : Dig w g s r n) (i : Nat) : w.frozen? ⟨g, i, none⟩ = false := by
  simp [World.frozen?, h.block]
theorem Dig.c0 {w : World} {g : Nat} {s : Nat → Nat} {r : List Nat} {n : Nat} (h : Dig w g s r n) : w.cell? ⟨g, 0, none⟩ = some (.int .u64 (s 0 : Nat)) := h.cell 0
theorem Dig.c1 {w : World} {g : Nat} {s : Nat → Nat} {r : List Nat} {n : Nat} (h : Dig w g s r n) : w.cell? ⟨g, 1, none⟩ = some (.int .u64 (s 1 : Nat)) := h.cell 1
theorem Dig.c2 {w : World} {g : Nat} {s : Nat → Nat} {r : List Nat} {n : Nat} (h : Dig w g s r n) : w.cell? ⟨g, 2, none⟩ = some (.int .u64 (s 2 : Nat)) := h.cell 2
theorem Dig.c3 {w : World} {g : Nat} {s : Nat → Nat} {r : List Nat} {n : Nat} (h : Dig w g s r n) : w.cell? ⟨g, 3, none⟩ = some (.int .u64 (s 3 : Nat)) := h.cell 3
theorem Dig.c36 {w : World} {g : Nat} {s : Nat → Nat} {r : List Nat} {n : Nat} (h : Dig w g s r n) : w.cell? ⟨g, 36, none⟩ = some (.int .i64 n) := by
  rw [h.cell 36]
  simp only [dig, List.cons_append, List.nil_append, List.getElem?_cons_succ]
  rw [List.getElem?_append_right (by rw [List.length_map, h.len]; omega), List.length_map, h.len]
  rfl
theorem Dig.row {w : World} {g : Nat} {s : Nat → Nat} {r : List Nat} {n : Nat} (h : Dig w g s r n) : Row w (some ⟨g, 4, none⟩) 32 r := by
  refine ⟨h.len, fun _ => ⟨g, 4, rfl, fun i hi => ?_⟩⟩
  rw [h.cell (4 + i), Nat.add_comm 4 i]
  simp only [dig, List.cons_append, List.nil_append, List.getElem?_cons_succ]
  rw [List.getElem?_append_left (by rw [List.length_map, h.len]; omega), List.getElem?_map]
  simp [h.len, hi]
theorem Dig.lt {w : World} {g : Nat} {s : Nat → Nat} {r : List Nat} {n : Nat} (h : Dig w g s r n) : g < w.heap.size := lt_of_block h.block
/-- between w and w' nothing has turned but block g. -/
structure Only (g : Nat) (w w' : World) : Prop where
  os : w'.os = w.os
  tape : w'.tape = w.tape
  output : w'.output = w.output
  size : w'.heap.size = w.heap.size
  other : ∀ k, k ≠ g → w'.heap[k]? = w.heap[k]?
theorem Only.refl (g : Nat) (w : World) : Only g w w := ⟨rfl, rfl, rfl, rfl, fun _ _ => rfl⟩
theorem Only.trans {g : Nat} {a b c : World} (h : Only g a b) (k : Only g b c) : Only g a c :=
  ⟨k.os.trans h.os, k.tape.trans h.tape, k.output.trans h.output, k.size.trans h.size, fun i hi => (k.other i hi).trans (h.other i hi)⟩
theorem Only.drew {g : Nat} {a w : World} (h : Only g a w) : Only g a w.drew := ⟨h.os, h.tape, h.output, h.size, h.other⟩
theorem Only.setCell {g : Nat} {a w : World} (h : Only g a w) (i : Nat) (u : Value) : Only g a (w.setCell ⟨g, i, none⟩ u) :=
  h.trans ⟨rfl, rfl, rfl, by simp [World.setCell], fun k hk => Below.heap_setCell _ _ _ _ hk⟩
theorem Only.cell {g : Nat} {w w' : World} (h : Only g w w') {p : Addr} (hp : p.block ≠ g) : w'.cell? p = w.cell? p := World.cell?_of_block (w := w) (h.other p.block hp)
theorem Only.below {g : Nat} {w w' : World} (h : Only g w w') {B : Nat} (hB : B ≤ g) : Below B w w' := ⟨h.os, h.tape, h.output, Nat.le_of_eq h.size.symm, fun k hk => h.other k (by omega)⟩
theorem seed_a (seed : Nat) : IntKind.u64.wrap (IntKind.u64.wrap ((seed : Int) + 11400714785074694791) + 14029467366897019727) = ((up12 seed : Nat) : Int) := by
  rw [up12_eq, show IntKind.u64.wrap ((seed : Int) + 11400714785074694791) = _ from add_expr seed 11400714785074694791]
  exact add_expr _ 14029467366897019727
theorem seed_b (seed : Nat) : IntKind.u64.wrap ((seed : Int) + 14029467366897019727) = ((up2 seed : Nat) : Int) := by rw [up2_eq]; exact add_expr seed 14029467366897019727
theorem seed_d (seed : Nat) : IntKind.u64.wrap ((seed : Int) - 11400714785074694791) = ((low1 seed : Nat) : Int) := by
  rw [low1_eq, IntKind.wrap_u64]; unfold M; omega
theorem replicate_small : bytes (List.replicate 32 0) := fun b hb => by rw [List.eq_of_mem_replicate hb]; decide
theorem heap_new (w : World) (o : Obj) : (w.alloc o).heap[w.heap.size]? = some o := by
  show (w.heap.push o)[w.heap.size]? = some o
  simp
theorem new_any (seed : Nat) (hs : seed < 18446744073709551616) (w : World) :
    Calls Tryd.prog 30 #[.int .u64 seed] w fun e w' => e = .returned (.pointer (some ⟨w.heap.size, 0, none⟩)) ∧ Dig w' w.heap.size (seedS seed) (List.replicate 32 0) 0 ∧ Below w.heap.size w w' ∧ w'.heap.size = w.heap.size + 1 := by
  have ea := seed_a seed
  have eb := seed_b seed
  have ed := seed_d seed
  go_enter Tryd.func30, Tryd.ntmps30
  go_wp2
  go_ret
  refine ⟨rfl, ⟨?_, rfl, replicate_small, seedS_lt seed hs⟩, (Below.refl _ _).alloc (Nat.le_refl _) _, by simp⟩
  exact heap_new w _

theorem Row.drew {w : World} {a : Option Addr} {n : Nat} {l : List Nat} (h : Row w a n l) : Row w.drew a n l := h
theorem Dig.drew {w : World} {g : Nat} {s : Nat → Nat} {r : List Nat} {n : Nat} (h : Dig w g s r n) : Dig w.drew g s r n := ⟨h.block, h.len, h.small, h.word⟩
theorem Row.only {w w' : World} {g : Nat} {a : Option Addr} {n : Nat} {l : List Nat} (h : Row w a n l) (ho : Only g w w') (ha : ∀ x, a = some x → x.block ≠ g) : Row w' a n l := by
  refine ⟨h.1, fun hn => ?_⟩
  obtain ⟨b, off, rfl, hcell⟩ := h.2 hn
  exact ⟨b, off, rfl, fun i hi => (ho.cell (p := ⟨b, off + i, none⟩) (show b ≠ g from ha ⟨b, off, none⟩ rfl)).trans (hcell i hi)⟩
theorem Row.setCell {w : World} {g j : Nat} {u : Value} {a : Option Addr} {n : Nat} {l : List Nat} (h : Row w a n l) (hj : j < 4) (ha : ∀ x, a = some x → x.block ≠ g ∨ 4 ≤ x.off) : Row (w.setCell ⟨g, j, none⟩ u) a n l := by
  refine ⟨h.1, fun hn => ?_⟩
  obtain ⟨b, off, rfl, hcell⟩ := h.2 hn
  refine ⟨b, off, rfl, fun i hi => ?_⟩
  rw [World.cell?_setCell_other _ _ _ _ (by
    intro e
    injection e with e1 e2
    have h1 : b ≠ g ∨ 4 ≤ off := ha _ rfl
    rcases h1 with h1 | h1
    · exact h1 e1.symm
    · omega)]
  exact hcell i hi
/-- the sums with place j turned. -/
def put (s : Nat → Nat) (j v : Nat) : Nat → Nat := fun i => if i = j then v else s i
theorem dig_set (s : Nat → Nat) (r : List Nat) (n j v : Nat) (hj : j < 4) : (dig s r n).set j (.int .u64 (v : Nat)) = dig (put s j v) r n := by
  rcases (show j = 0 ∨ j = 1 ∨ j = 2 ∨ j = 3 from by omega) with h | h | h | h <;> subst h <;> rfl
theorem Dig.store {w : World} {g : Nat} {s : Nat → Nat} {r : List Nat} {n : Nat} (h : Dig w g s r n) (j v : Nat) (hj : j < 4) (hv : v < 18446744073709551616) : Dig (w.setCell ⟨g, j, none⟩ (.int .u64 (v : Nat))) g (put s j v) r n := by
  refine ⟨?_, h.len, h.small, fun i => ?_⟩
  · rw [setCell_eq_setRow w g j _ _ _ _ h.block, setRow_heap w g _ _ _ _ h.block, ← dig_set s r n j v hj]
    simp
  · unfold put; split
    · exact hv
    · exact h.word i
noncomputable def part (s : Nat → Nat) (l : List Nat) (j : Nat) : Nat → Nat := fun i => if i < j then blk s l i else s i
theorem part_zero (s : Nat → Nat) (l : List Nat) : part s l 0 = s := by funext i; simp [part]
theorem part_succ (s : Nat → Nat) (l : List Nat) (j : Nat) : put (part s l j) j (blk s l j) = part s l (j + 1) := by
  funext i
  unfold put part
  by_cases h : i = j
  · subst h; simp
  · by_cases h2 : i < j
    · simp [h, h2, show i < j + 1 from by omega]
    · simp [h, h2, show ¬ i < j + 1 from by omega]
theorem idx4_0 (w : World) (v0 v1 v2 v3 : Value) : (Instr.index 57 (.agg #[v0, v1, v2, v3]) (.int .i64 0)).run Tryd.prog w = .ok v0 w := by kernel_rfl
theorem idx4_1 (w : World) (v0 v1 v2 v3 : Value) : (Instr.index 57 (.agg #[v0, v1, v2, v3]) (.int .i64 1)).run Tryd.prog w = .ok v1 w := by kernel_rfl
theorem idx4_2 (w : World) (v0 v1 v2 v3 : Value) : (Instr.index 57 (.agg #[v0, v1, v2, v3]) (.int .i64 2)).run Tryd.prog w = .ok v2 w := by kernel_rfl
theorem idx4_3 (w : World) (v0 v1 v2 v3 : Value) : (Instr.index 57 (.agg #[v0, v1, v2, v3]) (.int .i64 3)).run Tryd.prog w = .ok v3 w := by kernel_rfl
theorem lane {w : World} {b off : Nat} {l : List Nat} (h : Row w (some ⟨b, off, none⟩) 32 l) (hl : bytes l) (j cap x : Nat) (hj : j < 4) (hx : num ((l.drop (8 * j)).take 8) = x) :
    Calls Tryd.prog 53 #[.slice (some ⟨b, off + 8 * j, none⟩) 8 cap] w fun e w' => e = .returned (.int .u64 (x : Nat)) ∧ w = w' := by
  rw [← hx]
  exact number_any _ _ _ _ _ ((h.drop (k := 8 * j) (by omega)).take (by omega)) (by omega) (bytes_take (bytes_drop hl _) _)
theorem lane_store {wr : World} {g : Nat} {s : Nat → Nat} {r : List Nat} {n : Nat} {l : List Nat} {j x : Nat} (h : Dig wr g (part s l j) r n) (hj : j < 4) (hx : num ((l.drop (8 * j)).take 8) = x) :
    Dig (wr.setCell ⟨g, j, none⟩ (.int .u64 (rnd (s j) x : Nat))).drew g (part s l (j + 1)) r n := by
  rw [← part_succ]
  have : blk s l j = rnd (s j) x := by rw [← hx]; rfl
  rw [this]
  exact (h.store j (rnd (s j) x) hj (rnd_lt _ _)).drew
theorem Dig.congr {w : World} {g : Nat} {s s' : Nat → Nat} {r : List Nat} {n : Nat} (h : Dig w g s r n) (h0 : s 0 = s' 0) (h1 : s 1 = s' 1) (h2 : s 2 = s' 2) (h3 : s 3 = s' 3) (hw : ∀ i, s' i < 18446744073709551616) : Dig w g s' r n := by
  refine ⟨?_, h.len, h.small, hw⟩
  rw [h.block]
  unfold dig
  rw [h0, h1, h2, h3]
set_option maxHeartbeats 1600000 in
set_option maxRecDepth 100000 in
theorem addBlock_any (g : Nat) (s : Nat → Nat) (r : List Nat) (n : Nat) (a : Option Addr) (cap : Nat) (l : List Nat) (w : World) (hd : Dig w g s r n) (hr : Row w a 32 l) (hl : bytes l) (hcap : 32 ≤ cap) (ha : ∀ x, a = some x → x.block ≠ g ∨ 4 ≤ x.off) :
    Calls Tryd.prog 45 #[.pointer (some ⟨g, 0, none⟩), .slice a 32 cap] w fun e w' => e = .returned (.tuple #[]) ∧ Dig w' g (part s l 4) r n ∧ Only g w w' := by
  obtain ⟨b, off, rfl, hx⟩ := hr.2 (by omega)
  clear hx
  have c0 := hd.c0
  have c1 := hd.c1
  have c2 := hd.c2
  have c3 := hd.c3
  have HD := Lib.hid hd
  have HR := Lib.hid hr
  have HL := Lib.hid hl
  have HA := Lib.hid ha
  clear hd hr hl ha
  go_enter Tryd.func45, Tryd.ntmps45
  go_wp2
  clear c0 c1 c2 c3
  go_loopw [10] (fun i wr => ∃ j : Nat, j ≤ 4 ∧ i = .int .i64 j ∧ Dig wr g (part s l j) r n ∧ Only g w wr ∧ Row wr (some ⟨b, off, none⟩) 32 l) (fun i _ => 4 - (intOf i).toNat)
  case atStart => exact ⟨0, by omega, rfl, by rw [part_zero]; exact HD.out, Only.refl _ _, HR.out⟩
  case round =>
    obtain ⟨j, hj, rfl, hd, ho, hr⟩ := hrel
    rcases (show j = 0 ∨ j = 1 ∨ j = 2 ∨ j = 3 ∨ j = 4 from by omega) with h | h | h | h | h
    · subst h
      have hi := idx4_0
      have hne : ¬ cap = 0 := by omega
      have hle : 8 ≤ cap := by omega
      have v0 : IntKind.i64.wrap 0 = 0 := by decide
      have v1 : IntKind.i64.wrap 1 = 1 := by decide
      have v8 : IntKind.i64.wrap 8 = 8 := by decide
      have hc := hd.c0
      have hf := hd.frozen 0
      obtain ⟨x, hx⟩ : ∃ x, num ((l.drop (8 * 0)).take 8) = x := ⟨_, rfl⟩
      have HX := Lib.hid hx
      have HD2 := Lib.hid hd
      have HO := Lib.hid ho
      have HR2 := Lib.hid hr
      clear hd ho hr hx
      go_wp2
      go_region_with (first
        | (go_at_call 53; refine (lane HR2.out.drew HL.out 0 _ x (by decide) HX.out).mono ?_; rintro e w1 ⟨rfl, rfl⟩)
        | (go_at_call 52; refine (round_any _ _ _).mono ?_; rintro e w1 ⟨rfl, rfl⟩))
      go_wp2
      go_roundw
      case rel => exact ⟨0 + 1, by omega, rfl, lane_store HD2.out (by decide) HX.out, (HO.out.setCell _ _).drew, (HR2.out.setCell (by decide) HA.out).drew⟩
      case measure => simp [intOf]
    · subst h
      have hi := idx4_1
      have hne : ¬ cap = 8 := by omega
      have hle : 16 ≤ cap := by omega
      have v1 : IntKind.i64.wrap 1 = 1 := by decide
      have v2 : IntKind.i64.wrap 2 = 2 := by decide
      have v8 : IntKind.i64.wrap 8 = 8 := by decide
      have v16 : IntKind.i64.wrap 16 = 16 := by decide
      have hc := hd.c1
      have hf := hd.frozen 1
      obtain ⟨x, hx⟩ : ∃ x, num ((l.drop (8 * 1)).take 8) = x := ⟨_, rfl⟩
      have HX := Lib.hid hx
      have HD2 := Lib.hid hd
      have HO := Lib.hid ho
      have HR2 := Lib.hid hr
      clear hd ho hr hx
      go_wp2
      go_region_with (first
        | (go_at_call 53; refine (lane HR2.out.drew HL.out 1 _ x (by decide) HX.out).mono ?_; rintro e w1 ⟨rfl, rfl⟩)
        | (go_at_call 52; refine (round_any _ _ _).mono ?_; rintro e w1 ⟨rfl, rfl⟩))
      go_wp2
      go_roundw
      case rel => exact ⟨1 + 1, by omega, rfl, lane_store HD2.out (by decide) HX.out, (HO.out.setCell _ _).drew, (HR2.out.setCell (by decide) HA.out).drew⟩
      case measure => simp [intOf]
    · subst h
      have hi := idx4_2
      have hne : ¬ cap = 16 := by omega
      have hle : 24 ≤ cap := by omega
      have v2 : IntKind.i64.wrap 2 = 2 := by decide
      have v3 : IntKind.i64.wrap 3 = 3 := by decide
      have v16 : IntKind.i64.wrap 16 = 16 := by decide
      have v24 : IntKind.i64.wrap 24 = 24 := by decide
      have hc := hd.c2
      have hf := hd.frozen 2
      obtain ⟨x, hx⟩ : ∃ x, num ((l.drop (8 * 2)).take 8) = x := ⟨_, rfl⟩
      have HX := Lib.hid hx
      have HD2 := Lib.hid hd
      have HO := Lib.hid ho
      have HR2 := Lib.hid hr
      clear hd ho hr hx
      go_wp2
      go_region_with (first
        | (go_at_call 53; refine (lane HR2.out.drew HL.out 2 _ x (by decide) HX.out).mono ?_; rintro e w1 ⟨rfl, rfl⟩)
        | (go_at_call 52; refine (round_any _ _ _).mono ?_; rintro e w1 ⟨rfl, rfl⟩))
      go_wp2
      go_roundw
      case rel => exact ⟨2 + 1, by omega, rfl, lane_store HD2.out (by decide) HX.out, (HO.out.setCell _ _).drew, (HR2.out.setCell (by decide) HA.out).drew⟩
      case measure => simp [intOf]
    · subst h
      have hi := idx4_3
      have hne : ¬ cap = 24 := by omega
      have hle : 32 ≤ cap := by omega
      have v3 : IntKind.i64.wrap 3 = 3 := by decide
      have v4 : IntKind.i64.wrap 4 = 4 := by decide
      have v24 : IntKind.i64.wrap 24 = 24 := by decide
      have v32 : IntKind.i64.wrap 32 = 32 := by decide
      have hc := hd.c3
      have hf := hd.frozen 3
      obtain ⟨x, hx⟩ : ∃ x, num ((l.drop (8 * 3)).take 8) = x := ⟨_, rfl⟩
      have HX := Lib.hid hx
      have HD2 := Lib.hid hd
      have HO := Lib.hid ho
      have HR2 := Lib.hid hr
      clear hd ho hr hx
      go_wp2
      go_region_with (first
        | (go_at_call 53; refine (lane HR2.out.drew HL.out 3 _ x (by decide) HX.out).mono ?_; rintro e w1 ⟨rfl, rfl⟩)
        | (go_at_call 52; refine (round_any _ _ _).mono ?_; rintro e w1 ⟨rfl, rfl⟩))
      go_wp2
      go_roundw
      case rel => exact ⟨3 + 1, by omega, rfl, lane_store HD2.out (by decide) HX.out, (HO.out.setCell _ _).drew, (HR2.out.setCell (by decide) HA.out).drew⟩
      case measure => simp [intOf]
    · subst h
      have HD2 := Lib.hid hd
      have HO := Lib.hid ho
      clear hd ho hr
      go_wp2
      go_end0
      exact ⟨rfl, HD2.out, HO.out⟩
theorem addBlock_blk (g : Nat) (s : Nat → Nat) (r : List Nat) (n : Nat) (a : Option Addr) (cap : Nat) (l : List Nat) (w : World) (hd : Dig w g s r n) (hr : Row w a 32 l) (hl : bytes l) (hcap : 32 ≤ cap) (ha : ∀ x, a = some x → x.block ≠ g ∨ 4 ≤ x.off) :
    Calls Tryd.prog 45 #[.pointer (some ⟨g, 0, none⟩), .slice a 32 cap] w fun e w' => e = .returned (.tuple #[]) ∧ Dig w' g (blk s l) r n ∧ Only g w w' :=
  (addBlock_any g s r n a cap l w hd hr hl hcap ha).mono fun e w' ⟨he, hd', ho⟩ => ⟨he, hd'.congr (by simp [part]) (by simp [part]) (by simp [part]) (by simp [part]) (fun i => blk_lt s l i), ho⟩
end Go.Proofs.YtmjcdondogpceaaDoor.xx
