/-
  NibbleTells, walked: true for every slice of numbers and every number.
-/
import Derived.Test.YtnbgloooklgngaaTells
namespace Go.Proofs.Ytnbgloooklgngaa
open Go.RowKit Go.Shelf
attribute [local go_sem] Oper.semAt_some wide_fn wide_depth
theorem all_not_nil (W : World) (c : Array Value) : (binOp .eql 40 (.func (.func 23) #[] c) .nilFunc).run Try.prog W = .ok (.bool false) W := by kernel_rfl
/-- what stands behind the range: t were told, all below E. -/
structure Fn (w : World) (N most : Nat) (cs : List Nat) (v : Value) (S E t D : Nat) (A : World) : Prop where
  ts : Ts w N most cs cs v A
  lat : A.heap[S + 1]? = some (.cells #[.int .i64 ((E : Int) - 1)] 3 (0, 0))
  lto : A.heap[S + 1 + 1]? = some (.cells #[.int .i64 (t : Int)] 3 (0, 0))
  de : A.heap[D]? = some (.deferred (some []))
  hS : N + 4 + 1 < S
  hD : S + 2 < D
namespace Fn
variable {w A B : World} {N most : Nat} {cs : List Nat} {v : Value} {S E t D : Nat}
theorem below (h : Fn w N most cs v S E t D A) (hb : Below A.heap.size A B) : Fn w N most cs v S E t D B := by
  have at_ : ∀ {k : Nat} {o : Obj}, A.heap[k]? = some o → B.heap[k]? = some o := fun {k o} h => (hb.block k (heap_lt h)).trans h
  exact ⟨h.ts.below hb, at_ h.lat, at_ h.lto, at_ h.de, h.hS, h.hD⟩
theorem close (h : Fn w N most cs v S E t D A) : (A.setCell ⟨N + 1, 0, none⟩ (.bool true)).heap[D]? = some (.deferred (some [])) ∧ ((A.setCell ⟨N + 1, 0, none⟩ (.bool true)).putObj D (.deferred none)).cell? ⟨N + 1, 0, none⟩ = some (.bool true) ∧ Below N w ((A.setCell ⟨N + 1, 0, none⟩ (.bool true)).putObj D (.deferred none)) := by
  have h1 := h.hS
  have h2 := h.hD
  have hb : (A.setCell ⟨N + 1, 0, none⟩ (.bool true)).heap[N + 1]? = some (.cells #[.bool true] 4 (0, 0)) := by rw [heap_set h.ts.b1]; rfl
  have hk : Keep (fun k => k ≠ D) (A.setCell ⟨N + 1, 0, none⟩ (.bool true)) ((A.setCell ⟨N + 1, 0, none⟩ (.bool true)).putObj D (.deferred none)) := Keep.putObj _ D _ fun h => h rfl
  refine ⟨heap_set_other h.de (by omega) _ _, by rw [cell_of (hk.heap hb (by omega))]; rfl, ?_⟩
  exact h.ts.old.trans (((Keep.setCell (K := fun k => k < N) A ⟨N + 1, 0, none⟩ (.bool true) (by simp)).trans (Keep.putObj _ D _ (by omega))).below (fun _ h => h) (by have := h.ts.size; omega))
end Fn
/-- the state of the first loop: row and list alike. -/
def Tt (w : World) (N most : Nat) (W : World) : Prop := ∃ cs v, Ts w N most cs cs v W
theorem tt_new (w : World) (most : Nat) {N : Nat} (hN : w.heap.size = N) {B : World} (hB : Nib B (N + 3) (N + 2) (List.replicate 40 0)) (hb : Below (N + 2) ((w.alloc (.cells #[.int .u64 (most : Int)] 23)).alloc (.cells #[.bool false] 4)) B) (hs : B.heap.size = N + 4) :
    Tt w N most ((B.alloc (.cells (madeCells #[.int .i64 0] 40) 3)).alloc (.cells #[.slice (some ⟨N + 4, 0, none⟩) 40 40] 27)) := by
  have h0 : B.heap[N]? = some (.cells #[.int .u64 (most : Int)] 23 (0, 0)) := (hb.block N (by omega)).trans (heap_old (heap_next (by omega) _))
  have h1 : B.heap[N + 1]? = some (.cells #[.bool false] 4 (0, 0)) := (hb.block (N + 1) (by omega)).trans (heap_next (by simp; omega) _)
  have hq := St.zeros_q B 40
  rw [hs] at hq
  have hk : Keep (fun _ => True) B ((B.alloc (.cells (madeCells #[.int .i64 0] 40) 3)).alloc (.cells #[.slice (some ⟨N + 4, 0, none⟩) 40 40] 27)) := (Keep.alloc _ _ _).trans (Keep.alloc _ _ _)
  have hw : Below N w B := (Keep.below (K := fun _ => True) ((Keep.alloc _ _ _).trans (Keep.alloc _ _ _)) (fun _ _ => trivial) (by omega)).trans (hb.mono (by omega))
  exact ⟨List.replicate 40 0, _, hk.heap h0 trivial, hk.heap h1 trivial, heap_next (by simp; omega) _, hB.keep hk trivial trivial, hq.keep (Keep.alloc (fun _ => True) _ _) (fun _ _ => trivial), fun k hk => by simp [Value.ownBlock] at hk; omega, hw.trans (hk.below (fun _ _ => trivial) (by omega)), by simp, by simp, fun i => by rw [ct_zeros]; omega⟩
theorem new_size (k : Int) (n : Nat) (hn : min (max k 0) 65536 = (n : Int)) (w : World) : Calls Try.prog 7 #[.int .i64 k] w fun e B => e = .returned (.pointer (some ⟨w.heap.size + 1, 0, none⟩)) ∧ Nib B (w.heap.size + 1) w.heap.size (List.replicate n 0) ∧ Below w.heap.size w B ∧ B.heap.size = w.heap.size + 2 := by
  have hl : n ≤ 65536 := by omega
  have P : Hid (Nib ((w.alloc (.cells (madeCells #[Value.int .u8 0] ((n + 1) / 2)) 5)).alloc (.cells #[.slice (some ⟨w.heap.size, 0, none⟩) ((n + 1) / 2) ((n + 1) / 2), .int .i64 (n : Int)] 48)) (w.heap.size + 1) w.heap.size (List.replicate n 0) ∧
      Below w.heap.size w ((w.alloc (.cells (madeCells #[Value.int .u8 0] ((n + 1) / 2)) 5)).alloc (.cells #[.slice (some ⟨w.heap.size, 0, none⟩) ((n + 1) / 2) ((n + 1) / 2), .int .i64 (n : Int)] 48)) ∧ ((w.alloc (.cells (madeCells #[Value.int .u8 0] ((n + 1) / 2)) 5)).alloc (.cells #[.slice (some ⟨w.heap.size, 0, none⟩) ((n + 1) / 2) ((n + 1) / 2), .int .i64 (n : Int)] 48)).heap.size = w.heap.size + 2) :=
    ⟨fresh w n hl, Keep.below (K := fun _ => True) ((Keep.alloc _ _ _).trans (Keep.alloc _ _ _)) (fun _ _ => trivial) (Nat.le_refl _), by simp⟩
  have hmk := fun w => run_make_row' (P := Try.prog) 44 5 (.int .u8 0) 1 Try.underlying44 info_b rfl .i64 .i64 ((n + 1) / 2) (by omega) (by omega) w
  obtain ⟨m, hm, hm'⟩ : ∃ m : Nat, (n + 1) / 2 = m ∧ ((n : Int) + 1) / 2 = (m : Int) := ⟨(n + 1) / 2, rfl, by omega⟩
  rw [hm] at P hmk
  clear hm
  generalize madeCells #[Value.int .u8 0] m = Z at *
  go_enter Try.func7, Try.ntmps7
  go_wp2
  go_ret
  exact ⟨rfl, P.out⟩
set_option maxRecDepth 100000 in
set_option maxHeartbeats 4000000 in
theorem tells_some (a : Option Addr) (cap : Nat) (ls : List Nat) (most : Nat) (w : World) (hl : ls.length ≤ 40) (hr : Us w a ls) :
    Calls Try.prog 4 #[.slice a ls.length cap, .int .u64 (most : Int)] w fun e B => e = .returned (.bool true) ∧ Below w.heap.size w B := by
  refine callsIn_wide (n := 0).1 (callsIn_of_wp_marks Try.func4 rfl trivial ?_ rfl)
  simp only [Try.ntmps4, List.size_toArray, List.length_cons, List.length_nil, Nat.reduceAdd, Nat.reduceSub, Array.replicate_succ, Array.replicate_zero, List.push_toArray, List.append_toArray, List.nil_append, List.cons_append]
  refine wpIn_wide.2 ?_
  obtain ⟨N, hN⟩ : ∃ N, w.heap.size = N := ⟨_, rfl⟩
  have hs0 : ((w.alloc (.cells #[.int .u64 (most : Int)] 23)).alloc (.cells #[.bool false] 4)).heap.size = N + 2 := by simp [hN]
  have T7 : Hid (Calls Try.prog 7 #[.int .i64 40] ((w.alloc (.cells #[.int .u64 (most : Int)] 23)).alloc (.cells #[.bool false] 4)) fun e B => e = .returned (.pointer (some ⟨N + 3, 0, none⟩)) ∧ B.heap.size = N + 4 ∧ Hid (Tt w N most ((B.alloc (.cells (madeCells #[.int .i64 0] 40) 3)).alloc (.cells #[.slice (some ⟨N + 4, 0, none⟩) 40 40] 27)))) :=
    (new_size 40 40 (by decide) _).mono fun e B ⟨he, h1, h2, h3⟩ => by
      rw [hs0] at he h1 h2 h3
      exact ⟨he, h3, tt_new w most hN h1 h2 h3⟩
  have C : Hid (∀ W, Below N w W → ∀ i, i < ls.length → ∃ b o d : Nat, a = some ⟨b, o, none⟩ ∧ W.cell? ⟨b, o + i, none⟩ = some (.int .u64 (d : Int)) ∧ ls[i]? = some d) := fun W hW i hi => by
    obtain ⟨b, o, ha, hc⟩ := hr (by omega)
    have c := hc i hi
    exact ⟨b, o, ls[i], ha, (hW.cell (p := ⟨b, o + i, none⟩) (hN ▸ World.block_lt_of_cell? w ⟨b, o + i, none⟩ c)).trans c, by simp [hi]⟩
  have hmk : ∀ w, (Instr.makeSlice 27 (.int .i64 40) (.int .i64 40)).run Try.prog w = .ok (.slice (some ⟨w.heap.size, 0, none⟩) 40 40) (w.alloc (.cells (madeCells #[.int .i64 0] 40) 3)) := fun w => run_make_row' (P := Try.prog) 27 3 (.int .i64 0) 8 Try.underlying27 info_i rfl .i64 .i64 40 (by omega) (by omega) w
  rw [hN]
  have hd2 : ¬ (40 : Int) < (ls.length : Int) := by omega
  clear hr hs0
  generalize madeCells #[Value.int .i64 0] 40 = Z at *
  generalize ls.length = len at *
  go_wp2_with fail
  refine T7.out.mono ?_
  rintro e w1 ⟨rfl, hs1, h1⟩
  clear T7
  go_wp2_with fail
  go_loopw [7] (fun i wr => ∃ k : Nat, k ≤ len ∧ i = .int .i64 k ∧ Hid (Tt w N most wr)) (fun i _ => len - (intOf i).toNat)
  case atStart => exact ⟨0, Nat.zero_le _, rfl, h1⟩
  case round =>
    obtain ⟨k, hk, rfl, hT⟩ := hrel
    clear h1
    by_cases hlt : k < len
    · obtain ⟨cs, v, hS⟩ := hT.out
      obtain ⟨b, o, x, rfl, hx, hix⟩ := C.out wr hS.old k hlt
      have C1 : Hid (∀ W, Below N w W → W.cell? ⟨b, o + k, none⟩ = some (.int .u64 (x : Int))) := fun W hW => by
        obtain ⟨b', o', x', e1, e2, e3⟩ := C.out W hW k hlt
        rw [hix] at e3
        simp only [Option.some.injEq, Addr.mk.injEq, and_true] at e1 e3
        obtain ⟨rfl, rfl⟩ := e1
        subst e3
        exact e2
      obtain ⟨d, hd, hd40⟩ : ∃ d : Nat, (x : Int) % 40 = (d : Int) ∧ d < 40 := ⟨x % 40, by omega, Nat.mod_lt _ (by decide)⟩
      obtain ⟨av, cv, rfl, _⟩ := hS.slice
      have P14 := Lib.hid (hS.k14 (d : Int))
      clear hT C hix hS hN hs1 hmk
      go_wp2_with fail
      refine P14.out.mono ?_
      rintro e w2 ⟨rfl, h2⟩
      have c5 := h2.c5
      have f5 := h2.f5
      have hx2 := C1.out w2 h2.old
      have P13 := Lib.hid ((h2.below (Below.refl _ w2).drew).k13 (d : Int))
      have hw1 : IntKind.i64.wrap (d : Int) = (d : Int) := by rw [IntKind.wrap_i64]; omega
      have hw2 : IntKind.u64.wrap (d : Int) = (d : Int) := by rw [IntKind.wrap_u64]; omega
      have hw3 : (x : Int).tmod 40 = (d : Int) := by rw [Int.tmod_eq_emod_of_nonneg (by omega)]; exact hd
      have hk0 : (0 : Int) ≤ (k : Int) := by omega
      have hk1 : (k : Int) < (len : Int) := by omega
      generalize mayAdd cs (d : Int) = b4 at *
      clear h2 hx P14
      go_wp2_with fail
      refine wp_region_noPanic ?_
      go_region_with (first | (go_at_call 13; refine P13.out.mono ?_; rintro e w3 ⟨a3, c3, b3, rfl, d5, g5, h3⟩))
      all_goals (
        refine NoPanic.normal ?_
        go_wp2
        go_roundw
        case rel => exact ⟨k + 1, by omega, by simp, _, _, h3.out⟩
        case measure => simp [intOf]; omega)
    · obtain rfl : k = len := by omega
      obtain ⟨cs, v, hS⟩ := hT.out
      obtain ⟨av, cv, rfl, hcv⟩ := hS.slice
      obtain ⟨m, hm, hm1⟩ : ∃ m : Nat, (most : Int) % 45 = (m : Int) ∧ m < 45 := ⟨most % 45, by omega, Nat.mod_lt _ (by omega)⟩
      have nn := all_not_nil
      have X1 := Lib.hid hS
      clear hT C hS hs1 hmk hd2 hl
      go_wp2_with (go_at_call 16; refine (all_any _ _).mono ?_; rintro e w4 ⟨rfl, rfl⟩)
      clear nn
      obtain ⟨S, hSz⟩ : ∃ S, wr.heap.size = S := ⟨_, rfl⟩
      obtain ⟨W, hW⟩ : ∃ W, ((wr.alloc (.cells #[.pointer (some ⟨N + 3, 0, none⟩)] 25)).alloc (.cells #[.int .i64 (-1)] 3)).alloc (.cells #[.int .i64 0] 3) = W := ⟨_, rfl⟩
      rw [hW, hSz]
      have kW : Keep (fun _ => True) wr W := by rw [← hW]; exact ((Keep.alloc _ _ _).trans (Keep.alloc _ _ _)).trans (Keep.alloc _ _ _)
      have hs : W.heap.size = S + 3 := by rw [← hW, ← hSz]; simp
      have hb0 : W.heap[S]? = some (.cells #[.pointer (some ⟨N + 3, 0, none⟩)] 25 (0, 0)) := by rw [← hW, ← hSz]; exact heap_old (heap_old (World.alloc_heap_new _ _))
      have hb1 : W.heap[S + 1]? = some (.cells #[.int .i64 (((upTo (told cs 40) 0 : Nat) : Int) - 1)] 3 (0, 0)) := by rw [← hW, ← hSz]; exact heap_old (heap_next (by simp) _)
      have hb2 : W.heap[S + 1 + 1]? = some (.cells #[.int .i64 ((0 : Nat) : Int)] 3 (0, 0)) := by rw [← hW, ← hSz]; exact heap_next (by simp) _
      have hNS : N + 4 + 1 < S := by have := X1.out.size; omega
      have hn40 := X1.out.n1
      clear hW
      obtain ⟨Zk, hZ⟩ : ∃ Zk : Nat → Prop, ∀ k, Zk k ↔ k < S ∧ ¬ (k = N + 2 ∨ k = N + 3) := ⟨_, fun _ => Iff.rfl⟩
      refine (wpIn_wide (n := 0)).1 ?_
      apply range_law (gf := 23) (lb := #[.pointer (some ⟨S, 0, none⟩)]) (xs := told cs 40) (N := fun k => (k = N + 2 ∨ k = N + 3) ∨ k = S) (T := fun _ B => Keep (fun k => (k = N + 2 ∨ k = N + 3) ∨ k = S) W B) (encs := pairOf)
        (hg := rfl) (eg := enters_of Try.func23 (by kernel_rfl) rfl)
        (hseq := fun B hB => by
          have := all1_tells (W0 := W) S (X1.out.row.keep (kW.trans hB) trivial trivial) (by rw [cell_of (hB.heap hb0 trivial)]; rfl) (fun k => (k = N + 2 ∨ k = N + 3) ∨ k = S) (.inl (.inr rfl)) (.inl (.inl rfl)) (.inr rfl) (fun k hk => by have := hB.size; omega) (hB.mono fun _ _ _ => trivial)
          rwa [hn40] at this)
        (hN := fun k hk => by omega)
        (hT := fun i A l o o' hl _ ht => ht.trans (Keep.putObj _ _ _ (fun hk => by omega))) (hps := fun _ _ => rfl)
        (I := fun i M A => (∀ k, M k ↔ Zk k ∨ k = S + 1 ∨ k = S + 2) ∧ Keep Zk wr A ∧ i ≤ m ∧ A.heap[S + 1]? = some (.cells #[.int .i64 (((upTo (told cs 40) i : Nat) : Int) - 1)] 3 (0, 0)) ∧ A.heap[S + 1 + 1]? = some (.cells #[.int .i64 (i : Int)] 3 (0, 0)))
        (Ix := fun c i M A => c = .exit 2 ∧ i = m + 1 ∧ (∀ k, M k ↔ Zk k ∨ k = S + 1 ∨ k = S + 2) ∧ Keep Zk wr A ∧ A.heap[S + 1]? = some (.cells #[.int .i64 (((upTo (told cs 40) m : Nat) : Int) - 1)] 3 (0, 0)) ∧ A.heap[S + 1 + 1]? = some (.cells #[.int .i64 (m : Int)] 3 (0, 0)))
        (hI := fun i M A B hi hk => ⟨hi.1, hi.2.1.trans (hk.mono fun k _ h => (hi.1 k).2 (.inl h)), hi.2.2.1, hk.heap hi.2.2.2.1 ((hi.1 _).2 (.inr (by omega))), hk.heap hi.2.2.2.2 ((hi.1 _).2 (.inr (by omega)))⟩)
        (hIx := fun c i M A B hi hk => ⟨hi.1, hi.2.1, hi.2.2.1, hi.2.2.2.1.trans (hk.mono fun k _ h => (hi.2.2.1 k).2 (.inl h)), hk.heap hi.2.2.2.2.1 ((hi.2.2.1 _).2 (.inr (by omega))), hk.heap hi.2.2.2.2.2 ((hi.2.2.1 _).2 (.inr (by omega)))⟩)
        (M0 := fun k => Zk k ∨ k = S + 1 ∨ k = S + 2) (hM0 := fun k hk => by rcases hk with hk | hk; have := (hZ k).1 hk; exact ⟨by omega, fun h => by omega⟩; exact ⟨by omega, fun h => by omega⟩) (h0 := ⟨fun _ => Iff.rfl, kW.mono fun _ _ _ => trivial, Nat.zero_le _, hb1, hb2⟩)
      case hassign =>
        intro l i x W K hK
        gi_wp2
        exact hK
      case hbody =>
        rintro ln i ⟨p, c⟩ M A hx ⟨hM, hK, him, h0, h1⟩ hsA
        obtain ⟨hp, hc, hc0, _⟩ := told_of 40 i _ hx
        have hE := upTo_le hx
        have hE1 := Lib.hid (upTo_next hx)
        simp only at hp hc hc0 hE hE1
        obtain ⟨b, o, c', hv, hel⟩ := X1.out.el p hp
        simp only [Value.slice.injEq, true_and] at hv
        obtain ⟨rfl, rfl⟩ := hv
        rw [← hc] at hel
        have hbl := World.block_lt_of_cell? wr ⟨b, o + p, none⟩ hel
        have hbo := (X1.out.off b rfl).1
        have d3 : A.cell? ⟨b, o + p, none⟩ = some (.int .i64 (c : Int)) := (hK.cell (p := ⟨b, o + p, none⟩) hbl ((hZ b).2 ⟨by simpa [hSz] using hbl, by omega⟩)).trans hel
        have d4 : A.cell? ⟨N, 0, none⟩ = some (.int .u64 (most : Int)) := by rw [cell_of (hK.heap X1.out.b0 ((hZ _).2 ⟨by omega, by omega⟩))]; rfl
        have d5 : A.cell? ⟨N + 4 + 1, 0, none⟩ = some (.slice (some ⟨b, o, none⟩) 40 cv) := by rw [cell_of (hK.heap X1.out.b5 ((hZ _).2 ⟨by omega, by omega⟩))]; rfl
        have d1 : A.cell? ⟨S + 1, 0, none⟩ = some (.int .i64 (((upTo (told cs 40) i : Nat) : Int) - 1)) := by rw [cell_of h0]; rfl
        have d2 : A.cell? ⟨S + 1 + 1, 0, none⟩ = some (.int .i64 (i : Int)) := by rw [cell_of h1]; rfl
        have f1 := frozen_of h0 0
        have f2 := frozen_of h1 0
        have ZS : Hid (¬ Zk (S + 1) ∧ ¬ Zk (S + 1 + 1)) := ⟨fun h => by have := (hZ _).1 h; omega, fun h => by have := (hZ _).1 h; omega⟩
        have Y1 := Lib.hid hM
        have Y2 := Lib.hid hK
        have Y3 := Lib.hid h0
        have Y4 := Lib.hid h1
        have e1 : ¬ (p : Int) ≤ ((upTo (told cs 40) i : Nat) : Int) - 1 := by omega
        have e1d : decide ((p : Int) ≤ ((upTo (told cs 40) i : Nat) : Int) - 1) = false := by simpa using e1
        have e2 : ¬ (40 : Int) ≤ (p : Int) := by omega
        have e2d : decide ((40 : Int) ≤ (p : Int)) = false := by simpa using e2
        have e3 : ¬ (c : Int) = 0 := by omega
        have e4 : (p : Int) < 40 := by omega
        have e5 : (0 : Int) ≤ (p : Int) := by omega
        obtain ⟨E, hEE⟩ : ∃ E, upTo (told cs 40) i = E := ⟨_, rfl⟩
        rw [hEE] at d1 e1 e1d
        clear hM hK h0 h1 hx hc hc0 hE hel hbl hbo X1 hZ hsA hb0 hb1 hb2 kW hs hN hEE hn40 hSz hNS
        by_cases hlt : i < m
        · have g1 : ¬ (m : Int) ≤ (i : Int) := by omega
          gi_wp2
          refine ⟨M, fun k hk => .inl hk, ?_, Y1.out, ?_, by omega, ?_, ?_⟩
          · exact (Keep.setCell _ _ _ (fun h => h ((Y1.out _).2 (.inr (by simp))))).trans (Keep.setCell _ _ _ (fun h => h ((Y1.out _).2 (.inr (by simp)))))
          · exact Y2.out.trans ((Keep.setCell _ _ _ ZS.out.1).trans (Keep.setCell _ _ _ ZS.out.2))
          · rw [hE1.out]
            refine heap_set_other ?_ (by omega) _ _
            rw [heap_set Y3.out 0]
            simp
          · rw [heap_set (heap_set_other Y4.out (by omega) _ _) 0]
            simp
        · obtain rfl : i = m := by omega
          gi_wp2
          exact ⟨M, fun k hk => .inl hk, Keep.refl _ _, rfl, rfl, Y1.out, Y2.out, Y3.out, Y4.out⟩
      case' hdone =>
        rintro D M A hD hMD ⟨hM, hK, him, h0, h1⟩ hT hDe
        have hB : Below S wr A := both_below (N := fun k => k = N + 2 ∨ k = N + 3) (hK.mono fun k _ h => (hZ k).2 h) ((kW.mono fun _ _ _ => trivial).trans (hT.mono fun _ _ h => .inl h)) (by omega)
        obtain ⟨t, ht, htm⟩ : ∃ t, t = (told cs 40).length ∧ t = min (told cs 40).length m := ⟨_, rfl, by omega⟩
        rw [← ht] at h0 h1
      case' hstop =>
        rintro D ex i M A hD hMD hi0 hil ⟨rfl, rfl, hM, hK, h0, h1⟩ hT hDe
        refine wpIn_wide.2 ?_
        have hB : Below S wr A := both_below (N := fun k => k = N + 2 ∨ k = N + 3) (hK.mono fun k _ h => (hZ k).2 h) ((kW.mono fun _ _ _ => trivial).trans (hT.mono fun _ _ h => .inl h)) (by omega)
        obtain ⟨t, ht, htm⟩ : ∃ t, t = m ∧ t = min (told cs 40).length m := ⟨_, rfl, by omega⟩
        rw [← ht] at h0 h1
      all_goals (
        obtain ⟨E, hE⟩ : ∃ E, upTo (told cs 40) t = E := ⟨_, rfl⟩
        rw [hE] at h0
        obtain ⟨hE40, hEt⟩ := upTo_told (cs := cs) (n := 40) (t := t) (by omega)
        rw [hE] at hE40 hEt
        have K0 : Hid (Fn w N most cs (.slice av 40 cv) S E t D A) := ⟨X1.out.below (hSz ▸ hB), h0, h1, hDe, hNS, by omega⟩
        have hw40 : Hid ((told cs (min 40 E)).length = t) := by rw [show min 40 E = E by omega]; exact hEt
        have HT := Lib.hid htm
        have hc0 := K0.out.ts.c0
        have hc1 := K0.out.ts.c1
        have hf1 := K0.out.ts.f1
        have hc5 := K0.out.ts.c5
        have d1 : A.cell? ⟨S + 1, 0, none⟩ = some (.int .i64 ((E : Int) - 1)) := by rw [cell_of K0.out.lat]; rfl
        have d2 : A.cell? ⟨S + 1 + 1, 0, none⟩ = some (.int .i64 (t : Int)) := by rw [cell_of K0.out.lto]; rfl
        have EL : Hid (∀ j, j < 40 → ∃ b o, av = some ⟨b, o, none⟩ ∧ A.cell? ⟨b, o + j, none⟩ = some (.int .i64 (ct cs j : Int))) := fun j hj => by
          obtain ⟨b, o, c', hv, hel⟩ := K0.out.ts.el j hj
          simp only [Value.slice.injEq, true_and] at hv
          exact ⟨b, o, hv.1, hel⟩
        clear hM hK h0 h1 hT hB X1 hZ hb0 hb1 hb2 kW hs hDe hMD hE hEt ht htm hn40 hD hSz hNS hN
        go_wp2_with fail
        go_loopw [11, 14] (fun wn i wr => wr = A ∧ ∃ j u : Nat, j ≤ 40 ∧ i = .int .i64 j ∧ wn = .int .i64 u ∧ u ≤ 40 ∧ Hid (u = (told cs (min j E)).length)) (fun _ i _ => 40 - (intOf i).toNat)
        case atStart => exact ⟨rfl, 0, 0, by omega, rfl, rfl, by omega, by rw [Nat.zero_min]; exact rfl⟩
        case round =>
          obtain ⟨rfl, j, u, hj, rfl, rfl, hu, HU⟩ := hrel
          by_cases hlt : j < 40
          · obtain ⟨b, o, rfl, hel⟩ := EL.out j hlt
            have HN := Lib.hid (want_next cs E j)
            have hul := Lib.hid (told_le cs (min (j + 1) E))
            by_cases hz : ct cs j = 0
            · have HN1 : Hid (u = (told cs (min (j + 1) E)).length) := by rw [HN.out, if_neg (by omega), ← HU.out]; exact rfl
              rw [hz] at hel
              clear HN HU EL K0 hw40 HT hul hz
              go_wp2
              go_roundw
              case rel => exact ⟨by trivial, j + 1, u, by omega, by simp, rfl, hu, HN1⟩
              case measure => simp [intOf]; omega
            · have hz0 : (0 : Int) < (ct cs j : Int) := by omega
              by_cases hjE : j < E
              · have HN1 : Hid (u + 1 = (told cs (min (j + 1) E)).length) := by rw [HN.out, if_pos ⟨by omega, hjE⟩, ← HU.out]; exact rfl
                have hu1 : u + 1 ≤ 40 := by have := hul.out; have := HN1.out; omega
                have hje : (j : Int) ≤ (E : Int) - 1 := by omega
                clear HN HU EL K0 hw40 HT hul hz
                generalize ct cs j = c at *
                go_wp2
                go_roundw
                case rel => exact ⟨by trivial, j + 1, u + 1, by omega, by simp, by simp, hu1, HN1⟩
                case measure => simp [intOf]; omega
              · have HN1 : Hid (u = (told cs (min (j + 1) E)).length) := by rw [HN.out, if_neg (fun h => hjE h.2), ← HU.out]; exact rfl
                have hje : ¬ (j : Int) ≤ (E : Int) - 1 := by omega
                clear HN HU EL K0 hw40 HT hul hz
                generalize ct cs j = c at *
                go_wp2
                go_roundw
                case rel => exact ⟨by trivial, j + 1, u, by omega, by simp, rfl, hu, HN1⟩
                case measure => simp [intOf]; omega
          · obtain rfl : j = 40 := by omega
            obtain rfl : u = t := by rw [HU.out, hw40.out]
            clear HU hw40
            go_wp2_with fail
            go_loopw [15, 16] (fun al i w9 => w9 = wr ∧ ∃ j q : Nat, j ≤ 40 ∧ i = .int .i64 j ∧ al = .int .i64 q ∧ q ≤ 40 ∧ Hid (q = (told cs j).length)) (fun _ i _ => 40 - (intOf i).toNat)
            case atStart => exact ⟨rfl, 0, 0, by omega, rfl, rfl, by omega, rfl⟩
            case round =>
              obtain ⟨e9, j, q, hj, rfl, rfl, hq, HQ⟩ := hrel
              subst e9
              by_cases hlt : j < 40
              · obtain ⟨b, o, rfl, hel⟩ := EL.out j hlt
                have HN := Lib.hid (all_next cs j)
                have hul := Lib.hid (told_le cs (j + 1))
                by_cases hz : ct cs j = 0
                · have HN1 : Hid (q = (told cs (j + 1)).length) := by rw [HN.out, if_neg (by omega), ← HQ.out]; exact rfl
                  rw [hz] at hel
                  clear HN HQ EL K0 HT hul hz
                  go_wp2
                  go_roundw
                  case rel => exact ⟨by trivial, j + 1, q, by omega, by simp, rfl, hq, HN1⟩
                  case measure => simp [intOf]; omega
                · have hz0 : (0 : Int) < (ct cs j : Int) := by omega
                  have HN1 : Hid (q + 1 = (told cs (j + 1)).length) := by rw [HN.out, if_pos (by omega), ← HQ.out]; exact rfl
                  have hq1 : q + 1 ≤ 40 := by have := hul.out; have := HN1.out; omega
                  clear HN HQ EL K0 HT hul hz
                  generalize ct cs j = c at *
                  go_wp2
                  go_roundw
                  case rel => exact ⟨by trivial, j + 1, q + 1, by omega, by simp, by simp, hq1, HN1⟩
                  case measure => simp [intOf]; omega
              · obtain rfl : j = 40 := by omega
                have hmin : min (q : Int) (m : Int) = (u : Int) := by have := HT.out; have := HQ.out; omega
                have T6 : Hid (Calls Try.prog 6 #[] wr fun e B => e = .returned (.bool true) ∧ B.cell? ⟨N + 1, 0, none⟩ = some (.bool false) ∧ B.frozen? ⟨N + 1, 0, none⟩ = false ∧ Hid (Fn w N most cs (.slice av 40 cv) S E u D B)) := (awake_any wr).mono fun e B ⟨he, hB⟩ => by
                  have h' := K0.out.below hB.out
                  exact ⟨he, h'.ts.c1, h'.ts.f1, h'⟩
                clear HQ HT EL K0
                go_wp2_with (go_at_call 6; refine T6.out.mono ?_; rintro e w6 ⟨rfl, y1, y2, h6⟩)
                have h5 := h6.out.close
                exact ⟨by simp, .inl ⟨_, _, rfl, run_takeDeferred h5.1, _, by simp [results, Try.results4, go_sem, h5.2.1], rfl, h5.2.2⟩⟩)
set_option maxHeartbeats 2000000 in
theorem tells_walk (a : Option Addr) (cap : Nat) (ls : List Nat) (most : Nat) (w : World) (hr : Us w a ls) :
    Calls Try.prog 4 #[.slice a ls.length cap, .int .u64 (most : Int)] w fun e B => e = .returned (.bool true) ∧ Below w.heap.size w B := by
  by_cases hl : ls.length ≤ 40
  · exact tells_some a cap ls most w hl hr
  · have hl' : (40 : Int) < (ls.length : Int) := by omega
    clear hr hl
    refine callsIn_wide (n := 0).1 (callsIn_of_wp_marks Try.func4 rfl trivial ?_ rfl)
    simp only [Try.ntmps4, List.size_toArray, List.length_cons, List.length_nil, Nat.reduceAdd, Nat.reduceSub, Array.replicate_succ, Array.replicate_zero, List.push_toArray, List.append_toArray, List.nil_append, List.cons_append]
    refine wpIn_wide.2 ?_
    obtain ⟨N, hN⟩ : ∃ N, w.heap.size = N := ⟨_, rfl⟩
    have T6 : Hid (Calls Try.prog 6 #[] ((w.alloc (.cells #[.int .u64 (most : Int)] 23)).alloc (.cells #[.bool false] 4)) fun e B => e = .returned (.bool true) ∧ B.cell? ⟨N + 1, 0, none⟩ = some (.bool false) ∧ B.frozen? ⟨N + 1, 0, none⟩ = false ∧ (B.setCell ⟨N + 1, 0, none⟩ (.bool true)).cell? ⟨N + 1, 0, none⟩ = some (.bool true) ∧ Hid (Below N w (B.setCell ⟨N + 1, 0, none⟩ (.bool true)))) :=
      (awake_any _).mono fun e B ⟨he, hb⟩ => by
        have hs0 : ((w.alloc (.cells #[.int .u64 (most : Int)] 23)).alloc (.cells #[.bool false] 4)).heap.size = N + 2 := by simp [hN]
        have h1 : B.heap[N + 1]? = some (.cells #[.bool false] 4 (0, 0)) := (hb.out.block (N + 1) (by omega)).trans (heap_next (by simp; omega) _)
        have hw : Below N w B := (Keep.below (K := fun _ => True) ((Keep.alloc _ _ _).trans (Keep.alloc _ _ _)) (fun _ _ => trivial) (by omega)).trans (hb.out.mono (by omega))
        exact ⟨he, by rw [cell_of h1]; rfl, frozen_of h1 0, by rw [cell_of (heap_set h1 0 _)]; rfl, hw.trans ((Keep.setCell (K := fun k => k < N) _ _ _ (by simp)).below (fun _ h => h) (by have := heap_lt h1; omega))⟩
    rw [hN]
    generalize ls.length = len at *
    go_wp2_with (go_at_call 6; refine T6.out.mono ?_; rintro e w1 ⟨rfl, c1, f1, c2, h1⟩)
    exact ⟨_, by simp [results, Try.results4, go_sem, c2], rfl, h1.out⟩
end Go.Proofs.Ytnbgloooklgngaa
