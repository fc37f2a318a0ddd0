/-
  SketchApart, walked: true for every int, every seed and every slice of steps.
-/
import Derived.Test.YtljfidbplecggaaDoorLo
import Derived.Test.YtljfidbplecggaaDoorPw
namespace Go.Proofs.YtljfidbplecggaaDoor
open Go.RowKit
open nb (Keep Nib ct cell_of frozen_of heap_set heap_set_other heap_old heap_next heap_lt getAt mayAdd addAt Q e64 info_parts step_ex app_step told)
theorem info_u : (Tryd.prog.info? 22).map (fun i => (i.zero, i.size, i.bytes)) = some (some (.int .u64 0), 1, 8) := by kernel_rfl
/-- the sketch with the rows f; the document's own in the box V; the keys hs in a row of one's own behind them. -/
structure Ap (w : World) (S V seed n : Nat) (f : Nat → List Nat) (v u : Value) (hs : List Nat) (W : World) : Prop where
  at_ : At w S seed n f W
  box : W.heap[V]? = some (.cells #[v, .int .i64 (n : Int), .int .u64 (seed : Int)] 29 (0, 0))
  far : S + 9 ≤ V
  own : W.ownsRow (V + 1) 22 1 u hs.length (hs.map eu)
namespace Ap
variable {w W B : World} {S V seed n : Nat} {f f' : Nat → List Nat} {v u : Value} {hs : List Nat}
theorem turn (h : Ap w S V seed n f v u hs W) (ha : At w S seed n f' B) (hk : Keep (out S) W B) : Ap w S V seed n f' v u hs B :=
  ⟨ha, hk.heap h.box (.inr h.far), h.far, hk.own h.own fun k hk' => .inr (by have := (World.ownsRow.lt h.own k hk').1; have := h.far; omega)⟩
theorem below (h : Ap w S V seed n f v u hs W) (hb : Below W.heap.size W B) : Ap w S V seed n f v u hs B := h.turn (h.at_.below hb) (keep_below hb)
theorem drewN (h : Ap w S V seed n f v u hs W) (q : Nat) : Ap w S V seed n f v u hs (W.drewN q) := h.turn (h.at_.drewN q) (.drewN _ _ _)
theorem drew (h : Ap w S V seed n f v u hs W) : Ap w S V seed n f v u hs W.drew := h.turn h.at_.drew (.drew _ _)
theorem cells (h : Ap w S V seed n f v u hs W) : W.cell? ⟨V, 0, none⟩ = some v ∧ W.cell? ⟨V, 1, none⟩ = some (.int .i64 (n : Int)) ∧ W.cell? ⟨V, 2, none⟩ = some (.int .u64 (seed : Int)) := ⟨by rw [cell_of h.box]; rfl, by rw [cell_of h.box]; rfl, by rw [cell_of h.box]; rfl⟩
theorem q (h : Ap w S V seed n f v u hs W) : Q eu W u hs := Q.of_own h.own
/-- one more key. -/
theorem push (h : Ap w S V seed n f v u hs W) (X : Nat) (hl : hs.length ≤ 1000) (ty : TypeId) :
    ∃ v' w', (Builtin.append_ #[44, 44] ty #[u, .slice (some ⟨W.heap.size, 0, none⟩) 1 1]).run Tryd.prog (W.alloc (.cells #[eu X] 22)) = .ok v' w' ∧ ((∃ a c, v' = .slice a (hs ++ [X]).length c) ∧ Hid (Ap w S V seed n f v v' (hs ++ [X]) w')) := by
  have hV := heap_lt h.box
  have h1 := h.below ((Below.refl _ _).alloc (Nat.le_refl _) (.cells #[eu X] 22))
  obtain ⟨s, cap, w', hr, ho, hg, _⟩ := app_one info_u Tryd.underlying44 rfl (by decide) h1.own W.heap.size (x := eu X) rfl (heap_next rfl _) (by omega) (by simp; omega) ty
  have hne : ∀ k, u.ownBlock = some k → V + 1 ≤ k := fun k hk => (World.ownsRow.lt h1.own k hk).1
  have hk : Keep (fun k => k ≤ V) (W.alloc (.cells #[eu X] 22)) w' := .grown hg fun k hk h => by have := hne k hk; omega
  have hf := h.far
  have hle := h.at_.le
  refine ⟨_, w', hr, ⟨_, _, by simp; exact ⟨rfl, rfl⟩⟩, ⟨h1.at_.sk.keep hk fun k _ h2 => by show k ≤ V; omega, ?_, hle⟩, hk.heap h1.box (Nat.le_refl _), hf, by simpa using ho⟩
  exact ⟨h1.at_.old.1, h1.at_.old.2.trans (hk.below (fun k hk => by show k ≤ V; omega) h1.at_.old.2.size)⟩
end Ap
/-- the state behind the first j steps. -/
def Aq (w : World) (S V seed n : Nat) (v : Value) (ks : List (Nat × Nat)) (j : Nat) (u : Value) (W : World) : Prop := Ap w S V seed n (runF seed n (ks.take j)) v u (keys (ks.take j)) W
theorem Aq.old {w W : World} {S V seed n : Nat} {v u : Value} {ks : List (Nat × Nat)} {j : Nat} (h : Aq w S V seed n v ks j u W) : Below w.heap.size w W := h.at_.old.2
theorem take_snoc {ks : List (Nat × Nat)} {j K X : Nat} (h : ks[j]? = some (K, X)) : ks.take (j + 1) = ks.take j ++ [(K, X)] := by
  obtain ⟨hj, e⟩ := List.getElem?_eq_some_iff.1 h
  rw [List.take_succ_eq_append_getElem hj, e]
theorem sim_next {ks : List (Nat × Nat)} {j K X : Nat} (h : ks[j]? = some (K, X)) (x : Nat) : sim x (ks.take (j + 1)) = if 6 ≤ K % 8 then sim x (ks.take j) / 2 else if X = x then min 15 (sim x (ks.take j) + 1) else sim x (ks.take j) := by
  rw [take_snoc h, sim_snoc]; rfl
/-- what the first state is. -/
theorem Aq.start {w w1 w2 : World} {S seed n : Nat} {a : Option Addr} {k : Nat} {ks : List (Nat × Nat)} (h1 : At w S seed n (fun _ => List.replicate n 0) w1) (hb : Below w1.heap.size w1 w2) :
    Hid (Aq w S w2.heap.size seed n (.slice a 4 k) ks 0 (.slice none 0 0) (w2.alloc (.cells #[.slice a 4 k, .int .i64 (n : Int), .int .u64 (seed : Int)] 29))) := by
  have hs := h1.sk.lt
  have hz := hb.size
  exact ⟨(h1.below hb).below ((Below.refl _ _).alloc (Nat.le_refl _) _), heap_next rfl _, by omega, World.ownsRow_nil _ _ _ _⟩
theorem Aq.halve {w W : World} {S V seed n : Nat} {v u : Value} {ks : List (Nat × Nat)} {j K X : Nat} (h : Aq w S V seed n v ks j u W) (hk : ks[j]? = some (K, X)) (h6 : 6 ≤ K % 8) :
    Calls Tryd.prog 9 #[.pointer (some ⟨S, 0, none⟩)] W fun e B => e = .returned (.tuple #[]) ∧ Hid (Aq w S V seed n v ks (j + 1) u B) :=
  (halve_some h.at_).mono fun e B ⟨he, h1, h2⟩ => ⟨he, by
    have := h.turn h1 h2
    unfold Hid Aq
    rw [take_snoc hk, runF_snoc, keys_snoc, if_pos h6]
    unfold stepF
    rw [if_pos h6]
    exact this⟩
/-- a key came, and is noted. -/
theorem Aq.add {w W : World} {S V seed n : Nat} {v u : Value} {ks : List (Nat × Nat)} {j K X : Nat} (h : Aq w S V seed n v ks j u W) (hk : ks[j]? = some (K, X)) (h6 : ¬ 6 ≤ K % 8) (hX : X < 18446744073709551616) (hl : ks.length ≤ 60) :
    Calls Tryd.prog 12 #[.pointer (some ⟨S, 0, none⟩), .int .u64 (X : Int)] W fun e B => e = .returned (.tuple #[]) ∧ Below w.heap.size w B ∧ Hid (∀ ty, ∃ v' w', (Builtin.append_ #[44, 44] ty #[u, .slice (some ⟨B.heap.size, 0, none⟩) 1 1]).run Tryd.prog (B.alloc (.cells #[.int .u64 (X : Int)] 22)) = .ok v' w' ∧ Hid (Aq w S V seed n v ks (j + 1) v' w')) :=
  (add_some h.at_ X hX).mono fun e B ⟨he, h1, h2⟩ => ⟨he, h1.old.2, fun ty => by
    have h3 := h.turn h1 h2
    have hl2 := keys_len (ks.take j)
    obtain ⟨v', w', hr, _, ha⟩ := h3.push X (by simp at hl2; omega) ty
    refine ⟨v', w', hr, ?_⟩
    unfold Hid Aq
    rw [take_snoc hk, runF_snoc, keys_snoc, if_neg h6]
    unfold stepF
    rw [if_neg h6]
    exact ha⟩
set_option maxRecDepth 100000 in
set_option maxHeartbeats 8000000 in
theorem apart_some (c : Int) (seed : Nat) (hseed : seed < 18446744073709551616) (a : Option Addr) (cap : Nat) (ks : List (Nat × Nat)) (w : World) (hs : mx.Since w w) (hc : c ≤ 256) (hl : ks.length ≤ 60) (hr : Steps w a ks) :
    Calls Tryd.prog 5 #[.int .i64 c, .int .u64 (seed : Int), .slice a ks.length cap] w fun e B => e = .returned (.bool true) ∧ Below w.heap.size w B := by
  obtain ⟨S, hS⟩ : ∃ S, w.heap.size = S := ⟨_, rfl⟩
  obtain ⟨n, hn⟩ : ∃ n, wdN c = n := ⟨_, rfl⟩
  have hn0 : 0 < n := hn ▸ (wdN_bd c).1
  have hn1 : n ≤ 4096 := hn ▸ (wdN_bd c).2
  have T7 : Hid (Calls Tryd.prog 7 #[.int .i64 c, .int .u64 (seed : Int)] w fun e B => e = .returned (.pointer (some ⟨S, 0, none⟩)) ∧ Hid (At w S seed n (fun _ => List.replicate n 0) B)) := by
    have := new_any c seed hseed w
    rw [hn] at this
    refine this.mono fun e B ⟨he, h1, h2⟩ => ⟨by rw [he, hS], ?_⟩
    have := At.start hs h1 h2
    rw [hS] at this
    exact this
  have T8 : Hid (∀ W, At w S seed n (fun _ => List.replicate n 0) W → Calls Tryd.prog 8 #[.int .i64 c, .int .u64 (seed : Int)] W fun e B => ∃ a k, e = .returned (sv (.slice a 4 k) n seed) ∧ Hid (Aq w S B.heap.size seed n (.slice a 4 k) ks 0 (.slice none 0 0) (B.alloc (.cells #[.slice a 4 k, .int .i64 (n : Int), .int .u64 (seed : Int)] 29)))) := fun W hW => by
    have := refnew_any c seed W (fun b => W.heap.size ≤ b) fun _ h => h
    rw [hn] at this
    exact this.mono fun e B ⟨a, k, he, h1, h2⟩ => ⟨a, k, he, Aq.start hW h2⟩
  have C : Hid (∀ W, Below w.heap.size w W → ∀ i, i < ks.length → ∃ b o K X, a = some ⟨b, o, none⟩ ∧ ks[i]? = some (K, X) ∧ W.cell? ⟨b, o + i * 2, none⟩ = some (.int .u64 (K : Int)) ∧ W.cell? ⟨b, o + i * 2 + 1, none⟩ = some (.int .u64 (X : Int)) ∧ X < 18446744073709551616) := fun W hW i hi => by
    obtain ⟨b, o, ha, hc⟩ := hr (by omega)
    obtain ⟨c0, c1, hx⟩ := hc i hi
    refine ⟨b, o, ks[i].1, ks[i].2, ha, by simp [hi], ?_, ?_, hx⟩
    · exact (hW.cell (p := ⟨b, o + i * 2, none⟩) (World.block_lt_of_cell? w ⟨b, o + i * 2, none⟩ c0)).trans c0
    · exact (hW.cell (p := ⟨b, o + i * 2 + 1, none⟩) (World.block_lt_of_cell? w ⟨b, o + i * 2 + 1, none⟩ c1)).trans c1
  have T9 : Hid (∀ (V : Nat) (v : Value) (j : Nat) (u : Value) (K X : Nat) (W : World), ks[j]? = some (K, X) → 6 ≤ K % 8 → Aq w S V seed n v ks j u W → Calls Tryd.prog 9 #[.pointer (some ⟨S, 0, none⟩)] W fun e B => e = .returned (.tuple #[]) ∧ Hid (Aq w S V seed n v ks (j + 1) u B)) := fun V v j u K X W h h6 hA => hA.halve h h6
  have T12 : Hid (∀ (V : Nat) (v : Value) (j : Nat) (u : Value) (K X : Nat) (W : World), ks[j]? = some (K, X) → ¬ 6 ≤ K % 8 → X < 18446744073709551616 → Aq w S V seed n v ks j u W → Calls Tryd.prog 12 #[.pointer (some ⟨S, 0, none⟩), .int .u64 (X : Int)] W fun e B => e = .returned (.tuple #[]) ∧ Below w.heap.size w B ∧ Hid (∀ ty, ∃ v' w', (Builtin.append_ #[44, 44] ty #[u, .slice (some ⟨B.heap.size, 0, none⟩) 1 1]).run Tryd.prog (B.alloc (.cells #[.int .u64 (X : Int)] 22)) = .ok v' w' ∧ Hid (Aq w S V seed n v ks (j + 1) v' w'))) := fun V v j u K X W h h6 hX hA => hA.add h h6 hX hl
  have HS := Lib.hid hS
  have hlow : ∀ y ∈ keys ks, y < 18446744073709551616 := fun y hy => by
    unfold keys at hy
    obtain ⟨k, hk, rfl⟩ := List.mem_map.1 hy
    obtain ⟨i, hi, rfl⟩ := List.getElem_of_mem (List.mem_filter.1 hk).1
    obtain ⟨b, o, ha, hc⟩ := hr (by omega)
    exact (hc i hi).2.2
  have E1 : Hid (∀ V v u W, Aq w S V seed n v ks ks.length u W → Ap w S V seed n (runF seed n ks) v u (keys ks) W) := fun V v u W h => by
    unfold Aq at h
    rwa [List.take_length] at h
  have E2 : Hid (∀ (V : Nat) (v u : Value) (W : World), Ap w S V seed n (runF seed n ks) v u (keys ks) W → ∀ p, p < (keys ks).length → ∃ b o c X, u = .slice (some ⟨b, o, none⟩) (keys ks).length c ∧ (keys ks)[p]? = some X ∧ W.cell? ⟨b, o + p, none⟩ = some (.int .u64 (X : Int)) ∧ X < 18446744073709551616) := fun V v u W h p hp => by
    obtain ⟨b, o, c, hv, hc⟩ := h.q.at_ p hp
    exact ⟨b, o, c, (keys ks)[p], hv, by simp [hp], by rw [hc]; simp [ct, hp], hlow _ (List.getElem_mem hp)⟩
  have T21 : Hid (∀ (V : Nat) (a1 : Option Addr) (k1 : Nat) (u : Value) (W : World) (X : Nat), X < 18446744073709551616 → Ap w S V seed n (runF seed n ks) (.slice a1 4 k1) u (keys ks) W → Calls Tryd.prog 21 #[sv (.slice a1 4 k1) n seed, .int .u64 (X : Int), u] W fun e B => e = .returned (.bool (lonely seed n X (keys ks))) ∧ Hid (Ap w S V seed n (runF seed n ks) (.slice a1 4 k1) u (keys ks) B)) := fun V a1 k1 u W X hX h =>
    (lonely_any n seed X hX hn0 hn1 a1 4 k1 W u (keys ks) h.q hlow (by have := keys_len ks; omega)).mono fun e B ⟨he, hb⟩ => ⟨he, h.below hb.out⟩
  have T16 : Hid (∀ (V : Nat) (v u : Value) (W : World) (X : Nat), X < 18446744073709551616 → lonely seed n X (keys ks) = true → Ap w S V seed n (runF seed n ks) v u (keys ks) W → Calls Tryd.prog 16 #[.pointer (some ⟨S, 0, none⟩), .int .u64 (X : Int)] W fun e B => e = .returned (.int .i64 (sim X ks : Int)) ∧ Hid (Ap w S V seed n (runF seed n ks) v u (keys ks) B)) := fun V v u W X hX hlo h => by
    rw [← lonely_cnt hn0 ks hlo]
    exact (count_some h.at_ X hX).mono fun e B ⟨he, hb⟩ => ⟨he, h.below hb⟩
  have T6 : Hid (∀ (V : Nat) (v u : Value) (W : World), Ap w S V seed n (runF seed n ks) v u (keys ks) W → Calls Tryd.prog 6 #[] W fun e B => e = .returned (.bool true) ∧ Hid (Below w.heap.size w B)) := fun V v u W h =>
    (awake_any w W h.at_.old).mono fun e B ⟨he, hb⟩ => ⟨he, h.at_.old.2.trans (hb.out.mono h.at_.old.2.size)⟩
  have E3 : Hid (∀ (V : Nat) (v u : Value) (W : World), Ap w S V seed n (runF seed n ks) v u (keys ks) W → Below w.heap.size w W ∧ (W.cell? ⟨V, 0, none⟩ = some v ∧ W.cell? ⟨V, 1, none⟩ = some (.int .i64 (n : Int)) ∧ W.cell? ⟨V, 2, none⟩ = some (.int .u64 (seed : Int))) ∧ (∃ a c, u = .slice a (keys ks).length c) ∧ Hid (Ap w S V seed n (runF seed n ks) v u (keys ks) W.drew) ∧ ∀ q, Hid (Ap w S V seed n (runF seed n ks) v u (keys ks) (W.drewN q))) := fun V v u W h => ⟨h.at_.old.2, h.cells, by obtain ⟨a, c, hv, _⟩ := h.q.slice; exact ⟨a, c, hv⟩, h.drew, fun q => h.drewN q⟩
  have E4 : Hid (∀ (x k K X : Nat), ks[k]? = some (K, X) → sim x (ks.take (k + 1)) = if 6 ≤ K % 8 then sim x (ks.take k) / 2 else if X = x then min 15 (sim x (ks.take k) + 1) else sim x (ks.take k)) := fun x k K X h => sim_next h x
  have E5 : Hid (∀ x, sim x (ks.take 0) = 0 ∧ sim x (ks.take ks.length) = sim x ks) := fun x => ⟨by simp [sim], by rw [List.take_length]⟩
  have E6 : Hid (∀ x k, sim x (ks.take k) ≤ 15) := fun x k => sim_le x _ 0 (by omega)
  have hkl := keys_len ks
  obtain ⟨sk, hsk⟩ : ∃ sk : Nat → Nat, ∀ x, sim x ks = sk x := ⟨_, fun _ => rfl⟩
  obtain ⟨lo, hlo⟩ : ∃ lo : Nat → Bool, ∀ x, lonely seed n x (keys ks) = lo x := ⟨_, fun _ => rfl⟩
  simp only [hsk] at T16 E5
  simp only [hlo] at T16 T21
  obtain ⟨sm, hsm⟩ : ∃ sm : Nat → Nat → Nat, sm = fun x k => sim x (ks.take k) := ⟨_, rfl⟩
  have E4 : Hid (∀ (x k K X : Nat), ks[k]? = some (K, X) → sm x (k + 1) = if 6 ≤ K % 8 then sm x k / 2 else if X = x then min 15 (sm x k + 1) else sm x k) := by rw [hsm]; exact E4
  have E5 : Hid (∀ x, sm x 0 = 0 ∧ sm x ks.length = sk x) := by rw [hsm]; exact E5
  have E6 : Hid (∀ x k, sm x k ≤ 15) := by rw [hsm]; exact E6
  clear hr hs hn hS hlow hsm hsk hlo
  have hd1 : decide (256 < c) = false := by simpa using hc
  have hd2 : ¬ (60 : Int) < (ks.length : Int) := by omega
  generalize hlen : ks.length = len at *
  go_enter Tryd.func5, Tryd.ntmps5
  go_wp2_with fail
  refine T7.out.mono ?_
  rintro e w1 ⟨rfl, h1⟩
  have T8 := Lib.hid (T8.out _ h1.out)
  go_wp2_with fail
  refine T8.out.mono ?_
  rintro e w2 ⟨a1, k1, rfl, h2⟩
  go_wp2_with fail
  obtain ⟨V, hV⟩ : ∃ V, w2.heap.size = V := ⟨_, rfl⟩
  rw [hV] at h2
  rw [hV]
  generalize w2.alloc (.cells #[.slice a1 4 k1, .int .i64 (n : Int), .int .u64 (seed : Int)] 29) = W0 at *
  clear hV T7 T8 h1
  go_loopw [9, 10] (fun u i wr => ∃ j : Nat, j ≤ len ∧ i = .int .i64 j ∧ Hid (Aq w S V seed n (.slice a1 4 k1) ks j u wr)) (fun _ i _ => len - (intOf i).toNat)
  case atStart => exact ⟨0, Nat.zero_le _, rfl, h2⟩
  case round =>
    obtain ⟨j, hj, rfl, hA⟩ := hrel
    clear h2
    by_cases hlt : j < len
    · obtain ⟨b, o, K, X, rfl, hk, c0, c1, hX⟩ := C.out wr hA.out.old j (by omega)
      have C1 : Hid (∀ W, Below w.heap.size w W → W.cell? ⟨b, o + j * 2 + 1, none⟩ = some (.int .u64 (X : Int))) := fun W hW => by
        obtain ⟨b', o', K', A', e1, e2, _, e4, _⟩ := C.out W hW j (by omega)
        rw [hk] at e2
        simp only [Option.some.injEq, Addr.mk.injEq, and_true, Prod.mk.injEq] at e1 e2
        obtain ⟨rfl, rfl⟩ := e1
        obtain ⟨rfl, rfl⟩ := e2
        exact e4
      obtain ⟨d, hd, hd8⟩ : ∃ d : Nat, (K : Int) % 8 = (d : Int) ∧ d = K % 8 := ⟨K % 8, by omega, rfl⟩
      have j1 : (0 : Int) ≤ (j : Int) := by omega
      have j2 : (j : Int) < (len : Int) := by omega
      by_cases h6 : 6 ≤ d
      · have P9 := Lib.hid (T9.out V _ j u9 K X wr hk (by omega) hA.out)
        have i6 : (6 : Int) ≤ (d : Int) := by omega
        clear T9 T12 C hk hd8 hA
        go_wp2_with fail
        refine P9.out.mono ?_
        rintro e w3 ⟨rfl, h3⟩
        go_wp2
        go_roundw
        case rel => exact ⟨j + 1, by omega, by simp, h3⟩
        case measure => simp [intOf]; omega
      · have P12 := Lib.hid (T12.out V _ j u9 K X wr hk (by omega) hX hA.out)
        have i6 : ¬ (6 : Int) ≤ (d : Int) := by omega
        clear T9 T12 C hk hd8 hA
        go_wp2_with fail
        refine P12.out.mono ?_
        rintro e w3 ⟨rfl, b3, h3⟩
        have z1 := C1.out w3 b3
        clear P12
        go_wp2_with (at_builtin; refine app_step _ rfl _ _ 44 rfl _ _ rfl rfl (h3.out _) ?_; rintro v4 w4 h4)
        go_roundw
        case rel => exact ⟨j + 1, by omega, by simp, h4⟩
        case measure => simp [intOf]; omega
    · obtain rfl : j = len := by omega
      have hA := Lib.hid (E1.out V _ _ wr hA.out)
      obtain ⟨_, _, ⟨a2, c2, rfl⟩, _⟩ := E3.out V _ _ wr hA.out
      clear hlt hj T9 T12 E1
      generalize keys ks = hs at *
      generalize runF seed n ks = F at *
      generalize hm : hs.length = m at *
      go_wp2_with fail
      go_loopw [11] (fun i wr => ∃ p : Nat, p ≤ m ∧ i = .int .i64 p ∧ Hid (Ap w S V seed n F (.slice a1 4 k1) (.slice a2 m c2) hs wr)) (fun i _ => m - (intOf i).toNat)
      case atStart => exact ⟨0, Nat.zero_le _, rfl, hA⟩
      case round =>
        obtain ⟨p, hp, rfl, hB⟩ := hrel
        clear hA
        by_cases hlt : p < m
        · obtain ⟨b, o, c, X, hv, hX, c0, hXl⟩ := E2.out V _ _ wr hB.out p hlt
          obtain ⟨rfl, -, rfl⟩ := Value.slice.inj hv
          have hD := (E3.out V _ _ wr hB.out).2.2.2.1
          have T21 := Lib.hid (T21.out V a1 k1 _ _ X hXl hD.out)
          have Z : Hid (∀ W, Ap w S V seed n F (.slice a1 4 k1) (.slice (some ⟨b, o, none⟩) m c2) hs W → W.cell? ⟨V, 0, none⟩ = some (.slice a1 4 k1) ∧ W.cell? ⟨V, 1, none⟩ = some (.int .i64 (n : Int)) ∧ W.cell? ⟨V, 2, none⟩ = some (.int .u64 (seed : Int)) ∧ W.cell? ⟨b, o + p, none⟩ = some (.int .u64 (X : Int))) := fun W hW => by
            obtain ⟨b', o', c', X', hv, hX', c1, _⟩ := E2.out V _ _ W hW p hlt
            obtain ⟨e1, -, -⟩ := Value.slice.inj hv
            simp only [Option.some.injEq, Addr.mk.injEq, and_true] at e1
            obtain ⟨rfl, rfl⟩ := e1
            rw [hX] at hX'
            obtain rfl := Option.some.inj hX'
            obtain ⟨-, ⟨x0, x1, x2⟩, -⟩ := E3.out V _ _ W hW
            exact ⟨x0, x1, x2, c1⟩
          have K1 := Lib.hid (Z.out _ hD.out)
          have T21 := Lib.hid (T21.out.mono fun e B (h : _ ∧ _) => (⟨h.1, Z.out B h.2.out, h.2⟩ : _ ∧ _ ∧ _))
          have p1 : (0 : Int) ≤ (p : Int) := by omega
          have p2 : (p : Int) < (m : Int) := by omega
          clear hD c0
          have hw1 : Hid (∀ W q, Hid (Ap w S V seed n F (.slice a1 4 k1) (.slice (some ⟨b, o, none⟩) m c2) hs W) → Hid (Ap w S V seed n F (.slice a1 4 k1) (.slice (some ⟨b, o, none⟩) m c2) hs (W.drewN q))) := fun W q h => (E3.out V _ _ W h.out).2.2.2.2 q
          cases hlo : lo X
          · rw [hlo] at T21
            clear C T16 T6 E2 E4 E5 E6 Z hB hX
            go_wp2_with fail
            go_region_held3 (fun W => W.cell? ⟨V, 0, none⟩ = some (.slice a1 4 k1) ∧ W.cell? ⟨V, 1, none⟩ = some (.int .i64 (n : Int)) ∧ W.cell? ⟨V, 2, none⟩ = some (.int .u64 (seed : Int)) ∧ W.cell? ⟨b, o + p, none⟩ = some (.int .u64 (X : Int))) (first | exact K1.out | assumption) (first | (go_at_call 21; refine T21.out.mono ?_; rintro e w9 ⟨rfl, s9, h9⟩))
            clear s9
            go_wp2
            go_roundw
            case rel => exact ⟨p + 1, by omega, by simp, h9⟩
            case measure => simp [intOf]; omega
          · rw [hlo] at T21
            have T16 : Hid (∀ W, Ap w S V seed n F (.slice a1 4 k1) (.slice (some ⟨b, o, none⟩) m c2) hs W → Calls Tryd.prog 16 #[.pointer (some ⟨S, 0, none⟩), .int .u64 (X : Int)] W fun e B => e = .returned (.int .i64 (sk X : Int)) ∧ Hid (Ap w S V seed n F (.slice a1 4 k1) (.slice (some ⟨b, o, none⟩) m c2) hs B)) := fun W h => T16.out V _ _ W X hXl hlo h
            have HL : Hid (∀ W, Ap w S V seed n F (.slice a1 4 k1) (.slice (some ⟨b, o, none⟩) m c2) hs W → Below w.heap.size w W) := fun W h => (E3.out V _ _ W h).1
            obtain ⟨e0, e1⟩ := E5.out X
            have e1 := Lib.hid e1
            have G4 : Hid (∀ k K Y, ks[k]? = some (K, Y) → sm X (k + 1) = if 6 ≤ K % 8 then sm X k / 2 else if Y = X then min 15 (sm X k + 1) else sm X k) := fun k K Y => E4.out X k K Y
            have G6 : Hid (∀ k, sm X k ≤ 15) := E6.out X
            clear E4 E5 E6 E2 T6 hB hX E3
            generalize sm X = sx at *
            go_wp2_with fail
            go_region_held3 (fun W => W.cell? ⟨V, 0, none⟩ = some (.slice a1 4 k1) ∧ W.cell? ⟨V, 1, none⟩ = some (.int .i64 (n : Int)) ∧ W.cell? ⟨V, 2, none⟩ = some (.int .u64 (seed : Int)) ∧ W.cell? ⟨b, o + p, none⟩ = some (.int .u64 (X : Int))) (first | exact K1.out | assumption) (first | (go_at_call 21; refine T21.out.mono ?_; rintro e w9 ⟨rfl, s9, h9⟩))
            clear s9
            clear T21 K1
            go_wp2_with fail
            go_loopw [12, 13] (fun t i wr => ∃ k : Nat, k ≤ j ∧ i = .int .i64 k ∧ t = .int .i64 (sx k : Int) ∧ Hid (Ap w S V seed n F (.slice a1 4 k1) (.slice (some ⟨b, o, none⟩) m c2) hs wr)) (fun _ i _ => j - (intOf i).toNat)
            case atStart => exact ⟨0, Nat.zero_le _, rfl, by rw [e0]; rfl, h9⟩
            case round =>
              obtain ⟨k, hk, rfl, rfl, hD⟩ := hrel
              clear h9 e0
              by_cases hkj : k < j
              · obtain ⟨b', o', K, Y, rfl, hY, c0, c1, hYl⟩ := C.out wr (HL.out _ hD.out) k hkj
                obtain ⟨-, -, -, c2⟩ := Z.out _ hD.out
                have e := Lib.hid (G4.out k K Y hY)
                have hle := G6.out k
                obtain ⟨d, hd, hd8⟩ : ∃ d : Nat, (K : Int) % 8 = (d : Int) ∧ d = K % 8 := ⟨K % 8, by omega, rfl⟩
                have k1 : (0 : Int) ≤ (k : Int) := by omega
                have k2 : (k : Int) < (j : Int) := by omega
                rw [← hd8] at e
                clear C G4 G6 hY hd8 T16 HL Z
                generalize sx k = z at *
                by_cases h6 : 6 ≤ d
                · have i6 : (6 : Int) ≤ (d : Int) := by omega
                  have e := e.out.trans (if_pos h6)
                  have e := Lib.hid e
                  go_wp2_with fail
                  go_roundw
                  case rel => exact ⟨k + 1, by omega, by simp, by rw [e.out]; simp, hD⟩
                  case measure => simp [intOf]; omega
                · have i6 : ¬ (6 : Int) ≤ (d : Int) := by omega
                  have e := e.out.trans (if_neg h6)
                  by_cases hYX : Y = X
                  · have hq : ((Y : Int) == (X : Int)) = true := by simp [hYX]
                    have e := Lib.hid (e.trans (if_pos hYX))
                    have hz : min 15 ((z : Int) + 1) = ((min 15 (z + 1) : Nat) : Int) := by omega
                    go_wp2_with fail
                    go_quiet (fail)
                    go_wp2
                    go_roundw
                    case rel => exact ⟨k + 1, by omega, by simp, by rw [e.out], hw1.out _ _ hD⟩
                    case measure => simp [intOf]; omega
                  · have hq : ((Y : Int) == (X : Int)) = false := by simp; omega
                    have e := Lib.hid (e.trans (if_neg hYX))
                    go_wp2_with fail
                    go_quiet (fail)
                    go_wp2
                    go_roundw
                    case rel => exact ⟨k + 1, by omega, by simp, by rw [e.out], hw1.out _ _ hD⟩
                    case measure => simp [intOf]; omega
              · obtain rfl : k = j := by omega
                obtain ⟨-, -, -, c2⟩ := Z.out _ hD.out
                have T := Lib.hid (T16.out _ hD.out)
                rw [e1.out]
                have hq : ((sk X : Int) != (sk X : Int)) = false := by simp
                clear C G4 G6 T16 HL Z
                generalize sk X = y at *
                go_wp2_with fail
                refine T.out.mono ?_
                rintro e w2 ⟨rfl, h2⟩
                go_wp2
                go_roundw
                case rel => exact ⟨p + 1, by omega, by simp, h2⟩
                case measure => simp [intOf]; omega
        · obtain rfl : p = m := by omega
          have T := Lib.hid (T6.out V _ _ wr hB.out)
          clear C T21 T16 E2 E3 E4 E5 E6 T6
          go_wp2_with fail
          refine T.out.mono ?_
          rintro e w1 ⟨rfl, hb⟩
          go_wp2
          go_ret
          exact ⟨rfl, hb.out⟩
theorem apart_walk (c : Int) (seed : Nat) (hseed : seed < 18446744073709551616) (a : Option Addr) (cap : Nat) (ks : List (Nat × Nat)) (w : World) (hs : mx.Since w w) (hr : Steps w a ks) :
    Calls Tryd.prog 5 #[.int .i64 c, .int .u64 (seed : Int), .slice a ks.length cap] w fun e B => e = .returned (.bool true) ∧ Below w.heap.size w B := by
  by_cases hn : c ≤ 256
  · by_cases hl : ks.length ≤ 60
    · exact apart_some c seed hseed a cap ks w hs hn hl hr
    · have hd1 : decide (256 < c) = false := by simpa using hn
      have hl1 : (60 : Int) < (ks.length : Int) := by omega
      have T := Lib.hid (awake_any w w hs)
      clear hr hl hs
      generalize ks.length = len at *
      go_enter Tryd.func5, Tryd.ntmps5
      go_wp2_with fail
      refine T.out.mono ?_
      rintro e B ⟨rfl, hb⟩
      go_wp2
      go_ret
      exact ⟨rfl, hb.out⟩
  · have hn1 : 256 < c := by omega
    have hd1 : decide (256 < c) = true := by simpa using hn1
    have T := Lib.hid (awake_any w w hs)
    clear hr hn hs
    generalize ks.length = len at *
    go_enter Tryd.func5, Tryd.ntmps5
    go_wp2_with fail
    refine T.out.mono ?_
    rintro e B ⟨rfl, hb⟩
    go_wp2
    go_ret
    exact ⟨rfl, hb.out⟩
end Go.Proofs.YtljfidbplecggaaDoor
