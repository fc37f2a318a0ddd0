/-
  RingPlays walked: for every int and every slice of steps it returns true; what was in memory stays.
-/
import Derived.Test.YtgkiekidmadabaaPlays
import Derived.Lib.MinMax
namespace Go.Proofs.Ytgkiekidmadabaa
open Go.RowKit Go.Shelf
/-- the slice at a reads as the steps ks. -/
def Steps (w : World) (a : Option Addr) (ks : List (Nat × Int)) : Prop := 0 < ks.length → ∃ b o, a = some ⟨b, o, none⟩ ∧ ∀ i (h : i < ks.length), w.cell? ⟨b, o + i * 2, none⟩ = some (.int .u64 (ks[i].1 : Int)) ∧ w.cell? ⟨b, o + i * 2 + 1, none⟩ = some (.int .i64 ks[i].2)
theorem Steps.below {w w' : World} {a : Option Addr} {ks : List (Nat × Int)} (h : Steps w a ks) (hb : Below w.heap.size w w') : Steps w' a ks := fun h0 => by
  obtain ⟨b, o, rfl, hi⟩ := h h0
  exact ⟨b, o, rfl, fun i h => ⟨(hb.cell (p := ⟨b, o + i * 2, none⟩) (World.block_lt_of_cell? w ⟨b, o + i * 2, none⟩ (hi i h).1)).trans (hi i h).1, (hb.cell (p := ⟨b, o + i * 2 + 1, none⟩) (World.block_lt_of_cell? w ⟨b, o + i * 2 + 1, none⟩ (hi i h).2)).trans (hi i h).2⟩⟩
theorem elem26 : Try.prog.underlying 26 = some (.slice (Try.prog.elem 26)) := by kernel_rfl
theorem size26 (w : World) : (sizeOf (Try.prog.elem 26)).run Try.prog w = .ok 1 w := by kernel_rfl
theorem take_all (l : List Int) {m : Nat} (h : l.length ≤ m) : l.take l.length = l.take m := by rw [List.take_length, List.take_of_length_le h]
theorem drop_all (l : List Int) {m : Nat} (h : l.length ≤ m) : l.drop l.length = l.drop m := by rw [List.drop_length, List.drop_eq_nil_of_le h]
theorem cut_h (a : Option Addr) (cap : Nat) {l : List Int} {nn : Nat} {z : Int} (hn : nn ≤ l.length) (hc : l.length ≤ cap) (hz : z = (nn : Int)) : ∃ a3, (∀ W', (Instr.slice 26 (.slice a l.length cap) none (some (.int .i64 z)) none).run Try.prog W' = .ok (.slice a3 nn cap) W') ∧ ∀ W, Q W (.slice a l.length cap) l → Row W (.slice a3 nn cap) (l.take nn) := by
  subst hz
  refine ⟨if cap = 0 then a else a.map (·.add (0 * 1)), fun W' => by rw [run_slice_h W' 26 a l.length cap elem26 .i64 nn (by omega) (by omega), size26]; simp [sliced], fun W hq => ?_⟩
  have hlen : (l.take nn).length = nn := by rw [List.length_take]; omega
  refine ⟨_, cap, by rw [hlen], by omega, fun h0 => ?_⟩
  rcases hq with ⟨_, rfl⟩ | ⟨b, o, c, hv, hc', hi⟩
  · simp at h0
  · injection hv with h1 h2 h3
    subst h1
    have hc0 : ¬ cap = 0 := by omega
    refine ⟨b, o, by simp [hc0, Addr.add], fun i hi' => ?_⟩
    rw [hi i (by omega), List.getElem_take]
theorem cut_l (a : Option Addr) (cap : Nat) {l : List Int} {nn : Nat} {z : Int} (hn : nn ≤ l.length) (hc : l.length ≤ cap) (hz : z = (nn : Int)) : ∃ a2 c2, (∀ W', (Instr.slice 26 (.slice a l.length cap) (some (.int .i64 z)) none none).run Try.prog W' = .ok (.slice a2 (l.drop nn).length c2) W') ∧ ∀ W, Q W (.slice a l.length cap) l → Q W (.slice a2 (l.drop nn).length c2) (l.drop nn) ∧ (Value.slice a2 (l.drop nn).length c2).ownBlock = (Value.slice a l.length cap).ownBlock := by
  subst hz
  refine ⟨if cap = nn then a else a.map (·.add (nn * 1)), cap - nn, fun W' => by rw [run_slice_l W' 26 a l.length cap elem26 .i64 nn (by omega) (by omega), size26]; simp [sliced], fun W hq => ?_⟩
  rcases hq with ⟨h, rfl⟩ | ⟨b, o, c, hv, hc', hi⟩
  · injection h with h1 h2 h3
    subst h1 h3
    obtain rfl : nn = 0 := by simpa using hn
    exact ⟨.inl ⟨by simp, rfl⟩, rfl⟩
  · injection hv with h1 h2 h3
    subst h1
    by_cases he : cap = nn
    · rw [if_pos he]
      exact ⟨.inr ⟨b, o, cap - nn, rfl, by rw [List.length_drop]; omega, fun i hi' => by rw [List.length_drop] at hi'; omega⟩, rfl⟩
    · rw [if_neg he]
      refine ⟨.inr ⟨b, o + nn, cap - nn, by simp [Addr.add], by rw [List.length_drop]; omega, fun i hi' => ?_⟩, by simp only [Option.map, Value.ownBlock, Addr.add]; split <;> rfl⟩
      rw [List.length_drop] at hi'
      rw [Nat.add_assoc, hi (nn + i) (by omega), List.getElem_drop]
theorem St.cut {w W : World} {N G rm : Nat} {v v' : Value} {l l' xs : List Int} (h : St w N G rm v l xs W) (hq : Q W v' l') (ho : v'.ownBlock = v.ownBlock) : St w N G rm v' l' xs (W.setCell ⟨G, 0, none⟩ v') := by
  have hk : Keep (fun k => k ≠ G) W (W.setCell ⟨G, 0, none⟩ v') := Keep.setCell _ _ _ (fun h => h rfl)
  have hw : ∀ k, v'.ownBlock = some k → k < W.heap.size ∧ k ≠ G := fun k hk => h.own k (ho ▸ hk)
  refine ⟨heap_set h.box 0 v', hq.keep hk (fun k hk => (hw k hk).2), fun k hk' => ⟨Nat.lt_of_lt_of_le (hw k hk').1 hk.size, (hw k hk').2⟩, ?_, h.old.trans ((hk.mono (K' := (· < N)) fun k _ hk => by have := h.ge; omega).below (fun _ h => h) (by have := heap_lt h.box; have := h.ge; omega)), h.ge⟩
  obtain ⟨s, n, f, a, hr, hf⟩ := h.has
  exact ⟨s, n, f, a, hr.keep hk (fun k hk e => hf k hk (.inr (.inl e))), fun k hk hK => hf k hk (ho ▸ hK)⟩
theorem len_sent (l : List Int) (x : Int) (rm : Nat) {k : Nat} (h : l.length ≤ k) : (if l.length < rm then l ++ [x] else l).length ≤ k + 1 := by
  split
  · rw [List.length_append]; simp; omega
  · omega
theorem cell_far2 {W : World} {G i g : Nat} {v u t : Value} (h : W.cell? ⟨G, i, none⟩ = some v) (hne : G < g) : ((W.setCell ⟨g, 0, none⟩ u).setCell ⟨g, 1, none⟩ t).cell? ⟨G, i, none⟩ = some v :=
  (World.cell?_setCell_other _ _ _ _ (by intro e; injection e with e; omega)).trans ((World.cell?_setCell_other _ _ _ _ (by intro e; injection e with e; omega)).trans h)
set_option maxRecDepth 100000 in
set_option maxHeartbeats 20000000 in
theorem plays_some (room : Int) (a : Option Addr) (cap : Nat) (ks : List (Nat × Int)) (w : World) (hl : ks.length ≤ 40) (hr : Steps w a ks) :
    Calls Try.prog 3 #[.int .i64 room, .slice a ks.length cap] w fun e B => e = .returned (.bool true) ∧ Below w.heap.size w B := by
  obtain ⟨N, hN⟩ : ∃ N, w.heap.size = N := ⟨_, rfl⟩
  obtain ⟨rm, hrm⟩ : ∃ rm, roomOf room = rm := ⟨_, rfl⟩
  have hrm1 : rm ≤ 65536 := hrm ▸ roomOf_le room
  have T7 : Hid (Calls Try.prog 7 #[.int .i64 room] w fun e B => e = .returned (.pointer (some ⟨N, 0, none⟩)) ∧ Hid (Has (fun k => k < N) B N [] rm ∧ Below N w B)) :=
    (new_has room w (fun k => k < N) fun _ h => hN ▸ h).mono fun e B ⟨he, hB, hb⟩ => by
      rw [hN] at he hB hb
      exact ⟨he, hrm ▸ hB, hb⟩
  have T8 : Hid (∀ W, Calls Try.prog 8 #[.int .i64 room] W fun e B => e = .returned (qv (.slice none 0 0) rm) ∧ Hid (Below W.heap.size W B)) := fun W => by
    have := refnew_any room W
    rw [hrm] at this
    exact this
  rw [hN]
  go_enter Try.func3, Try.ntmps3
  go_wp2_with fail
  refine T7.out.mono ?_
  rintro e w1 ⟨rfl, h1⟩
  go_wp2_with fail
  refine (T8.out _).mono ?_
  rintro e w2 ⟨rfl, h2⟩
  have S0 : Hid (St w N w2.heap.size rm (.slice none 0 0) [] [] (w2.alloc (.cells #[.slice none 0 0, .int .i64 (rm : Int)] 28))) := by
    have hb := h2.out
    have hN1 : N < w1.heap.size := by obtain ⟨s, n, f, a, hr, _⟩ := h1.out.1; exact heap_lt hr.head
    have hb2 : Below N w (w2.alloc (.cells #[.slice none 0 0, .int .i64 (rm : Int)] 28)) := (h1.out.2.trans (hb.mono (by omega))).alloc (by have := hb.size; omega) _
    exact ⟨World.alloc_heap_new _ _, Q.nil _, fun k hk => by simp [Value.ownBlock] at hk, ((h1.out.1.more (K' := fun k => k < N ∨ k = w2.heap.size ∨ (Value.slice none 0 0).ownBlock = some k) fun k hk => by
      rcases hk with hk | rfl | hk
      · exact .inl hk
      · exact .inr hb.size
      · simp [Value.ownBlock] at hk).below hb).below ((Below.refl _ _).alloc (Nat.le_refl _) _), hb2, by have := hb.size; omega⟩
  clear h1 h2 T7 T8
  go_wp2_with fail
  generalize w2.alloc (.cells #[.slice none 0 0, .int .i64 (rm : Int)] 28) = w3 at *
  generalize w2.heap.size = G at *
  go_loopw [7] (fun i wr => ∃ (k : Nat) (v : Value) (l : List Int), k ≤ ks.length ∧ i = .int .i64 k ∧ l.length ≤ k ∧ St w N G rm v l l wr) (fun i _ => ks.length - (intOf i).toNat)
  case atStart => exact ⟨0, _, [], Nat.zero_le _, rfl, Nat.le_refl _, S0.out⟩
  case round =>
    clear S0
    obtain ⟨k, v, l, hk, rfl, hlk, hS⟩ := hrel
    by_cases hlt : k < ks.length
    · obtain ⟨b, o, rfl, hi⟩ := (hr.below (hN ▸ hS.old)) (by omega)
      have hbLt : b < N := by obtain ⟨b1, o1, e1, h1⟩ := hr (by omega); injection e1 with e1; injection e1 with e1; subst e1; rw [← hN]; exact World.block_lt_of_cell? w _ (h1 k hlt).1
      have ck := (hi k hlt).1
      have cx := (hi k hlt).2
      obtain ⟨a1, cap1, rfl, hc1⟩ := hS.q.slice
      have g0 := hS.g0
      have g1 := hS.g1
      clear hi
      generalize ks[k].1 = kind at *
      generalize ks[k].2 = x at *
      have h4 : kind % 4 = 0 ∨ kind % 4 = 1 ∨ kind % 4 = 2 ∨ kind % 4 = 3 := by omega
      rcases h4 with hk0 | hk0 | hk0 | hk0
      · have e4 : (kind : Int) % 4 = 0 := by omega
        obtain ⟨d, hd⟩ : ∃ d, decide (l.length < rm) = d := ⟨_, rfl⟩
        obtain ⟨l2, hl2e, hl2⟩ : ∃ l2, (if l.length < rm then l ++ [x] else l) = l2 ∧ l2.length ≤ k + 1 := ⟨_, rfl, len_sent l x rm hlk⟩
        have T9 : Hid (∀ W, Below wr.heap.size wr W → Calls Try.prog 9 #[qv (.slice a1 l.length cap1) rm, .int .i64 x] W fun e B => ∃ a2 c2, e = .returned (.tuple #[qv (.slice a2 l2.length c2) rm, .bool d]) ∧ Q B (.slice a2 l2.length c2) l2 ∧ (∀ k, (Value.slice a2 l2.length c2).ownBlock = some k → (Value.slice a1 l.length cap1).ownBlock = some k ∨ (W.heap.size ≤ k ∧ k < B.heap.size)) ∧ Below W.heap.size W B) := fun W hW =>
          (refsend_any (.slice a1 l.length cap1) l rm x hrm1 W (hS.q.below hW)).mono fun e B ⟨v', he, hq, ho, hb⟩ => by
            rw [hl2e] at hq
            rw [hd] at he
            obtain ⟨a2, c2, rfl, _⟩ := hq.slice
            exact ⟨a2, c2, he, hq, ho, hb⟩
        have T9l : Hid (Calls Try.prog 9 #[qv (.slice a1 l.length cap1) rm, .int .i64 x] wr.drew fun e B => ∃ a2 c2, e = .returned (.tuple #[qv (.slice a2 l2.length c2) rm, .bool d]) ∧ (B.cell? ⟨G, 0, none⟩ = some (.slice a1 l.length cap1) ∧ B.cell? ⟨G, 1, none⟩ = some (.int .i64 (rm : Int)) ∧ B.cell? ⟨b, o + k * 2 + 1, none⟩ = some (.int .i64 x)) ∧ Hid (Nx wr (.slice a1 l.length cap1) (.slice a2 l2.length c2) rm B.heap.size l2 (B.alloc (.cells #[.slice a2 l2.length c2, .int .i64 (rm : Int)] 28)) ∧ Below wr.heap.size wr (B.alloc (.cells #[.slice a2 l2.length c2, .int .i64 (rm : Int)] 28)))) :=
          (T9.out wr.drew (Below.refl _ wr).drew).mono fun e B ⟨a2, c2, he, hq, ho, hb⟩ => by
            have hB : Below wr.heap.size wr B := (Below.refl _ wr).drew.trans hb
            have hs := hS.below hB
            exact ⟨a2, c2, he, ⟨hs.g0, hs.g1, (hB.cell (p := ⟨b, o + k * 2 + 1, none⟩) (World.block_lt_of_cell? wr ⟨b, o + k * 2 + 1, none⟩ cx)).trans cx⟩, Nx.late hB.size hq (fun k hk => by
              rcases ho k hk with h | h
              · exact ⟨Nat.lt_of_lt_of_le (hS.own k h).1 hB.size, .inl h⟩
              · exact ⟨h.2, .inr h.1⟩), hB.alloc hB.size _⟩
        have T9e : Hid (Calls Try.prog 9 #[qv (.slice a1 l.length cap1) rm, .int .i64 x] (wr.alloc (.cells #[.slice none 0 0, .int .i64 0] 28)).drew fun e B => ∃ a2 c2, e = .returned (.tuple #[qv (.slice a2 l2.length c2) rm, .bool d]) ∧ (B.cell? ⟨G, 0, none⟩ = some (.slice a1 l.length cap1) ∧ B.cell? ⟨G, 1, none⟩ = some (.int .i64 (rm : Int)) ∧ B.cell? ⟨b, o + k * 2 + 1, none⟩ = some (.int .i64 x)) ∧ (B.cell? ⟨wr.heap.size, 0, none⟩ = some (.slice none 0 0) ∧ B.cell? ⟨wr.heap.size, 1, none⟩ = some (.int .i64 0) ∧ B.frozen? ⟨wr.heap.size, 0, none⟩ = false ∧ B.frozen? ⟨wr.heap.size, 1, none⟩ = false) ∧ Hid (Nx wr (.slice a1 l.length cap1) (.slice a2 l2.length c2) rm wr.heap.size l2 ((B.setCell ⟨wr.heap.size, 0, none⟩ (.slice a2 l2.length c2)).setCell ⟨wr.heap.size, 1, none⟩ (.int .i64 (rm : Int))) ∧ Below wr.heap.size wr ((B.setCell ⟨wr.heap.size, 0, none⟩ (.slice a2 l2.length c2)).setCell ⟨wr.heap.size, 1, none⟩ (.int .i64 (rm : Int))))) :=
          (T9.out _ ((Below.refl _ wr).alloc (Nat.le_refl _) _).drew).mono fun e B ⟨a2, c2, he, hq, ho, hb⟩ => by
            have h0 : Below wr.heap.size wr (wr.alloc (.cells #[.slice none 0 0, .int .i64 0] 28)).drew := ((Below.refl _ wr).alloc (Nat.le_refl _) _).drew
            have hz : (wr.alloc (.cells #[.slice none 0 0, .int .i64 0] 28)).drew.heap.size = wr.heap.size + 1 := by simp
            rw [hz] at ho hb
            have hB : Below wr.heap.size wr B := h0.trans (hb.mono (by omega))
            have hs := hS.below hB
            have hg : B.heap[wr.heap.size]? = some (.cells #[.slice none 0 0, .int .i64 0] 28 (0, 0)) := (hb.block _ (by omega)).trans (World.alloc_heap_new _ _)
            exact ⟨a2, c2, he, ⟨hs.g0, hs.g1, (hB.cell (p := ⟨b, o + k * 2 + 1, none⟩) (World.block_lt_of_cell? wr ⟨b, o + k * 2 + 1, none⟩ cx)).trans cx⟩, ⟨by rw [cell_of hg]; rfl, by rw [cell_of hg]; rfl, frozen_of hg 0, frozen_of hg 1⟩, Nx.early hg (Nat.le_refl _) hq (fun k hk => by
              rcases ho k hk with h | h
              · exact ⟨Nat.lt_of_lt_of_le (hS.own k h).1 hB.size, .inl h⟩
              · exact ⟨h.2, .inr (by omega)⟩) (fun k hk => by
              rcases ho k hk with h | h
              · have := (hS.own k h).1; omega
              · omega), (hB.setCell (Nat.le_refl _) _).setCell (Nat.le_refl _) _⟩
        have T10 : Hid (∀ W2 g v2, Nx wr (.slice a1 l.length cap1) v2 rm g l2 W2 → Below wr.heap.size wr W2 → Calls Try.prog 10 #[.pointer (some ⟨N, 0, none⟩), .int .i64 x] W2 fun e B => e = .returned (.bool d) ∧ (B.cell? ⟨g, 0, none⟩ = some v2 ∧ B.cell? ⟨g, 1, none⟩ = some (.int .i64 (rm : Int)) ∧ B.cell? ⟨G, 0, none⟩ = some (.slice a1 l.length cap1) ∧ B.cell? ⟨G, 1, none⟩ = some (.int .i64 (rm : Int)) ∧ B.frozen? ⟨G, 0, none⟩ = false ∧ B.frozen? ⟨G, 1, none⟩ = false) ∧ Hid (St w N G rm v2 l2 l2 ((B.setCell ⟨G, 0, none⟩ v2).setCell ⟨G, 1, none⟩ (.int .i64 (rm : Int))))) := fun W2 g v2 hn hb =>
          ((hn.ring hS hb).1.send (hn.ring hS hb).2 x).mono fun e B ⟨he, hB, hk⟩ => by
            rw [hl2e] at hB
            rw [hd] at he
            obtain ⟨h0, h1, h2, h3⟩ := hn.next hS hb hk hB
            exact ⟨he, ⟨h0, h1, h2.g0, h2.g1, h2.fr 0, h2.fr 1⟩, h3⟩
        have cxb : Hid (∀ W2, Below wr.heap.size wr W2 → W2.cell? ⟨b, o + k * 2 + 1, none⟩ = some (.int .i64 x)) := fun W2 hB => (hB.cell (p := ⟨b, o + k * 2 + 1, none⟩) (World.block_lt_of_cell? wr ⟨b, o + k * 2 + 1, none⟩ cx)).trans cx
        have hGw : G < wr.heap.size := heap_lt hS.box
        have hbw : b < wr.heap.size := World.block_lt_of_cell? wr ⟨b, o + k * 2 + 1, none⟩ cx
        have K0 : Hid (wr.drew.cell? ⟨G, 0, none⟩ = some (.slice a1 l.length cap1) ∧ wr.drew.cell? ⟨G, 1, none⟩ = some (.int .i64 (rm : Int)) ∧ wr.drew.cell? ⟨b, o + k * 2 + 1, none⟩ = some (.int .i64 x)) := ⟨g0, g1, cx⟩
        clear T9 hS hr hN hrm hl2e hd
        go_wp2_with fail
        go_region_held3 (fun W => W.cell? ⟨G, 0, none⟩ = some (.slice a1 l.length cap1) ∧ W.cell? ⟨G, 1, none⟩ = some (.int .i64 (rm : Int)) ∧ W.cell? ⟨b, o + k * 2 + 1, none⟩ = some (.int .i64 x))
          (first | exact K0.out | assumption | exact ⟨cell_past K0.out.1, cell_past K0.out.2.1, cell_past K0.out.2.2⟩ | exact ⟨cell_past hk3.1, cell_past hk3.2.1, cell_past hk3.2.2⟩ | exact ⟨cell_far2 hk3.1 hGw, cell_far2 hk3.2.1 hGw, cell_far2 hk3.2.2 hbw⟩)
          (first
          | (go_at_call 9; refine T9l.out.mono ?_; rintro e B ⟨a2, c2, rfl, hk3, hh⟩)
          | (go_at_call 9; refine T9e.out.mono ?_; rintro e B ⟨a2, c2, rfl, hk3, ⟨q0, q1, q2, q3⟩, hh⟩))
        all_goals (
          obtain ⟨hn, hb⟩ := hh.out
          have T := Lib.hid (T10.out _ _ _ hn hb)
          have c3 := cxb.out _ hb
          clear hn hb hh T10 T9l T9e K0 cxb hk3 g0 g1 hGw hbw
          first
            | generalize B.alloc (.cells #[.slice a2 l2.length c2, .int .i64 (rm : Int)] 28) = W2 at *
            | generalize (B.setCell ⟨wr.heap.size, 0, none⟩ (.slice a2 l2.length c2)).setCell ⟨wr.heap.size, 1, none⟩ (.int .i64 (rm : Int)) = W2 at *
          go_wp2_with (go_at_call 10; refine T.out.mono ?_; rintro e B3 ⟨rfl, ⟨y0, y1, y2, y3, y4, y5⟩, hS4⟩)
          clear T y0 y1 y2 y3 y4 y5 c3
          generalize (B3.setCell ⟨G, 0, none⟩ (.slice a2 l2.length c2)).setCell ⟨G, 1, none⟩ (.int .i64 (rm : Int)) = W4 at *
          have T17 : Hid (∀ q, Calls Try.prog 17 #[.pointer (some ⟨N, 0, none⟩)] (W4.drewN q) fun e B => e = .returned (.int .i64 (l2.length : Int)) ∧ B = W4.drewN q) := fun q => (hS4.out.drewN q).has.len
          have T18 : Hid (∀ q, Calls Try.prog 18 #[.pointer (some ⟨N, 0, none⟩)] (W4.drewN q) fun e B => e = .returned (.int .i64 (rm : Int)) ∧ B = W4.drewN q) := fun q => (hS4.out.drewN q).has.room_
          have T19 : Hid (∀ q, Calls Try.prog 19 #[.pointer (some ⟨N, 0, none⟩), .slice a2 l2.length c2] (W4.drewN q) fun e B => e = .returned (.bool true) ∧ ∃ m, B = (W4.drewN q).drewN m) := fun q => stands_any _ l2 _ (hS4.out.drewN q).has (hS4.out.drewN q).q.row
          have z0 := hS4.out.g0
          have z1 := hS4.out.g1
          go_quiet (first
            | (go_at_call 17; exact Calls.quiet_of_same (T17.out _))
            | (go_at_call 18; exact Calls.quiet_of_same (T18.out _))
            | (go_at_call 19; exact Calls.quiet_of (T19.out _)))
          go_wp2
          go_roundw
          case rel => exact ⟨k + 1, _, l2, by omega, by simp, hl2, hS4.out.drewN _⟩
          case measure => simp [intOf]; omega)
      · have e4 : (kind : Int) % 4 = 1 := by omega
        obtain ⟨d, hd⟩ : ∃ d, decide (0 < l.length) = d := ⟨_, rfl⟩
        obtain ⟨y, hy⟩ : ∃ y, l.headD 0 = y := ⟨_, rfl⟩
        obtain ⟨l2, hl2e, hl2⟩ : ∃ l2, l.tail = l2 ∧ l2.length ≤ k + 1 := ⟨_, rfl, by rw [List.length_tail]; omega⟩
        have T11 : Hid (Calls Try.prog 11 #[qv (.slice a1 l.length cap1) rm] wr fun e B => ∃ a2 c2, e = .returned (.tuple #[qv (.slice a2 l2.length c2) rm, .int .i64 y, .bool d]) ∧ Hid (Nx wr (.slice a1 l.length cap1) (.slice a2 l2.length c2) rm B.heap.size l2 (B.alloc (.cells #[.slice a2 l2.length c2, .int .i64 (rm : Int)] 28)) ∧ Below wr.heap.size wr (B.alloc (.cells #[.slice a2 l2.length c2, .int .i64 (rm : Int)] 28)))) :=
          (reftake_any (.slice a1 l.length cap1) l rm wr hS.q).mono fun e B ⟨v', he, hq, ho, hb⟩ => by
            rw [hl2e] at hq
            rw [hd, hy] at he
            obtain ⟨a2, c2, rfl, _⟩ := hq.slice
            exact ⟨a2, c2, he, Nx.late hb.size hq (fun k hk => ⟨Nat.lt_of_lt_of_le (hS.own k (ho k hk)).1 hb.size, .inl (ho k hk)⟩), hb.alloc hb.size _⟩
        have T12 : Hid (∀ W2 g v2, Nx wr (.slice a1 l.length cap1) v2 rm g l2 W2 → Below wr.heap.size wr W2 → Calls Try.prog 12 #[.pointer (some ⟨N, 0, none⟩)] W2 fun e B => e = .returned (.tuple #[.int .i64 y, .bool d]) ∧ (B.cell? ⟨g, 0, none⟩ = some v2 ∧ B.cell? ⟨g, 1, none⟩ = some (.int .i64 (rm : Int)) ∧ B.cell? ⟨G, 0, none⟩ = some (.slice a1 l.length cap1) ∧ B.cell? ⟨G, 1, none⟩ = some (.int .i64 (rm : Int)) ∧ B.frozen? ⟨G, 0, none⟩ = false ∧ B.frozen? ⟨G, 1, none⟩ = false) ∧ Hid (St w N G rm v2 l2 l2 ((B.setCell ⟨G, 0, none⟩ v2).setCell ⟨G, 1, none⟩ (.int .i64 (rm : Int))))) := fun W2 g v2 hn hb =>
          (hn.ring hS hb).1.take.mono fun e B ⟨he, hB, hk⟩ => by
            rw [hl2e] at hB
            rw [hd, hy] at he
            obtain ⟨h0, h1, h2, h3⟩ := hn.next hS hb hk hB
            exact ⟨he, ⟨h0, h1, h2.g0, h2.g1, h2.fr 0, h2.fr 1⟩, h3⟩
        clear hS hr hN hrm hl2e hd hy
        go_wp2_with (first
          | (go_at_call 12; refine (T12.out _ _ _ hh.out.1 hh.out.2).mono ?_; rintro e B3 ⟨rfl, ⟨y0, y1, y2, y3, y4, y5⟩, hS4⟩)
          | (go_at_call 11; refine T11.out.mono ?_; rintro e B ⟨a2, c2, rfl, hh⟩))
        clear T11 T12 y0 y1 y2 y3 y4 y5 hh g0 g1
        generalize (B3.setCell ⟨G, 0, none⟩ (.slice a2 l2.length c2)).setCell ⟨G, 1, none⟩ (.int .i64 (rm : Int)) = W4 at *
        have T17 : Hid (∀ q, Calls Try.prog 17 #[.pointer (some ⟨N, 0, none⟩)] (W4.drewN q) fun e B => e = .returned (.int .i64 (l2.length : Int)) ∧ B = W4.drewN q) := fun q => (hS4.out.drewN q).has.len
        have T18 : Hid (∀ q, Calls Try.prog 18 #[.pointer (some ⟨N, 0, none⟩)] (W4.drewN q) fun e B => e = .returned (.int .i64 (rm : Int)) ∧ B = W4.drewN q) := fun q => (hS4.out.drewN q).has.room_
        have T19 : Hid (∀ q, Calls Try.prog 19 #[.pointer (some ⟨N, 0, none⟩), .slice a2 l2.length c2] (W4.drewN q) fun e B => e = .returned (.bool true) ∧ ∃ m, B = (W4.drewN q).drewN m) := fun q => stands_any _ l2 _ (hS4.out.drewN q).has (hS4.out.drewN q).q.row
        have z0 := hS4.out.g0
        have z1 := hS4.out.g1
        go_quiet (first
          | (go_at_call 17; exact Calls.quiet_of_same (T17.out _))
          | (go_at_call 18; exact Calls.quiet_of_same (T18.out _))
          | (go_at_call 19; exact Calls.quiet_of (T19.out _)))
        go_wp2
        go_roundw
        case rel => exact ⟨k + 1, _, l2, by omega, by simp, hl2, hS4.out.drewN _⟩
        case measure => simp [intOf]; omega
      · have e4 : (kind : Int) % 4 = 2 := by omega
        obtain ⟨d, hd⟩ : ∃ d, decide (0 ≤ x ∧ x < l.length) = d := ⟨_, rfl⟩
        obtain ⟨y, hy⟩ : ∃ y, (if 0 ≤ x then l.getD x.toNat 0 else 0) = y := ⟨_, rfl⟩
        have hll : l.length ≤ 1000000 := by omega
        have T13 : Hid (Calls Try.prog 13 #[qv (.slice a1 l.length cap1) rm, .int .i64 x] wr.drew fun e B => e = .returned (.tuple #[.int .i64 y, .bool d]) ∧ (B.cell? ⟨G, 0, none⟩ = some (.slice a1 l.length cap1) ∧ B.cell? ⟨G, 1, none⟩ = some (.int .i64 (rm : Int)) ∧ B.cell? ⟨b, o + k * 2 + 1, none⟩ = some (.int .i64 x)) ∧ Hid (St w N G rm (.slice a1 l.length cap1) l l B)) :=
          (refat_any (.slice a1 l.length cap1) l rm x wr.drew (hS.drewN 1).q hll).mono fun e B ⟨he, hb⟩ => by
            rw [hd, hy] at he
            have hB : Below wr.heap.size wr B := (Below.refl _ wr).drew.trans hb
            have hs := hS.below hB
            exact ⟨he, ⟨hs.g0, hs.g1, (hB.cell (p := ⟨b, o + k * 2 + 1, none⟩) (World.block_lt_of_cell? wr ⟨b, o + k * 2 + 1, none⟩ cx)).trans cx⟩, hs⟩
        have T14 : Hid (∀ W2, St w N G rm (.slice a1 l.length cap1) l l W2 → Calls Try.prog 14 #[.pointer (some ⟨N, 0, none⟩), .int .i64 x] W2 fun e B => e = .returned (.tuple #[.int .i64 y, .bool d]) ∧ Hid (St w N G rm (.slice a1 l.length cap1) l l B)) := fun W2 hs =>
          (hs.has.at_ x).mono fun e B ⟨he, m, hB⟩ => by
            rw [hd, hy] at he
            exact ⟨he, hB ▸ hs.drewN m⟩
        have K0 : Hid (wr.drew.cell? ⟨G, 0, none⟩ = some (.slice a1 l.length cap1) ∧ wr.drew.cell? ⟨G, 1, none⟩ = some (.int .i64 (rm : Int)) ∧ wr.drew.cell? ⟨b, o + k * 2 + 1, none⟩ = some (.int .i64 x)) := ⟨g0, g1, cx⟩
        clear hS hr hN hrm hd hy
        go_wp2_with fail
        go_region_held3 (fun W => W.cell? ⟨G, 0, none⟩ = some (.slice a1 l.length cap1) ∧ W.cell? ⟨G, 1, none⟩ = some (.int .i64 (rm : Int)) ∧ W.cell? ⟨b, o + k * 2 + 1, none⟩ = some (.int .i64 x))
          (first | exact K0.out | assumption)
          (first
          | (go_at_call 13; refine T13.out.mono ?_; rintro e W2 ⟨rfl, hk3, hh⟩))
        all_goals (
          obtain ⟨j0, j1, c3⟩ := hk3
          clear T13 K0 g0 g1
          go_wp2_with (go_at_call 14; refine (T14.out _ hh.out).mono ?_; rintro e W4 ⟨rfl, hS4⟩)
          clear hh j0 j1 c3 T14
          have T17 : Hid (∀ q, Calls Try.prog 17 #[.pointer (some ⟨N, 0, none⟩)] (W4.drewN q) fun e B => e = .returned (.int .i64 (l.length : Int)) ∧ B = W4.drewN q) := fun q => (hS4.out.drewN q).has.len
          have T18 : Hid (∀ q, Calls Try.prog 18 #[.pointer (some ⟨N, 0, none⟩)] (W4.drewN q) fun e B => e = .returned (.int .i64 (rm : Int)) ∧ B = W4.drewN q) := fun q => (hS4.out.drewN q).has.room_
          have T19 : Hid (∀ q, Calls Try.prog 19 #[.pointer (some ⟨N, 0, none⟩), .slice a1 l.length cap1] (W4.drewN q) fun e B => e = .returned (.bool true) ∧ ∃ m, B = (W4.drewN q).drewN m) := fun q => stands_any _ l _ (hS4.out.drewN q).has (hS4.out.drewN q).q.row
          have z0 := hS4.out.g0
          have z1 := hS4.out.g1
          go_quiet (first
            | (go_at_call 17; exact Calls.quiet_of_same (T17.out _))
            | (go_at_call 18; exact Calls.quiet_of_same (T18.out _))
            | (go_at_call 19; exact Calls.quiet_of (T19.out _)))
          go_wp2
          go_roundw
          case rel => exact ⟨k + 1, _, l, by omega, by simp, by omega, hS4.out.drewN _⟩
          case measure => simp [intOf]; omega)
      · have e4 : (kind : Int) % 4 = 3 := by omega
        obtain ⟨nn, hz, hnl⟩ : ∃ nn : Nat, max 0 (min x (l.length : Int)) = (nn : Int) ∧ nn ≤ l.length := ⟨(max 0 (min x (l.length : Int))).toNat, by omega, by omega⟩
        obtain ⟨a3, r3, hr3⟩ := cut_h a1 cap1 (l := l) (nn := nn) (z := (nn : Int)) hnl hc1 rfl
        obtain ⟨a2, c2, r2, hr2⟩ := cut_l a1 cap1 (l := l) (nn := nn) (z := (nn : Int)) hnl hc1 rfl
        obtain ⟨l2, hl2e⟩ : ∃ l2, l.drop nn = l2 := ⟨_, rfl⟩
        have hl2 : l2.length ≤ k + 1 := by rw [← hl2e, List.length_drop]; omega
        rw [hl2e] at r2
        have T16 : Hid (∀ W, St w N G rm (.slice a1 l.length cap1) l l W → W.cell? ⟨b, o + k * 2 + 1, none⟩ = some (.int .i64 x) → Calls Try.prog 16 #[.pointer (some ⟨N, 0, none⟩), .int .i64 x] W fun e B => ∃ vd, e = .returned vd ∧ (B.cell? ⟨G, 0, none⟩ = some (.slice a1 l.length cap1) ∧ B.cell? ⟨b, o + k * 2 + 1, none⟩ = some (.int .i64 x)) ∧ Hid (Row B vd (l.take nn) ∧ St w N G rm (.slice a1 l.length cap1) l l2 B)) := fun W hs hxc => by
          by_cases hx0 : x < 1
          · obtain rfl : nn = 0 := by omega
            refine (drained_zero _ x hx0 W).mono fun e B ⟨he, hb⟩ => ?_
            have hs' := hs.below hb
            refine ⟨_, he, ⟨hs'.g0, (hb.cell (p := ⟨b, o + k * 2 + 1, none⟩) (World.block_lt_of_cell? W ⟨b, o + k * 2 + 1, none⟩ hxc)).trans hxc⟩, by rw [List.take_zero]; exact Row.nil B, ?_⟩
            rw [← hl2e, List.drop_zero]
            exact hs'
          · obtain ⟨m, rfl⟩ : ∃ m : Nat, x = (m : Int) := ⟨x.toNat, by omega⟩
            refine (hs.has.drained m (by omega)).mono fun e B ⟨vd, he, hv, hB, hk⟩ => ?_
            have hs' := hs.ring hk hB
            obtain ⟨et, ed⟩ : l.take m = l.take nn ∧ l.drop m = l.drop nn := by
              by_cases hm : m ≤ l.length
              · obtain rfl : nn = m := by omega
                exact ⟨rfl, rfl⟩
              · obtain rfl : nn = l.length := by omega
                exact ⟨(take_all l (by omega)).symm, (drop_all l (by omega)).symm⟩
            rw [ed, hl2e] at hs'
            exact ⟨vd, he, ⟨hs'.g0, (hk.cell (p := ⟨b, o + k * 2 + 1, none⟩) (World.block_lt_of_cell? W ⟨b, o + k * 2 + 1, none⟩ hxc) (.inl hbLt)).trans hxc⟩, et ▸ hv, hs'⟩
        have T15 : Hid (∀ B vd, Row B vd (l.take nn) ∧ St w N G rm (.slice a1 l.length cap1) l l2 B → (B.cell? ⟨b, o + k * 2 + 1, none⟩ = some (.int .i64 x)) → Calls Try.prog 15 #[vd, .slice a3 nn cap1] B fun e B' => e = .returned (.bool true) ∧ (B'.cell? ⟨G, 0, none⟩ = some (.slice a1 l.length cap1) ∧ B'.cell? ⟨b, o + k * 2 + 1, none⟩ = some (.int .i64 x)) ∧ B'.frozen? ⟨G, 0, none⟩ = false ∧ Hid (St w N G rm (.slice a2 l2.length c2) l2 l2 (B'.setCell ⟨G, 0, none⟩ (.slice a2 l2.length c2)))) := fun B vd ⟨hrow, hs⟩ hxc =>
          (same_any vd _ (l.take nn) B hrow (hr3 B hs.q) (by rw [List.length_take]; omega)).mono fun e B' ⟨he, m, hB⟩ => by
            subst hB
            have hs' := hs.drewN m
            exact ⟨he, ⟨hs'.g0, hxc⟩, hs'.fr 0, hs'.cut (hl2e ▸ (hr2 _ hs'.q).1) (hl2e ▸ (hr2 _ hs'.q).2)⟩
        have H0 := Lib.hid hS
        clear hS hr hN hrm hl2e hr3 hr2
        go_wp2_with fail
        go_quiet (fail)
        go_wp2_with fail
        have K0 : Hid ((wr.drewN nq).drew.cell? ⟨G, 0, none⟩ = some (.slice a1 l.length cap1) ∧ (wr.drewN nq).drew.cell? ⟨b, o + k * 2 + 1, none⟩ = some (.int .i64 x)) := ⟨g0, cx⟩
        have T16a := Lib.hid (T16.out (wr.drewN nq).drew ((H0.out.drewN nq).drewN 1) cx)
        go_region_held3 (fun W => W.cell? ⟨G, 0, none⟩ = some (.slice a1 l.length cap1) ∧ W.cell? ⟨b, o + k * 2 + 1, none⟩ = some (.int .i64 x))
          (first | exact K0.out | assumption)
          (first
          | (go_at_call 15; refine (T15.out _ _ hh.out hk3.2).mono ?_; rintro e B4 ⟨rfl, hk4, f4, hS4⟩)
          | (go_at_call 16; refine T16a.out.mono ?_; rintro e B3 ⟨vd, rfl, hk3, hh⟩))
        all_goals (
          obtain ⟨j0, c3⟩ := hk4
          clear T15 T16 T16a hh K0 H0 g0 g1 hk3
          go_wp2_with fail
          clear j0 c3 f4 r3 r2
          generalize B4.setCell ⟨G, 0, none⟩ (.slice a2 l2.length c2) = W4 at *
          have T17 : Hid (∀ q, Calls Try.prog 17 #[.pointer (some ⟨N, 0, none⟩)] (W4.drewN q) fun e B => e = .returned (.int .i64 (l2.length : Int)) ∧ B = W4.drewN q) := fun q => (hS4.out.drewN q).has.len
          have T18 : Hid (∀ q, Calls Try.prog 18 #[.pointer (some ⟨N, 0, none⟩)] (W4.drewN q) fun e B => e = .returned (.int .i64 (rm : Int)) ∧ B = W4.drewN q) := fun q => (hS4.out.drewN q).has.room_
          have T19 : Hid (∀ q, Calls Try.prog 19 #[.pointer (some ⟨N, 0, none⟩), .slice a2 l2.length c2] (W4.drewN q) fun e B => e = .returned (.bool true) ∧ ∃ m, B = (W4.drewN q).drewN m) := fun q => stands_any _ l2 _ (hS4.out.drewN q).has (hS4.out.drewN q).q.row
          have z0 := hS4.out.g0
          have z1 := hS4.out.g1
          go_quiet (first
            | (go_at_call 17; exact Calls.quiet_of_same (T17.out _))
            | (go_at_call 18; exact Calls.quiet_of_same (T18.out _))
            | (go_at_call 19; exact Calls.quiet_of (T19.out _)))
          go_wp2
          go_roundw
          case rel => exact ⟨k + 1, _, l2, by omega, by simp, hl2, hS4.out.drewN _⟩
          case measure => simp [intOf]; omega)
    · obtain rfl : k = ks.length := by omega
      obtain ⟨a1, cap1, rfl, hc1⟩ := hS.q.slice
      have hll : l.length ≤ 1000000 := by omega
      have htk : l.take 50 = l := List.take_of_length_le (by omega)
      have T20 : Hid (Calls Try.prog 20 #[.pointer (some ⟨N, 0, none⟩), .int .i64 50] wr.drew fun e B => ∃ vt, e = .returned vt ∧ B.cell? ⟨G, 0, none⟩ = some (.slice a1 l.length cap1) ∧ Hid (Row B vt l ∧ St w N G rm (.slice a1 l.length cap1) l l B)) :=
        ((hS.drewN 1).has.told 50 (by omega)).mono fun e B ⟨vt, he, hv, hb⟩ => by
          rw [htk] at hv
          have hs := (hS.drewN 1).below hb
          exact ⟨vt, he, hs.g0, hv, hs⟩
      have T15 : Hid (∀ B vt, Row B vt l ∧ St w N G rm (.slice a1 l.length cap1) l l B → Calls Try.prog 15 #[vt, .slice a1 l.length cap1] B fun e B' => e = .returned (.bool true) ∧ B'.cell? ⟨G, 0, none⟩ = some (.slice a1 l.length cap1) ∧ Hid (St w N G rm (.slice a1 l.length cap1) l l B')) := fun B vt ⟨hrow, hs⟩ =>
        (same_any vt _ l B hrow hs.q.row hll).mono fun e B' ⟨he, m, hB⟩ => by
          subst hB
          exact ⟨he, (hs.drewN m).g0, hs.drewN m⟩
      have T6 : Hid (∀ B, St w N G rm (.slice a1 l.length cap1) l l B → Calls Try.prog 6 #[] B fun e B' => e = .returned (.bool true) ∧ B'.cell? ⟨G, 0, none⟩ = some (.slice a1 l.length cap1) ∧ Hid (Below N w B')) := fun B hs =>
        (awake_any B).mono fun e B' ⟨he, hb⟩ => ⟨he, (hs.below hb).g0, (hs.below hb).old⟩
      have K0 : Hid (wr.drew.cell? ⟨G, 0, none⟩ = some (.slice a1 l.length cap1)) := hS.g0
      clear hS hr hN hrm htk
      go_wp2_with fail
      go_region_held3 (fun W => W.cell? ⟨G, 0, none⟩ = some (.slice a1 l.length cap1))
        (first | exact K0.out | assumption)
        (first
        | (go_at_call 6; refine (T6.out _ h5.out).mono ?_; rintro e B6 ⟨rfl, k6, h6⟩)
        | (go_at_call 15; refine (T15.out _ _ h4.out).mono ?_; rintro e B5 ⟨rfl, k5, h5⟩)
        | (go_at_call 20; refine T20.out.mono ?_; rintro e B4 ⟨vt, rfl, k4, h4⟩))
      all_goals (
        go_wp2
        go_ret
        exact ⟨rfl, h6.out⟩)
set_option maxRecDepth 100000 in
theorem plays_walk (room : Int) (a : Option Addr) (cap : Nat) (ks : List (Nat × Int)) (w : World) (hr : Steps w a ks) :
    Calls Try.prog 3 #[.int .i64 room, .slice a ks.length cap] w fun e B => e = .returned (.bool true) ∧ Below w.heap.size w B := by
  by_cases hl : ks.length ≤ 40
  · exact plays_some room a cap ks w hl hr
  · have hl' : (40 : Int) < (ks.length : Int) := by omega
    clear hr hl
    go_enter Try.func3, Try.ntmps3
    go_wp2_with fail
    refine (awake_any _).mono ?_
    rintro e w1 ⟨rfl, h1⟩
    go_wp2
    go_ret
    exact ⟨rfl, h1⟩
end Go.Proofs.Ytgkiekidmadabaa
