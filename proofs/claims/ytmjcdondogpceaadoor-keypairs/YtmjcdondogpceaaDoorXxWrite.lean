/-
  Write of a digest, by its contract: bytes put behind what was written.
-/
import Derived.Test.YtmjcdondogpceaaDoorXxDigest
import Derived.Laws.CopyOwn
namespace Go.Proofs.YtmjcdondogpceaaDoor.xx
open Go.ChangeShapes Go.WideShapes Go.ChangeAt Go.RowKit
theorem Only.setRow {g : Nat} (w : World) (cs : Array Value) : Only g w (w.setRow g cs) :=
  ⟨rfl, rfl, rfl, by simp [World.setRow], fun k hk => setRow_other w g k cs hk⟩
def b8 (l : List Nat) : List Value := l.map fun b : Nat => Value.int .u8 (b : Int)
theorem Row.onlyPos {w w' : World} {g : Nat} {a : Option Addr} {n : Nat} {l : List Nat} (h : Row w a n l) (ho : Only g w w') (ha : 0 < n → ∀ x, a = some x → x.block ≠ g) : Row w' a n l := by
  rcases Nat.eq_zero_or_pos n with h0 | h0
  · exact ⟨h.1, fun hn => absurd hn (by omega)⟩
  · exact h.only ho (ha h0)
theorem b8_len (l : List Nat) : (b8 l).length = l.length := by simp [b8]
theorem b8_one (l : List Nat) : ∀ v ∈ b8 l, v.oneCell' = true := by
  intro v hv
  obtain ⟨b, _, rfl⟩ := List.mem_map.mp hv
  rfl
theorem dig_len (s : Nat → Nat) (r : List Nat) (n : Nat) : (dig s r n).length = r.length + 5 := by simp [dig]
theorem dig_splice (s : Nat → Nat) (r c : List Nat) (n k : Nat) (h : k + c.length ≤ r.length) : splice (dig s r n) (4 + k) (b8 c) = dig s (splice r k c) n := by
  unfold splice dig b8
  rw [Nat.add_comm 4 k, List.length_map]
  have e : k + 4 + c.length = (k + c.length) + 4 := by omega
  rw [e]
  simp only [List.cons_append, List.nil_append, List.take_succ_cons, List.drop_succ_cons, List.map_append, List.map_take, List.map_drop]
  rw [List.take_append_of_le_length (by rw [List.length_map]; omega), List.drop_append_of_le_length (by rw [List.length_map]; omega)]
  simp
theorem dig_count (s : Nat → Nat) (r : List Nat) (n m : Nat) (h : r.length = 32) : (dig s r n).set 36 (.int .i64 m) = dig s r m := by
  unfold dig
  simp only [List.cons_append, List.nil_append, List.set_cons_succ]
  rw [List.set_append_right _ _ (by rw [List.length_map]; omega), List.length_map, h]
  rfl
theorem Dig.count {w : World} {g : Nat} {s : Nat → Nat} {r : List Nat} {n : Nat} (h : Dig w g s r n) (m : Nat) : Dig (w.setCell ⟨g, 36, none⟩ (.int .i64 (m : Nat))) g s r m := by
  refine ⟨?_, h.len, h.small, h.word⟩
  rw [setCell_eq_setRow w g 36 _ _ _ _ h.block, setRow_heap w g _ _ _ _ h.block, ← dig_count s r n m h.len]
  simp
theorem bytes_splice {r c : List Nat} (hr : bytes r) (hc : bytes c) (k : Nat) : bytes (splice r k c) := bytes_app (bytes_take hr k) (bytes_app hc (bytes_drop hr _))
theorem Dig.splice {w w' : World} {g : Nat} {s : Nat → Nat} {r c : List Nat} {n k : Nat} (h : Dig w g s r n) (hk : k + c.length ≤ 32) (hc : bytes c) (hw : w'.heap[g]? = some (.cells (splice (dig s r n) (4 + k) (b8 c)).toArray 60 (0, 0))) : Dig w' g s (Go.splice r k c) n := by
  refine ⟨?_, ?_, bytes_splice h.small hc k, h.word⟩
  · rw [hw, dig_splice s r c n k (by rw [h.len]; exact hk)]
  · rw [length_splice _ _ _ (by rw [h.len]; exact hk), h.len]
theorem Row.src {w : World} {a : Option Addr} {n : Nat} {l : List Nat} (h : Row w a n l) (k : Nat) (hk : k ≤ n) (hp : 0 < k) : ∃ ad, a = some ad ∧ ∀ j v, (b8 (l.take k))[j]? = some v → w.cell? (ad.add j) = some v := by
  obtain ⟨b, off, rfl, hc⟩ := h.2 (by omega)
  refine ⟨_, rfl, fun j v hv => ?_⟩
  have hj : j < k := by
    have := (List.getElem?_eq_some_iff.1 hv).1
    rw [b8_len, List.length_take] at this
    omega
  have e : (⟨b, off, none⟩ : Addr).add j = ⟨b, off + j, none⟩ := by unfold Addr.add; split <;> simp_all
  rw [e, hc j (by omega), ← hv]
  simp [b8, hj, List.getElem?_eq_getElem (show j < l.length from by have := h.1; omega)]
theorem rest_from (g k : Nat) (hk : k < 32) (W : World) : (Instr.sliceAt 58 (.pointer (some ⟨g, 4, none⟩)) (some (.int .i64 k)) none none).run Tryd.prog W = .ok (.slice (some ⟨g, 4 + k, none⟩) (32 - k) (32 - k)) W := by
  have e : (⟨g, 4, none⟩ : Addr).add k = ⟨g, 4 + k, none⟩ := by unfold Addr.add; split <;> simp_all
  have hl : Tryd.prog.arrayLen 58 = 32 := by kernel_rfl
  have hs : (sizeOf (Tryd.prog.elem 58)).run Tryd.prog W = .ok 1 W := by kernel_rfl
  rw [run_sliceAt_array_l W 58 _ (by kernel_rfl) .i64 k (by omega) (by rw [hl]; omega), hs, hl]
  simp [slicedAt, show ¬ 32 = k from by omega, e, Result.andThen]
theorem copy_run {W : World} {g : Nat} {s : Nat → Nat} {r : List Nat} {n : Nat} (hd : Dig W g s r n) {a : Option Addr} {m cap : Nat} {c : List Nat} (hr : Row W a m c) (hc : bytes c) (k dcap t : Nat) (hk : k < 32) (ht : Nat.min m (32 - k) = t) :
    ∃ W', (Builtin.copy_ #[22, 22] 3 #[.slice (some ⟨g, 4 + k, none⟩) (32 - k) dcap, .slice a m cap]).run Tryd.prog W = .ok (.int .i64 (t : Nat)) W' ∧ Dig W' g s (splice r k (c.take t)) n ∧ Only g W W' := by
  have hu : Tryd.prog.underlying 22 = some (.slice 5) := Tryd.underlying22
  have hz : (Tryd.prog.info? 5).map (·.size) = some 1 := by kernel_rfl
  have htm : t ≤ m := by have : Nat.min m (32 - k) ≤ m := Nat.min_le_left _ _; omega
  have htk : t ≤ 32 - k := by have : Nat.min m (32 - k) ≤ 32 - k := Nat.min_le_right _ _; omega
  have hlen : (c.take t).length = t := by rw [List.length_take, hr.1]; omega
  by_cases h0 : t = 0
  · subst h0
    refine ⟨W, run_copy_none W 22 22 3 5 _ _ _ _ _ _ hu hz ht, ?_, Only.refl _ _⟩
    have e : splice r k (c.take 0) = r := by simp [splice]
    rw [e]
    exact hd
  · obtain ⟨ad, rfl, hsrc⟩ := hr.src t htm (by omega)
    have hrun := run_copy_row (P := Tryd.prog) W 22 22 3 5 g (4 + k) (32 - k) dcap ad m cap (dig s r n).toArray 60 (b8 (c.take t)) hu hz hd.block (by rw [b8_len, hlen, ht]) hsrc (by rw [b8_len, hlen, List.size_toArray, dig_len, hd.len]; omega) (b8_one _)
    have hgi : goInt ((b8 (c.take t)).length : Nat) = .int .i64 (t : Nat) := by rw [b8_len, hlen]; rfl
    rw [hgi] at hrun
    refine ⟨_, hrun, hd.splice (c := c.take t) (by rw [hlen]; omega) (bytes_take hc t) ?_, Only.setRow _ _⟩
    rw [setRow_heap W g _ _ 60 _ hd.block]
    simp [Go.splice]
/-- nil: nothing is done. -/
theorem write_nil (a : Option Addr) (m cap : Nat) (w : World) : Calls Tryd.prog 31 #[.pointer none, .slice a m cap] w fun e w' => e = .returned (.tuple #[]) ∧ w = w' := by
  go_enter Tryd.func31, Tryd.ntmps31
  go_wp2
  refine bodyPost_ret (results_none rfl _ _ _) rfl ?_
  exact ⟨rfl, rfl⟩
set_option maxHeartbeats 800000 in
set_option maxRecDepth 100000 in
theorem write_few (g : Nat) (s : Nat → Nat) (r : List Nat) (n : Nat) (a : Option Addr) (m cap : Nat) (c : List Nat) (w : World) (hd : Dig w g s r n) (hr : Row w a m c) (hc : bytes c) (ha : 0 < m → ∀ x, a = some x → x.block ≠ g) (hn : n + m ≤ 4611686018427387904)
    (k : Nat) (hk : n % 32 = k) (hfew : k + m < 32) :
    Calls Tryd.prog 31 #[.pointer (some ⟨g, 0, none⟩), .slice a m cap] w fun e w' => e = .returned (.tuple #[]) ∧ Dig w' g s (splice r k c) (n + m) ∧ Only g w w' := by
  have hk32 : (n : Int) % 32 = (k : Int) := by omega
  have hsl := rest_from g k (by omega)
  have c36 := hd.c36
  have f36 := hd.frozen 36
  have ho1 : Only g w (w.setCell ⟨g, 36, none⟩ (.int .i64 ((n + m : Nat) : Int))) := (Only.refl g w).setCell 36 _
  obtain ⟨W', hcp, hd', ho⟩ := copy_run (cap := cap) (hd.count (n + m)) (hr.onlyPos ho1 ha) hc k (32 - k) m (by omega) (Nat.min_eq_left (by omega))
  rw [show c.take m = c from List.take_of_length_le (by have := hr.1; omega)] at hd'
  rw [show ((n + m : Nat) : Int) = (n : Int) + m from by simp] at hcp
  have HD := Lib.hid hd'
  have HO := Lib.hid (ho1.trans ho)
  clear hd hr hc ha hk ho1 ho hd'
  go_enter Tryd.func31, Tryd.ntmps31
  go_wp2
  refine bodyPost_ret (results_none rfl _ _ _) rfl ?_
  exact ⟨rfl, HD.out, HO.out⟩
theorem Row.drop_if {w : World} {b off n cap k : Nat} {l : List Nat} (h : Row w (some ⟨b, off, none⟩) n l) (hk : k ≤ n) (hn : n ≤ cap) : Row w (if cap = k then some ⟨b, off, none⟩ else some ⟨b, off + k, none⟩) (n - k) (l.drop k) := by
  by_cases e : cap = k
  · rw [if_pos e]
    refine ⟨by rw [List.length_drop, h.1], fun hp => absurd hp (by omega)⟩
  · rw [if_neg e]
    exact h.drop hk
theorem if_block {b off cap k g : Nat} (hb : b ≠ g) : ∀ x, (if cap = k then some (⟨b, off, none⟩ : Addr) else some ⟨b, off + k, none⟩) = some x → x.block ≠ g := by
  intro x hx
  split at hx <;> (injection hx with hx; subst hx; exact hb)
set_option maxHeartbeats 1600000 in
set_option maxRecDepth 100000 in
theorem write_many (g : Nat) (s : Nat → Nat) (r : List Nat) (n : Nat) (a : Option Addr) (m cap : Nat) (c : List Nat) (w : World) (hd : Dig w g s r n) (hr : Row w a m c) (hc : bytes c) (ha : 0 < m → ∀ x, a = some x → x.block ≠ g) (hn : n + m ≤ 4611686018427387904) (hcap : m ≤ cap)
    (k t : Nat) (hk : n % 32 = k) (ht : k + t = 32) (hmany : t ≤ m) :
    Calls Tryd.prog 31 #[.pointer (some ⟨g, 0, none⟩), .slice a m cap] w fun e w' => e = .returned (.tuple #[]) ∧
      (∃ r', Dig w' g (run (blk s (splice r k (c.take t))) (c.drop t)) r' (n + m) ∧ r'.take ((c.drop t).length % 32) = left (c.drop t)) ∧ Only g w w' := by
  have hk32 : (n : Int) % 32 = (k : Int) := by omega
  replace ha := ha (by omega)
  have hsl := rest_from g k (by omega)
  have c36 := hd.c36
  have f36 := hd.frozen 36
  have ho1 : Only g w (w.setCell ⟨g, 36, none⟩ (.int .i64 ((n + m : Nat) : Int))) := (Only.refl g w).setCell 36 _
  obtain ⟨W', hcp, hd', ho⟩ := copy_run (cap := cap) (hd.count (n + m)) (hr.only ho1 ha) hc k (32 - k) t (by omega) ((Nat.min_eq_right (by omega)).trans (by omega))
  rw [show ((n + m : Nat) : Int) = (n : Int) + m from by simp] at hcp
  have hrow := (hr.only ho1 ha).only ho ha
  obtain ⟨b, off, rfl, hx⟩ := hrow.2 (by omega)
  clear hx
  have hbg : b ≠ g := ha _ rfl
  obtain ⟨A, hA, hAr, hAb⟩ : ∃ A, (if cap = t then some (⟨b, off, none⟩ : Addr) else some ⟨b, off + t, none⟩) = A ∧ Row W' A (m - t) (c.drop t) ∧ ∀ x, A = some x → x.block ≠ g := ⟨_, rfl, hrow.drop_if hmany hcap, if_block hbg⟩
  have HD := Lib.hid hd'
  have HO := Lib.hid (ho1.trans ho)
  have HC := Lib.hid hc
  have HAR := Lib.hid hAr
  have HAB := Lib.hid hAb
  clear hd hr hc ha hk ho1 ho hd' hrow hAr hAb
  generalize hr1 : splice r k (c.take t) = r1 at *
  clear hr1
  have HC1 := Lib.hid (bytes_drop HC.out t)
  clear HC
  generalize c.drop t = X at *
  go_enter Tryd.func31, Tryd.ntmps31
  go_wp2_with fail
  refine (addBlock_blk g s r1 (n + m) _ _ r1 _ HD.out HD.out.row HD.out.small (by omega) (fun x hx => .inr (by injection hx with hx; subst hx; exact Nat.le_refl 4))).mono ?_
  rintro e w1 ⟨rfl, hd1, ho1⟩
  have HD1 := Lib.hid hd1
  have HO1 := Lib.hid ho1
  clear hd1 ho1
  have HR1 := Lib.hid (HAR.out.only HO1.out HAB.out)
  have HO2 := Lib.hid (HO.out.trans HO1.out)
  go_wp2_with fail
  clear hcp hsl hA HAR HD HO HO1
  go_loopw [1] (fun v wr => ∃ (A' : Option Addr) (m' cap' : Nat) (c' : List Nat) (s' : Nat → Nat), v = .slice A' m' cap' ∧ m' ≤ cap' ∧ Row wr A' m' c' ∧ bytes c' ∧ (∀ x, A' = some x → x.block ≠ g) ∧ Dig wr g s' r1 (n + m) ∧ Only g w wr ∧ run s' c' = run (blk s r1) X ∧ left c' = left X) (fun v _ => lenOf v)
  case atStart => exact ⟨A, m - t, cap - t, X, blk s r1, rfl, by omega, HR1.out, HC1.out, HAB.out, HD1.out, HO2.out, rfl, rfl⟩
  case round =>
    obtain ⟨A', m', cap', c', s', rfl, hmc, hr', hc', hb', hd', ho', hrun, hleft⟩ := hrel
    have HR' := Lib.hid hr'
    have HC' := Lib.hid hc'
    have HB' := Lib.hid hb'
    have HD' := Lib.hid hd'
    have HO' := Lib.hid ho'
    have HRUN := Lib.hid hrun
    have HLEFT := Lib.hid hleft
    clear hr' hc' hb' hd' ho' hrun hleft HR1 HC1 HD1 HO2
    by_cases h32 : 32 ≤ m'
    · obtain ⟨b', off', rfl, hx⟩ := HR'.out.2 (by omega)
      clear hx
      have hbg' : b' ≠ g := HB'.out _ rfl
      obtain ⟨A2, hA2⟩ : ∃ A2, (if cap' = 32 then some (⟨b', off', none⟩ : Addr) else some ⟨b', off' + 32, none⟩) = A2 := ⟨_, rfl⟩
      go_wp2_with fail
      refine (addBlock_blk g s' r1 (n + m) _ _ (c'.take 32) _ HD'.out (HR'.out.take h32) (bytes_take HC'.out 32) (by omega) (fun x hx => .inl (HB'.out x hx))).mono ?_
      rintro e w2 ⟨rfl, hd2, ho2⟩
      have HD2 := Lib.hid hd2
      have HO2 := Lib.hid ho2
      clear hd2 ho2
      go_wp2
      have HA2 := Lib.hid hA2
      clear hA2
      go_roundw
      case rel => exact ⟨A2, m' - 32, cap' - 32, c'.drop 32, blk s' (c'.take 32), by go_num, by omega, by rw [← HA2.out]; exact (HR'.out.only HO2.out HB'.out).drop_if h32 hmc, bytes_drop HC'.out 32, by rw [← HA2.out]; exact if_block hbg', HD2.out, HO'.out.trans HO2.out, by rw [← run_big s' c' (by have := HR'.out.1; omega)]; exact HRUN.out, by rw [left_big c' (by have := HR'.out.1; omega)]; exact HLEFT.out⟩
      case measure => simp [lenOf]; omega
    · obtain ⟨W2, hcp, hd2, ho2⟩ := copy_run (cap := cap') HD'.out HR'.out HC'.out 0 32 m' (by omega) (Nat.min_eq_left (by omega))
      simp only [Nat.add_zero, Nat.sub_zero] at hcp
      rw [show c'.take m' = c' from List.take_of_length_le (by have := HR'.out.1; omega)] at hd2
      have hs : s' = run (blk s r1) X := by rw [← HRUN.out, run_small s' c' (by have := HR'.out.1; omega)]
      have hl : c' = left X := by rw [← HLEFT.out, left_small c' (by have := HR'.out.1; omega)]
      have hlen : m' = X.length % 32 := by rw [← left_len, ← hl]; exact HR'.out.1.symm
      have HD2 := Lib.hid hd2
      have HO2 := Lib.hid (HO'.out.trans ho2)
      have HS := Lib.hid hs
      have HL := Lib.hid hl
      have HN := Lib.hid hlen
      clear hd2 ho2 hs hl hlen
      go_wp2
      go_end0
      refine ⟨rfl, ⟨splice r1 0 c', ?_, ?_⟩, HO2.out⟩
      · rw [← HS.out]; exact HD2.out
      · rw [← HL.out, ← HN.out]
        unfold splice
        rw [List.take_zero, List.nil_append, List.take_append_of_le_length (by have := HR'.out.1; omega), List.take_of_length_le (by have := HR'.out.1; omega)]
/-- the digest at g holds the bytes l by seed. -/
def Holds (w : World) (g seed : Nat) (l : List Nat) : Prop := ∃ r, Dig w g (run (seedS seed) l) r l.length ∧ r.take (l.length % 32) = left l
theorem write_any (g seed : Nat) (l : List Nat) (a : Option Addr) (m cap : Nat) (c : List Nat) (w : World) (hh : Holds w g seed l) (hr : Row w a m c) (hc : bytes c) (ha : 0 < m → ∀ x, a = some x → x.block ≠ g) (hn : l.length + m ≤ 4611686018427387904) (hcap : m ≤ cap) :
    Calls Tryd.prog 31 #[.pointer (some ⟨g, 0, none⟩), .slice a m cap] w fun e w' => e = .returned (.tuple #[]) ∧ Holds w' g seed (l ++ c) ∧ Only g w w' := by
  obtain ⟨r, hd, hleft⟩ := hh
  have hlen : (l ++ c).length = l.length + m := by rw [List.length_append, hr.1]
  have hll := left_len l
  have hcl := hr.1
  by_cases hfew : l.length % 32 + m < 32
  · refine (write_few g _ r l.length a m cap c w hd hr hc ha hn (l.length % 32) rfl hfew).mono ?_
    rintro e w' ⟨he, hd', ho⟩
    refine ⟨he, ⟨splice r (l.length % 32) c, ?_, ?_⟩, ho⟩
    · rw [run_app c l.length (seedS seed) l (Nat.le_refl _), run_small _ (left l ++ c) (by rw [List.length_append]; omega), hlen]
      exact hd'
    · rw [left_app, left_small (left l ++ c) (by rw [List.length_append]; omega), hlen, ← hleft]
      unfold splice
      rw [← List.append_assoc, List.take_append_of_le_length (by rw [List.length_append, List.length_take, hd.len]; omega), List.take_of_length_le (by rw [List.length_append, List.length_take, hd.len]; omega)]
  · refine (write_many g _ r l.length a m cap c w hd hr hc ha hn hcap (l.length % 32) (32 - l.length % 32) rfl (by omega) (by omega)).mono ?_
    rintro e w' ⟨he, ⟨r', hd', hl'⟩, ho⟩
    generalize ht : 32 - l.length % 32 = t at *
    have e1 : splice r (l.length % 32) (c.take t) = (left l ++ c).take 32 := by
      unfold splice
      rw [List.drop_eq_nil_of_le (by rw [List.length_take, hd.len]; omega), List.append_nil, hleft, List.take_append, List.take_of_length_le (l := left l) (by omega), hll, ht]
    have e2 : c.drop t = (left l ++ c).drop 32 := by
      rw [List.drop_append, show (left l).drop 32 = [] from List.drop_eq_nil_of_le (by omega), List.nil_append, hll, ht]
    have h32 : 32 ≤ (left l ++ c).length := by rw [List.length_append]; omega
    refine ⟨he, ⟨r', ?_, ?_⟩, ho⟩
    · rw [run_app c l.length (seedS seed) l (Nat.le_refl _), run_big _ (left l ++ c) h32, hlen, ← e1, ← e2]
      exact hd'
    · rw [left_app, ← left_big (left l ++ c) h32, ← e2, ← hl', hlen, List.length_drop]
      congr 1
      omega
theorem Holds.only {w w' : World} {g seed : Nat} {l : List Nat} (h : Holds w g seed l) (hb : w'.heap[g]? = w.heap[g]?) : Holds w' g seed l := by
  obtain ⟨r, hd, hl⟩ := h
  exact ⟨r, ⟨hb.trans hd.block, hd.len, hd.small, hd.word⟩, hl⟩
end Go.Proofs.YtmjcdondogpceaaDoor.xx
