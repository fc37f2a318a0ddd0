/-
  TapeReads walked: for every slice of bytes and every slice of ints it returns true; what was in memory stays.
-/
import Derived.Test.YtmjboaflbjnpcaaAw
namespace Go.Proofs.Ytmjboaflbjnpcaa
open Go.RowKit
/-- the program's tape and the document's, side by side. -/
structure Both (w : World) (D X c : Nat) (q p : Option Addr) (bs : List Nat) (cap a v : Nat) (V : World) : Prop where
  old : Below w.heap.size w V
  tape : Tp 38 c V D q bs a
  doc : Tp 29 cap V X p bs v
  hD : w.heap.size ≤ D
  hX : w.heap.size ≤ X
  ne : D ≠ X
  hq : ∀ b o, q = some ⟨b, o, none⟩ → 0 < bs.length → b ≠ X
  hp : ∀ b o, p = some ⟨b, o, none⟩ → 0 < bs.length → b < w.heap.size
namespace Both
variable {w V : World} {D X c : Nat} {q p : Option Addr} {bs : List Nat} {cap a v : Nat}
theorem of_tape {a' : Nat} {B : World} (h : Both w D X c q p bs cap a v V) (g : Go1 38 c V D q bs a' B) : Both w D X c q p bs cap a' v B :=
  ⟨h.old.trans (g.2.below (fun k hk e => by have := h.hD; omega) h.old.size), g.1, h.doc.keep g.2 (fun e => h.ne e.symm) (fun b o hb h0 e => by have := h.hp b o hb h0; have := h.hD; omega), h.hD, h.hX, h.ne, h.hq, h.hp⟩
theorem of_doc {v' : Nat} {B : World} (h : Both w D X c q p bs cap a v V) (g : Go1 29 cap V X p bs v' B) : Both w D X c q p bs cap a v' B :=
  ⟨h.old.trans (g.2.below (fun k hk e => by have := h.hX; omega) h.old.size), h.tape.keep g.2 h.ne h.hq, g.1, h.hD, h.hX, h.ne, h.hq, h.hp⟩
theorem below {B : World} (h : Both w D X c q p bs cap a v V) (g : Below V.heap.size V B) : Both w D X c q p bs cap a v B :=
  ⟨h.old.trans (g.mono h.old.size), h.tape.below g, h.doc.below g, h.hD, h.hX, h.ne, h.hq, h.hp⟩
theorem drewN (h : Both w D X c q p bs cap a v V) (n : Nat) : Both w D X c q p bs cap a v (V.drewN n) := h.below (below_drewN V n)
theorem i7 (h : Both w D X c q p bs cap a v V) : Calls Try.prog 7 #[.pointer (some ⟨D, 0, none⟩)] V fun e B => e = .returned (.int .i64 (iv bs a)) ∧ Hid (Both w D X c q p bs cap (ia bs a) v B) :=
  (int7 h.tape).mono fun _ _ ⟨he, g⟩ => ⟨he, h.of_tape g.out⟩
theorem i8 (h : Both w D X c q p bs cap a v V) : Calls Try.prog 8 #[.pointer (some ⟨X, 0, none⟩)] V fun e B => e = .returned (.int .i64 (iv bs v)) ∧ Hid (Both w D X c q p bs cap a (ia bs v) B) :=
  (int8 h.doc).mono fun _ _ ⟨he, g⟩ => ⟨he, h.of_doc g.out⟩
theorem b9 (h : Both w D X c q p bs cap a v V) : Calls Try.prog 9 #[.pointer (some ⟨D, 0, none⟩)] V fun e B => e = .returned (.int .i64 (bt bs a : Int)) ∧ Hid (Both w D X c q p bs cap (nx bs a) v B) :=
  (byte9 h.tape).mono fun _ _ ⟨he, g⟩ => ⟨he, h.of_tape g.out⟩
theorem b10 (h : Both w D X c q p bs cap a v V) : Calls Try.prog 10 #[.pointer (some ⟨X, 0, none⟩)] V fun e B => e = .returned (.int .i64 (bt bs v : Int)) ∧ Hid (Both w D X c q p bs cap a (nx bs v) B) :=
  (byte10 h.doc).mono fun _ _ ⟨he, g⟩ => ⟨he, h.of_doc g.out⟩
theorem l11 (h : Both w D X c q p bs cap a v V) (n : Int) (hn : n < 9223372036854775808) : Calls Try.prog 11 #[.pointer (some ⟨D, 0, none⟩), .int .i64 n] V fun e B => e = .returned (.int .i64 (bv bs a n)) ∧ Hid (Both w D X c q p bs cap (ba bs a n) v B) :=
  (below11 h.tape n hn).mono fun _ _ ⟨he, g⟩ => ⟨he, h.of_tape g.out⟩
theorem l12 (h : Both w D X c q p bs cap a v V) (n : Int) (hn : n < 9223372036854775808) : Calls Try.prog 12 #[.pointer (some ⟨X, 0, none⟩), .int .i64 n] V fun e B => e = .returned (.int .i64 (bv bs v n)) ∧ Hid (Both w D X c q p bs cap a (ba bs v n) B) :=
  (below12 h.doc n hn).mono fun _ _ ⟨he, g⟩ => ⟨he, h.of_doc g.out⟩
theorem a13 (h : Both w D X c q p bs cap a v V) (n : Nat) : Calls Try.prog 13 #[.pointer (some ⟨D, 0, none⟩)] (V.drewN n) fun e B => e = .returned (.int .i64 (a : Int)) ∧ B = V.drewN n := at13 (h.drewN n).tape
theorem a14 (h : Both w D X c q p bs cap a v V) (n : Nat) : Calls Try.prog 14 #[.pointer (some ⟨D, 0, none⟩)] (V.drewN n) fun e B => e = .returned (.int .i64 ((bs.length : Int) - (a : Int))) ∧ ∃ m, B = (V.drewN n).drewN m :=
  (left14 (h.drewN n).tape).mono fun _ _ ⟨he, hm⟩ => ⟨by rw [he, show (((bs.length - a : Nat)) : Int) = (bs.length : Int) - (a : Int) from by have := h.tape.le; omega], hm⟩
end Both
theorem Both.start {w B : World} {D c : Nat} {q p : Option Addr} {bs : List Nat} {cap : Nat} (h : Nw w D c q bs B) (hr : La e8 w p bs) (hn : p = none → bs = [] ∧ cap = 0) (hc : bs.length ≤ cap) : Both w D B.heap.size c q p bs cap 0 0 (B.alloc (.cells #[.slice p bs.length cap, .int .i64 0] 29)) := by
  have hb : Below B.heap.size B (B.alloc (.cells #[.slice p bs.length cap, .int .i64 0] 29)) := (Below.refl _ _).alloc (Nat.le_refl _) _
  have hz := h.2.2.2.size
  have hD := h.1.lt
  refine ⟨h.2.2.2.trans (hb.mono hz), h.1.below hb, ⟨heap_next rfl _, (hr.below h.2.2.2).below hb, fun b o ha h0 => ?_, h.1.len, h.1.bys, Nat.zero_le _, hn, hc⟩, h.2.1, hz, by omega, fun b o hq h0 => ?_, fun b o hp h0 => hr.lt hp h0⟩
  · have := hr.lt ha h0
    omega
  · have := h.1.lst.lt hq h0
    omega
/-- the end: the program's tape is read whole, what was left lies in r. -/
structure Zs (w : World) (D X c : Nat) (q p r : Option Addr) (bs : List Nat) (cap a : Nat) (V : World) : Prop where
  old : Below w.heap.size w V
  tape : Tp 38 c V D q bs bs.length
  doc : Tp 29 cap V X p bs a
  rest : La e8 V r (bs.drop a)
theorem Zs.below {w V B : World} {D X c : Nat} {q p r : Option Addr} {bs : List Nat} {cap a : Nat} (h : Zs w D X c q p r bs cap a V) (g : Below V.heap.size V B) : Zs w D X c q p r bs cap a B :=
  ⟨h.old.trans (g.mono h.old.size), h.tape.below g, h.doc.below g, h.rest.below g⟩
theorem Both.rest {w V B : World} {D X c : Nat} {q p r : Option Addr} {bs : List Nat} {cap a v : Nat} (h : Both w D X c q p bs cap a v V) (hv : v = a) (k : Rd V D c q bs a r B) : Zs w D X c q p r bs cap a B := by
  subst hv
  have := h.of_tape k.1
  exact ⟨this.old, this.tape, this.doc, k.2.1⟩
/-- what the last region reads: where the document's tape stands, and two strings. -/
def Sz (X a : Nat) (r p' : Option Addr) (m c3 c4 : Nat) (st : ByteArray) (V : World) : Prop := V.cell? ⟨X, 1, none⟩ = some (.int .i64 (a : Int)) ∧ (convert 22 9 (.slice r m c3)).run Try.prog V = .ok (.string st) V ∧ (convert 22 9 (.slice p' m c4)).run Try.prog V = .ok (.string st) V
theorem Zs.sz {w V : World} {D X c : Nat} {q p r p' : Option Addr} {bs : List Nat} {cap a : Nat} (h : Zs w D X c q p r bs cap a V) (m c3 c4 : Nat) (st : ByteArray) (hm : bs.length - a = m) (hst : str (bs.drop a) = st) (hp : ∀ b o, p = some ⟨b, o, none⟩ → a < bs.length → p' = some ⟨b, o + a, none⟩) : Sz X a r p' m c3 c4 st V := by
  have e : (bs.drop a).length = m := by rw [List.length_drop, hm]
  have h1 := string_of c3 h.rest
  have h2 := string_of c4 (h.doc.lst.drop a hp)
  rw [e, hst] at h1 h2
  exact ⟨h.doc.c1, h1, h2⟩
theorem keep_z {w V : World} {D X c : Nat} {q p r p' : Option Addr} {bs : List Nat} {cap a m c3 c4 : Nat} {st : ByteArray} {f : FuncId} {args : Array Value} {v : Value} (hs : ∀ V, Zs w D X c q p r bs cap a V → Sz X a r p' m c3 c4 st V) (h : Zs w D X c q p r bs cap a V)
    (T : Calls Try.prog f args V fun e B => e = .returned v ∧ Below V.heap.size V B) : Calls Try.prog f args V fun e B => e = .returned v ∧ Sz X a r p' m c3 c4 st B ∧ Hid (Zs w D X c q p r bs cap a B) :=
  T.mono fun _ B ⟨he, hb⟩ => ⟨he, hs B (h.below hb), h.below hb⟩
theorem build29 (v : Option Addr) (n c : Nat) (w : World) : (Instr.build 29 #[(0, .slice v n c)]).run Try.prog w = .ok (.agg #[.slice v n c, .int .i64 0]) w := by kernel_rfl
set_option maxRecDepth 100000 in
set_option maxHeartbeats 2000000 in
theorem reads_some (p : Option Addr) (cap : Nat) (bs : List Nat) (r : Option Addr) (cap' : Nat) (ls : List Int) (w : World) (hn : p = none → bs = [] ∧ cap = 0) (hc : bs.length ≤ cap) (hl : bs.length ≤ 200) (hs : Bs bs) (hr : La e8 w p bs) (hb : La eI w r ls) (hbl : ls.length ≤ 60) (hbr : ∀ x ∈ ls, x < 9223372036854775808) :
    Calls Try.prog 3 #[.slice p bs.length cap, .slice r ls.length cap'] w fun e B => e = .returned (.bool true) ∧ Below w.heap.size w B := by
  have N6 := Lib.hid (new6 p bs cap w hn (by omega) hs hr)
  have S0 : Hid (∀ D c q B, Hid (Nw w D c q bs B) → Both w D B.heap.size c q p bs cap 0 0 (B.alloc (.cells #[.slice p bs.length cap, .int .i64 0] 29))) := fun D c q B h => Both.start h.out hr hn hc
  have C : Hid (∀ j, j < ls.length → ∃ (b o : Nat) (x : Int), r = some ⟨b, o, none⟩ ∧ x < 9223372036854775808 ∧ Hid (∀ V, Below w.heap.size w V → V.cell? ⟨b, o + j, none⟩ = some (.int .i64 x))) := fun j hj => by
    obtain ⟨b, o, hp, h⟩ := now hb j hj
    exact ⟨b, o, ls[j], hp, hbr _ (List.getElem_mem hj), h⟩
  have L14 : Hid (∀ D X c q a v V, Both w D X c q p bs cap a v V → ∀ n, Calls Try.prog 14 #[.pointer (some ⟨D, 0, none⟩)] (V.drewN n) fun e B => e = .returned (.int .i64 ((bs.length : Int) - (a : Int))) ∧ ∃ m, B = (V.drewN n).drewN m) := fun D X c q a v V h n => h.a14 n
  have LE : Hid (∀ D X c q a v V, Both w D X c q p bs cap a v V → a ≤ bs.length) := fun D X c q a v V h => h.tape.le
  clear hr hb hbr hs
  obtain ⟨len, hlen⟩ : ∃ len, ls.length = len := ⟨_, rfl⟩
  rw [hlen] at C hbl ⊢
  clear hlen
  have HB : Hid (∃ n, n = bs.length) := ⟨_, rfl⟩
  obtain ⟨n, hnn⟩ := HB.out
  have HN := Lib.hid hnn
  rw [← hnn] at N6 S0 hl hc L14 LE ⊢
  clear hnn HB hn
  have hb29 := build29 p n cap
  have d200 : decide (200 < (n : Int)) = false := decide_eq_false (by omega)
  have d60 : decide (60 < (len : Int)) = false := decide_eq_false (by omega)
  go_enter Try.func3, Try.ntmps3
  go_wp2_with fail
  refine N6.out.mono ?_
  rintro e w1 ⟨D, c, q, rfl, N7⟩
  have H0 := Lib.hid (S0.out _ _ _ _ N7)
  clear N6 N7 S0
  generalize hX : w1.heap.size = X at *
  go_wp2_with fail
  clear hb29 d200 d60
  go_loopw [7] (fun i wr => ∃ j : Nat, j ≤ len ∧ i = .int .i64 j ∧ ∃ a, Hid (Both w D X c q p bs cap a a wr)) (fun i _ => len - (intOf i).toNat)
  case atStart => exact ⟨0, by omega, rfl, 0, H0⟩
  case round =>
    obtain ⟨i, hi, rfl, a, hI⟩ := hrel
    clear H0
    by_cases hlt : i < len
    · obtain ⟨b, o, x, rfl, hx, CY⟩ := C.out i hlt
      have d0 := CY.out wr hI.out.old
      have h1 : (0 : Int) ≤ (i : Int) := by omega
      have h2 : (i : Int) < (len : Int) := by omega
      clear C
      by_cases h7 : x = 0
      · subst h7
        have h7' : ((0 : Int) == 0) = true := by decide
        have T7 := Lib.hid hI.out.i7
        have T8 : Hid (∀ V, Hid (Both w D X c q p bs cap (ia bs a) a V) → Calls Try.prog 8 #[.pointer (some ⟨X, 0, none⟩)] V fun e B => e = .returned (.int .i64 (iv bs a)) ∧ Hid (Both w D X c q p bs cap (ia bs a) (ia bs a) B)) := fun V hV => hV.out.i8
        clear hI hx CY
        generalize iv bs a = y at *
        generalize ia bs a = z at *
        go_wp2_with fail
        refine T7.out.mono ?_
        rintro e w2 ⟨rfl, H2⟩
        clear T7
        go_wp2_with fail
        refine (T8.out _ H2).mono ?_
        rintro e w3 ⟨rfl, H3⟩
        have U : Hid (∀ m, Calls Try.prog 13 #[.pointer (some ⟨D, 0, none⟩)] (w3.drewN m) fun e B => e = .returned (.int .i64 (z : Int)) ∧ B = w3.drewN m) := fun m => H3.out.a13 m
        have L := Lib.hid (L14.out D X c q _ _ _ H3.out)
        have c2 := H3.out.doc.c1
        have hz := LE.out D X c q _ _ _ H3.out
        have H4 : Hid (∀ m, Hid (Both w D X c q p bs cap z z (w3.drewN m))) := fun m => H3.out.drewN m
        clear H3 d0 L14 LE T8 H2
        go_wp2
        go_quiet (first | (go_at_call 13; exact quiet_still (U.out _)) | (go_at_call 14; exact Calls.quiet_of (L.out _)))
        go_wp2
        go_roundw
        case rel => exact ⟨i + 1, by omega, by simp, z, H4.out _⟩
        case measure => simp [intOf]; omega
      · have h7' : ((x : Int) == 0) = false := by simpa using h7
        by_cases h5 : x < -5
        · have h5' : decide (x < -5) = true := by simpa using h5
          have T9 := Lib.hid hI.out.b9
          have T10 : Hid (∀ V, Hid (Both w D X c q p bs cap (nx bs a) a V) → Calls Try.prog 10 #[.pointer (some ⟨X, 0, none⟩)] V fun e B => e = .returned (.int .i64 (bt bs a : Int)) ∧ Hid (Both w D X c q p bs cap (nx bs a) (nx bs a) B)) := fun V hV => hV.out.b10
          clear hI hx CY
          generalize bt bs a = y at *
          generalize nx bs a = z at *
          go_wp2_with fail
          refine T9.out.mono ?_
          rintro e w2 ⟨rfl, H2⟩
          clear T9
          go_wp2_with fail
          refine (T10.out _ H2).mono ?_
          rintro e w3 ⟨rfl, H3⟩
          have U : Hid (∀ m, Calls Try.prog 13 #[.pointer (some ⟨D, 0, none⟩)] (w3.drewN m) fun e B => e = .returned (.int .i64 (z : Int)) ∧ B = w3.drewN m) := fun m => H3.out.a13 m
          have L := Lib.hid (L14.out D X c q _ _ _ H3.out)
          have c2 := H3.out.doc.c1
          have hz := LE.out D X c q _ _ _ H3.out
          have H4 : Hid (∀ m, Hid (Both w D X c q p bs cap z z (w3.drewN m))) := fun m => H3.out.drewN m
          clear H3 d0 L14 LE T10 H2
          go_wp2
          go_quiet (first | (go_at_call 13; exact quiet_still (U.out _)) | (go_at_call 14; exact Calls.quiet_of (L.out _)))
          go_wp2
          go_roundw
          case rel => exact ⟨i + 1, by omega, by simp, z, H4.out _⟩
          case measure => simp [intOf]; omega
        · have h5' : decide (x < -5) = false := by simpa using h5
          have K0 : Hid (wr.drew.cell? ⟨b, o + i, none⟩ = some (.int .i64 x)) := d0
          have T11 : Hid (Calls Try.prog 11 #[.pointer (some ⟨D, 0, none⟩), .int .i64 x] wr.drew fun e B => e = .returned (.int .i64 (bv bs a x)) ∧ B.cell? ⟨b, o + i, none⟩ = some (.int .i64 x) ∧ Hid (Both w D X c q p bs cap (ba bs a x) a B)) :=
            ((hI.out.drewN 1).l11 x hx).mono fun e B ⟨he, h⟩ => ⟨he, CY.out _ h.out.old, h⟩
          have T12 : Hid (∀ V, Hid (Both w D X c q p bs cap (ba bs a x) a V) → Calls Try.prog 12 #[.pointer (some ⟨X, 0, none⟩), .int .i64 x] V fun e B => e = .returned (.int .i64 (bv bs a x)) ∧ B.cell? ⟨b, o + i, none⟩ = some (.int .i64 x) ∧ Hid (Both w D X c q p bs cap (ba bs a x) (ba bs a x) B)) := fun V hV =>
            (hV.out.l12 x hx).mono fun e B ⟨he, h⟩ => ⟨he, CY.out _ h.out.old, h⟩
          clear hI CY
          generalize bv bs a x = y at *
          generalize ba bs a x = z at *
          go_wp2_with fail
          go_region_held3 (fun V => V.cell? ⟨b, o + i, none⟩ = some (.int .i64 x)) (first | exact K0.out | assumption) (first
            | (go_at_call 12; refine (T12.out _ h9).mono ?_; rintro e w3 ⟨rfl, k10, H3⟩)
            | (go_at_call 11; refine T11.out.mono ?_; rintro e w2 ⟨rfl, k9, h9⟩))
          have U : Hid (∀ m, Calls Try.prog 13 #[.pointer (some ⟨D, 0, none⟩)] (w3.drewN m) fun e B => e = .returned (.int .i64 (z : Int)) ∧ B = w3.drewN m) := fun m => H3.out.a13 m
          have L := Lib.hid (L14.out D X c q _ _ _ H3.out)
          have c2 := H3.out.doc.c1
          have hz := LE.out D X c q _ _ _ H3.out
          have H4 : Hid (∀ m, Hid (Both w D X c q p bs cap z z (w3.drewN m))) := fun m => H3.out.drewN m
          clear H3 d0 L14 LE T11 T12 h9 K0
          go_wp2
          go_quiet (first | (go_at_call 13; exact quiet_still (U.out _)) | (go_at_call 14; exact Calls.quiet_of (L.out _)))
          go_wp2
          go_roundw
          case rel => exact ⟨i + 1, by omega, by simp, z, H4.out _⟩
          case measure => simp [intOf]; omega
    · obtain rfl : i = len := by omega
      have hle := LE.out D X c q _ _ _ hI.out
      obtain ⟨p', hp', hp1, _, _⟩ := cut_l p n cap a hle hc
      rw [HN.out] at hp1
      obtain ⟨m, hm⟩ : ∃ m, bs.length - a = m := ⟨_, rfl⟩
      obtain ⟨m', hm'⟩ : ∃ m', n - a = m' := ⟨_, rfl⟩
      have hmm : m' = m := by rw [← hm, ← hm', HN.out]
      obtain ⟨c4, hc4⟩ : ∃ c4, cap - a = c4 := ⟨_, rfl⟩
      obtain ⟨st, hst⟩ : ∃ st, str (bs.drop a) = st := ⟨_, rfl⟩
      rw [hm', hc4, hmm] at hp'
      have SZ : ∀ r' c3 V, Zs w D X c q p r' bs cap a V → Sz X a r' p' m c3 c4 st V := fun r' c3 V h => h.sz m c3 c4 st hm hst hp1
      have T15 : Hid (Calls Try.prog 15 #[.pointer (some ⟨D, 0, none⟩)] wr fun e B => ∃ r' c3, e = .returned (.slice r' m c3) ∧ Hid (Zs w D X c q p r' bs cap a B)) := (rest15 hI.out.tape).mono fun e B ⟨r', c3, he, k⟩ => ⟨r', c3, by rw [he, hm], hI.out.rest rfl k.out⟩
      have K0 : Hid (∀ r' c3 V, Hid (Zs w D X c q p r' bs cap a V) → Hid (V.drew.cell? ⟨X, 1, none⟩ = some (.int .i64 (a : Int)) ∧ (convert 22 9 (.slice r' m c3)).run Try.prog V.drew = .ok (.string st) V.drew ∧ (convert 22 9 (.slice p' m c4)).run Try.prog V.drew = .ok (.string st) V.drew) ∧ Hid (Zs w D X c q p r' bs cap a V.drew)) := fun r' c3 V h => ⟨SZ r' c3 _ (h.out.below (below_drewN V 1)), h.out.below (below_drewN V 1)⟩
      have A14 : Hid (∀ r' c3 V, Hid (Zs w D X c q p r' bs cap a V) → Calls Try.prog 14 #[.pointer (some ⟨D, 0, none⟩)] V fun e B => e = .returned (.int .i64 0) ∧ (B.cell? ⟨X, 1, none⟩ = some (.int .i64 (a : Int)) ∧ (convert 22 9 (.slice r' m c3)).run Try.prog B = .ok (.string st) B ∧ (convert 22 9 (.slice p' m c4)).run Try.prog B = .ok (.string st) B) ∧ Hid (Zs w D X c q p r' bs cap a B)) := fun r' c3 V h => keep_z (SZ r' c3) h.out ((left14 h.out.tape).mono fun _ _ ⟨he, j, e⟩ => ⟨by rw [he, Nat.sub_self]; rfl, e ▸ below_drewN _ j⟩)
      have A13 : Hid (∀ r' c3 V, Hid (Zs w D X c q p r' bs cap a V) → Calls Try.prog 13 #[.pointer (some ⟨D, 0, none⟩)] V fun e B => e = .returned (.int .i64 (n : Int)) ∧ (B.cell? ⟨X, 1, none⟩ = some (.int .i64 (a : Int)) ∧ (convert 22 9 (.slice r' m c3)).run Try.prog B = .ok (.string st) B ∧ (convert 22 9 (.slice p' m c4)).run Try.prog B = .ok (.string st) B) ∧ Hid (Zs w D X c q p r' bs cap a B)) := fun r' c3 V h => keep_z (SZ r' c3) h.out ((at13 h.out.tape).mono fun _ _ ⟨he, e⟩ => ⟨by rw [he, HN.out], e ▸ Below.refl _ _⟩)
      have N9 : Hid (∀ r' c3 V, Hid (Zs w D X c q p r' bs cap a V) → Calls Try.prog 9 #[.pointer none] V fun e B => e = .returned (.int .i64 0) ∧ (B.cell? ⟨X, 1, none⟩ = some (.int .i64 (a : Int)) ∧ (convert 22 9 (.slice r' m c3)).run Try.prog B = .ok (.string st) B ∧ (convert 22 9 (.slice p' m c4)).run Try.prog B = .ok (.string st) B) ∧ Hid (Zs w D X c q p r' bs cap a B)) := fun r' c3 V h => keep_z (SZ r' c3) h.out ((none9 V).mono fun _ _ ⟨he, e⟩ => ⟨he, e ▸ Below.refl _ _⟩)
      have N7 : Hid (∀ r' c3 V, Hid (Zs w D X c q p r' bs cap a V) → Calls Try.prog 7 #[.pointer none] V fun e B => e = .returned (.int .i64 0) ∧ (B.cell? ⟨X, 1, none⟩ = some (.int .i64 (a : Int)) ∧ (convert 22 9 (.slice r' m c3)).run Try.prog B = .ok (.string st) B ∧ (convert 22 9 (.slice p' m c4)).run Try.prog B = .ok (.string st) B) ∧ Hid (Zs w D X c q p r' bs cap a B)) := fun r' c3 V h => keep_z (SZ r' c3) h.out ((none7 V).mono fun _ _ ⟨he, e⟩ => ⟨he, e ▸ Below.refl _ _⟩)
      have N14 : Hid (∀ r' c3 V, Hid (Zs w D X c q p r' bs cap a V) → Calls Try.prog 14 #[.pointer none] V fun e B => e = .returned (.int .i64 0) ∧ (B.cell? ⟨X, 1, none⟩ = some (.int .i64 (a : Int)) ∧ (convert 22 9 (.slice r' m c3)).run Try.prog B = .ok (.string st) B ∧ (convert 22 9 (.slice p' m c4)).run Try.prog B = .ok (.string st) B) ∧ Hid (Zs w D X c q p r' bs cap a B)) := fun r' c3 V h => keep_z (SZ r' c3) h.out ((none14 V).mono fun _ _ ⟨he, e⟩ => ⟨he, e ▸ Below.refl _ _⟩)
      have N13 : Hid (∀ r' c3 V, Hid (Zs w D X c q p r' bs cap a V) → Calls Try.prog 13 #[.pointer none] V fun e B => e = .returned (.int .i64 0) ∧ (B.cell? ⟨X, 1, none⟩ = some (.int .i64 (a : Int)) ∧ (convert 22 9 (.slice r' m c3)).run Try.prog B = .ok (.string st) B ∧ (convert 22 9 (.slice p' m c4)).run Try.prog B = .ok (.string st) B) ∧ Hid (Zs w D X c q p r' bs cap a B)) := fun r' c3 V h => keep_z (SZ r' c3) h.out ((none13 V).mono fun _ _ ⟨he, e⟩ => ⟨he, e ▸ Below.refl _ _⟩)
      have N11 : Hid (∀ r' c3 V, Hid (Zs w D X c q p r' bs cap a V) → Calls Try.prog 11 #[.pointer none, .int .i64 3] V fun e B => e = .returned (.int .i64 0) ∧ (B.cell? ⟨X, 1, none⟩ = some (.int .i64 (a : Int)) ∧ (convert 22 9 (.slice r' m c3)).run Try.prog B = .ok (.string st) B ∧ (convert 22 9 (.slice p' m c4)).run Try.prog B = .ok (.string st) B) ∧ Hid (Zs w D X c q p r' bs cap a B)) := fun r' c3 V h => keep_z (SZ r' c3) h.out ((none11 V 3 (by decide) (by decide)).mono fun _ _ ⟨he, e⟩ => ⟨he, e ▸ Below.refl _ _⟩)
      have N15 : Hid (∀ r' c3 V, Hid (Zs w D X c q p r' bs cap a V) → Calls Try.prog 15 #[.pointer none] V fun e B => e = .returned (.slice none 0 0) ∧ (B.cell? ⟨X, 1, none⟩ = some (.int .i64 (a : Int)) ∧ (convert 22 9 (.slice r' m c3)).run Try.prog B = .ok (.string st) B ∧ (convert 22 9 (.slice p' m c4)).run Try.prog B = .ok (.string st) B) ∧ Hid (Zs w D X c q p r' bs cap a B)) := fun r' c3 V h => keep_z (SZ r' c3) h.out ((none15 V).mono fun _ _ ⟨he, e⟩ => ⟨he, e ▸ Below.refl _ _⟩)
      have K5 : Hid (∀ r' c3 V, Hid (Zs w D X c q p r' bs cap a V) → Calls Try.prog 5 #[] V fun e B => e = .returned (.bool true) ∧ (B.cell? ⟨X, 1, none⟩ = some (.int .i64 (a : Int)) ∧ (convert 22 9 (.slice r' m c3)).run Try.prog B = .ok (.string st) B ∧ (convert 22 9 (.slice p' m c4)).run Try.prog B = .ok (.string st) B) ∧ Hid (Zs w D X c q p r' bs cap a B)) := fun r' c3 V h => keep_z (SZ r' c3) h.out ((awake5 V).mono fun _ _ ⟨he, e⟩ => ⟨he, e.out⟩)
      have F : Hid (∀ r' V, Hid (Zs w D X c q p r' bs cap a V) → Below w.heap.size w V) := fun r' V h => h.out.old
      clear hI C L14 LE SZ hst hm hm' hmm hc4 hp1 HN
      have v0 : IntKind.i64.wrap 0 = 0 := by decide
      have v00 : wrap64 0 = 0 := by unfold wrap64; decide
      have e1 : ((0 : Int) == 0) = true := by decide
      have e2 : ((n : Int) == (n : Int)) = true := by simp
      go_wp2_with fail
      refine T15.out.mono ?_
      rintro e w5 ⟨r', c3, rfl, h⟩
      obtain ⟨S0, h0⟩ := K0.out r' c3 _ h
      clear T15 K0 h
      go_wp2_with fail
      go_region_held3 (fun V => (V.cell? ⟨X, 1, none⟩ = some (.int .i64 (a : Int)) ∧ (convert 22 9 (.slice r' m c3)).run Try.prog V = .ok (.string st) V ∧ (convert 22 9 (.slice p' m c4)).run Try.prog V = .ok (.string st) V)) (first | exact S0.out | assumption) (first
        | (go_at_call 5; refine (K5.out r' c3 _ h8).mono ?_; rintro e w19 ⟨rfl, k9, h9⟩)
        | (go_at_call 15; refine (N15.out r' c3 _ h7).mono ?_; rintro e w18 ⟨rfl, k8, h8⟩)
        | (go_at_call 11; refine (N11.out r' c3 _ h6).mono ?_; rintro e w17 ⟨rfl, k7, h7⟩)
        | (go_at_call 13; refine (N13.out r' c3 _ h5).mono ?_; rintro e w16 ⟨rfl, k6, h6⟩)
        | (go_at_call 14; refine (N14.out r' c3 _ h4).mono ?_; rintro e w15 ⟨rfl, k5, h5⟩)
        | (go_at_call 7; refine (N7.out r' c3 _ h3).mono ?_; rintro e w14 ⟨rfl, k4, h4⟩)
        | (go_at_call 9; refine (N9.out r' c3 _ h2).mono ?_; rintro e w13 ⟨rfl, k3, h3⟩)
        | (go_at_call 13; refine (A13.out r' c3 _ h1).mono ?_; rintro e w12 ⟨rfl, k2, h2⟩)
        | (go_at_call 14; refine (A14.out r' c3 _ h0).mono ?_; rintro e w11 ⟨rfl, k1, h1⟩))
      go_wp2
      go_ret
      exact ⟨rfl, F.out r' _ h9⟩
end Go.Proofs.Ytmjboaflbjnpcaa
