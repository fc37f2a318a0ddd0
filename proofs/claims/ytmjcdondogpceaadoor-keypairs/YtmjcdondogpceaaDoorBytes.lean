/-
  Bytes and Text of package key, and Bytes of its reference, by their contracts: what each returns for every slice of bytes and every string, where the table of turns lies in memory as its text lays it; what was in memory stays.
-/
import Derived.Test.YtmjcdondogpceaaDoorKey
import Derived.Test.YtmjcdondogpceaaDoorXxWalks
import Derived.Test.YtmjcdondogpceaaDoorFnBack
namespace Go.Proofs.YtmjcdondogpceaaDoor
open Go.ChangeShapes Go.WideShapes Go.ChangeAt Go.RowKit
theorem turns_below {w w' : World} (h : xx.Turns w) (hb : Below w.heap.size w w') : xx.Turns w' := h.below hb
theorem drew_below (w : World) : Below w.heap.size w w.drew := (Below.refl _ _).drew
/-- the sum and the digest of bytes. -/
theorem two_ex : ∃ f : (List Nat → Nat) × (List Nat → Nat), (∀ l, f.1 l = xx.xx l 0) ∧ ∀ l, f.2 l = fn.gon 14695981039346656037 l := ⟨(fun l => xx.xx l 0, fun l => fn.gon 14695981039346656037 l), fun _ => rfl, fun _ => rfl⟩
noncomputable def sum : List Nat → Nat := two_ex.choose.1
noncomputable def gone : List Nat → Nat := two_ex.choose.2
theorem sum_eq (l : List Nat) : sum l = xx.xx l 0 := two_ex.choose_spec.1 l
theorem gone_eq (l : List Nat) : gone l = fn.gon 14695981039346656037 l := two_ex.choose_spec.2 l
theorem sum_lt (l : List Nat) : sum l < 18446744073709551616 := by rw [sum_eq]; exact xx.xx_lt l 0
theorem sum_any (a : Option Addr) (n cap : Nat) (l : List Nat) (w : World) (hr : fn.Row w a n l) (hl : fn.bytes l) (hT : xx.Turns w) (hn : n ≤ 4611686018427387904) (hcap : n ≤ cap) :
    Calls Tryd.prog 19 #[.slice a n cap, .int .u64 0] w fun e w' => e = .returned (.int .u64 (sum l : Nat)) ∧ Below w.heap.size w w' :=
  (xx.xxsum_any a n cap l 0 w hr hl hT (by decide) hn hcap).mono fun _ _ ⟨he, hb⟩ => ⟨by rw [he, sum_eq], hb⟩
theorem refsum_any (a : Option Addr) (n cap : Nat) (l : List Nat) (w : World) (hr : fn.Row w a n l) (hl : fn.bytes l) (hn : n ≤ 4611686018427387904) (hcap : n ≤ cap) :
    Calls Tryd.prog 23 #[.slice a n cap, .int .u64 0] w fun e w' => e = .returned (.int .u64 (sum l : Nat)) ∧ Below w.heap.size w w' :=
  (xx.refsum_any a n cap l 0 w hr hl hn hcap (by decide) hr.lt).mono fun _ _ ⟨he, hb⟩ => ⟨by rw [he, sum_eq], hb⟩
theorem go_any (a : Option Addr) (n cap : Nat) (l : List Nat) (w : World) (hr : fn.Row w a n l) (hl : fn.bytes l) (hn : n ≤ 4611686018427387904) :
    Calls Tryd.prog 20 #[.int .u64 14695981039346656037, .slice a n cap] w fun e w' => e = .returned (.int .u64 (gone l : Nat)) ∧ w = w' :=
  (fn.go_any 14695981039346656037 a n cap l w (by decide) hr hl hn).mono fun _ _ ⟨he, hb⟩ => ⟨by rw [he, gone_eq], hb⟩
theorem reftext_any (s : ByteArray) (l : List Nat) (w : World) (hr : fn.Codes s l) (hl : fn.bytes l) (hn : s.size ≤ 4611686018427387904) :
    Calls Tryd.prog 24 #[.string s] w fun e w' => e = .returned (.int .u64 (gone l : Nat)) ∧ Below w.heap.size w w' :=
  (fn.reftext_any s l w hr hl hn).mono fun _ _ ⟨he, hb⟩ => ⟨by rw [he, gone_eq], hb⟩
theorem bytes_any (a : Option Addr) (n cap : Nat) (l : List Nat) (w : World) (hr : fn.Row w a n l) (hl : fn.bytes l) (hT : xx.Turns w) (hn : n ≤ 4611686018427387904) (hcap : n ≤ cap) :
    Calls Tryd.prog 8 #[.slice a n cap] w fun e w' => e = .returned (pv (sum l) (gone l)) ∧ Below w.heap.size w w' := by
  have b0 := (Below.refl w.heap.size w).alloc (Nat.le_refl _) (.cells #[.int .u64 ((0 : Nat) : Int), .int .u64 ((0 : Nat) : Int)] 26)
  have H := Lib.hid (turns_below hT b0)
  have R := Lib.hid (hr.below b0)
  have X := Lib.hid (box_new w 0 0)
  have B := Lib.hid b0
  have L := Lib.hid hl
  clear hr hl hT b0
  go_enter Tryd.func8, Tryd.ntmps8
  go_wp2_with fail
  refine (sum_any a n cap l _ R.out L.out H.out hn hcap).mono ?_
  rintro e w1 ⟨rfl, b1⟩
  have R1 := Lib.hid (R.out.below b1)
  have X1 := Lib.hid (X.out.below b1)
  have B1 := Lib.hid (bnext B.out b1 B.out.size)
  clear b1 H X B R
  go_wp2_with fail
  refine (go_any a n cap l _ R1.out L.out hn).mono ?_
  rintro e w2 ⟨rfl, rfl⟩
  have c0 := X1.out.c0
  have c1 := X1.out.c1
  have f0 := X1.out.f0
  have f1 := X1.out.f1
  go_wp2
  exact bodyPost_ret (v := pv (sum l) (gone l)) (by simp [results, Tryd.results8, go_sem, back0 X1.out.c0, back1 X1.out.c1]) rfl ⟨rfl, bset B1.out (Nat.le_refl _) _ _⟩
theorem refbytes_any (a : Option Addr) (n cap : Nat) (l : List Nat) (w : World) (hr : fn.Row w a n l) (hl : fn.bytes l) (hn : n ≤ 4611686018427387904) (hcap : n ≤ cap) :
    Calls Tryd.prog 11 #[.slice a n cap] w fun e w' => e = .returned (pv (sum l) (gone l)) ∧ Below w.heap.size w w' := by
  have b0 := ((Below.refl w.heap.size w).alloc (Nat.le_refl _) (.cells #[.int .u64 ((0 : Nat) : Int), .int .u64 ((0 : Nat) : Int)] 26)).drew
  have R := Lib.hid (hr.below b0)
  have X := Lib.hid (box_new w 0 0).drew
  have B := Lib.hid b0
  have L := Lib.hid hl
  obtain ⟨s, hs⟩ : ∃ s, fn.str l = s := ⟨_, rfl⟩
  have hsz : s.size ≤ 4611686018427387904 := by rw [← hs, fn.str_size, hr.1]; exact hn
  have HC : Hid (fn.Codes s l) := hs ▸ fn.str_codes l hl
  have HV : Hid (∀ W, fn.Row W a n l → (convert 22 9 (.slice a n cap)).run Tryd.prog W = .ok (.string s) W) := fun W hW => hs ▸ fn.string_of_row W a n cap l hW
  have v0 : (convert 22 9 (.slice a n cap)).run Tryd.prog (w.alloc (.cells #[.int .u64 0, .int .u64 0] 26)).drew = .ok (.string s) (w.alloc (.cells #[.int .u64 0, .int .u64 0] 26)).drew := HV.out _ R.out
  clear hr hl b0 hs
  go_enter Tryd.func11, Tryd.ntmps11
  go_wp2_with fail
  go_region_with (first
    | (go_at_call 24; refine (reftext_any s l _ HC.out L.out hsz).mono ?_; rintro e w2 ⟨rfl, b2⟩; have c0 := (X1.out.below b2).c0; have c1 := (X1.out.below b2).c1; have f0 := (X1.out.below b2).f0; have f1 := (X1.out.below b2).f1; have B2 := Lib.hid (bnext B1.out b2 B1.out.size); clear b2)
    | (go_at_call 23; refine (refsum_any a n cap l _ R.out L.out hn hcap).mono ?_; rintro e w1 ⟨rfl, b1⟩; have X1 := Lib.hid (X.out.below b1); have B1 := Lib.hid (bnext B.out b1 B.out.size); have v1 := HV.out _ (R.out.below b1); clear b1))
  all_goals (go_wp2; exact bodyPost_ret (v := pv (sum l) (gone l)) (by simp [results, Tryd.results11, go_sem, back0 c0, back1 c1]) rfl ⟨rfl, bset B2.out (Nat.le_refl _) _ _⟩)
/-- what a call of Bytes is asked by Text. -/
theorem text_bytes (s : ByteArray) (l : List Nat) (w : World) (hr : fn.Codes s l) (hl : fn.bytes l) (hT : xx.Turns w) (hn : s.size ≤ 4611686018427387904) (g : Nat) (hg : w.heap.size = g) (cap : Nat) (hcap : s.size ≤ cap) (fr : Nat × Nat) :
    Calls Tryd.prog 8 #[.slice (some ⟨g, 0, none⟩) s.size cap] (w.drew.alloc (.cells (bytesRow s cap) 5 fr)) fun e w' => e = .returned (pv (sum l) (gone l)) ∧ Below w.heap.size w w' :=
  hg ▸ (bytes_any _ s.size cap l _ (fn.string_row s l hr w cap fr) hl (turns_below hT ((Below.refl _ _).drew.alloc (Nat.le_refl _) _)) hn hcap).mono fun _ _ ⟨he, hb⟩ => ⟨he, bnext ((Below.refl _ _).drew.alloc (Nat.le_refl _) _) hb (by simp)⟩
theorem text_any (s : ByteArray) (l : List Nat) (w : World) (hr : fn.Codes s l) (hl : fn.bytes l) (hT : xx.Turns w) (hn : s.size ≤ 4611686018427387904) :
    Calls Tryd.prog 12 #[.string s] w fun e w' => e = .returned (pv (sum l) (gone l)) ∧ Below w.heap.size w w' := by
  have b0 := (Below.refl w.heap.size w).alloc (Nat.le_refl _) (.cells #[.int .u64 0, .int .u64 0] 26)
  have G := Lib.hid (text_bytes s l (w.alloc (.cells #[.int .u64 0, .int .u64 0] 26)) hr hl (turns_below hT b0) hn (w.heap.size + 1) (by simp))
  have X : Hid (Box (w.alloc (.cells #[.int .u64 0, .int .u64 0] 26)) w.heap.size 0 0) := box_new w 0 0
  have B := Lib.hid b0
  have hcv := run_bytes_of_string (P := Tryd.prog) (w.alloc (.cells #[.int .u64 0, .int .u64 0] 26)) 9 22 5 s Tryd.underlying9 Tryd.underlying22 Tryd.underlying5
  clear hr hl hT b0
  go_enter Tryd.func12, Tryd.ntmps12
  go_wp2_with fail
  refine (G.out _ (grownCap_ge _ _ _ _) _).mono ?_
  rintro e w1 ⟨rfl, b1⟩
  have X1 := Lib.hid (X.out.below b1)
  have B1 := Lib.hid (bnext B.out b1 B.out.size)
  clear b1 X B G
  have c0 := X1.out.c0
  have c1 := X1.out.c1
  have f0 := X1.out.f0
  have f1 := X1.out.f1
  clear hcv
  go_wp2
  exact bodyPost_ret (v := pv (sum l) (gone l)) (by simp [results, Tryd.results12, go_sem, back0 X1.out.c0, back1 X1.out.c1]) rfl ⟨rfl, bset B1.out (Nat.le_refl _) _ _⟩
end Go.Proofs.YtmjcdondogpceaaDoor
