/- The walk of the law DiskMoves. -/
import Derived.Test.YtleelemcmnlfiaaBegun
import Derived.Test.YtleelemcmnlfiaaSync
import Derived.Test.YtleelemcmnlfiaaCrash3
namespace Go.Proofs.Ytleelemcmnlfiaa
open Go.RowKit

def nmF : ByteArray := ⟨#[102]⟩
def nmG : ByteArray := ⟨#[103]⟩
def nmH : ByteArray := ⟨#[104]⟩
def later : List UInt8 := [108, 97, 116, 101, 114]
theorem ap_one (A : List UInt8) : ap [] (.app nmF A) = [⟨nmF, A⟩] := rfl
theorem ap_two (A B : List UInt8) : ap [⟨nmF, A⟩] (.app nmG B) = [⟨nmF, A⟩, ⟨nmG, B⟩] := by
  have h1 : (nmF = nmG) = False := eq_false (by decide)
  have h2 : ¬ nlt nmG nmF := by decide +kernel
  simp [ap, look, del, ins, h1, h2]
theorem ap_mov (A B : List UInt8) : ap [⟨nmF, A⟩, ⟨nmG, B⟩] (.mov nmG nmF) = [⟨nmF, B⟩] := by
  have h1 : (nmF = nmG) = False := eq_false (by decide)
  have h2 : (nmG = nmF) = False := eq_false (by decide)
  simp [ap, look, del, ins, h1, h2]
theorem ap_later (B x : List UInt8) : ap [⟨nmF, B⟩] (.app nmH x) = [⟨nmF, B⟩, ⟨nmH, x⟩] := by
  have h1 : (nmF = nmH) = False := eq_false (by decide)
  have h2 : ¬ nlt nmH nmF := by decide +kernel
  simp [ap, look, del, ins, h1, h2]
def s1 (A : List UInt8) : St := ⟨1048576, [], [.app nmF A]⟩
def s2 (A B : List UInt8) : St := ⟨1048576, [], [.app nmF A, .app nmG B]⟩
def s3 (A B : List UInt8) : St := ⟨1048576, [⟨nmF, A⟩, ⟨nmG, B⟩], []⟩
def s4 (A B : List UInt8) : St := ⟨1048576, [⟨nmF, A⟩, ⟨nmG, B⟩], [.mov nmG nmF]⟩
def s5 (A B : List UInt8) : St := ⟨1048576, [⟨nmF, A⟩, ⟨nmG, B⟩], [.mov nmG nmF, .app nmH later]⟩
theorem s1_now (A : List UInt8) : (s1 A).now = [⟨nmF, A⟩] := ap_one A
theorem s2_now (A B : List UInt8) : (s2 A B).now = [⟨nmF, A⟩, ⟨nmG, B⟩] := by
  show ap (ap [] (.app nmF A)) (.app nmG B) = _
  rw [ap_one, ap_two]
theorem s4_now (A B : List UInt8) : (s4 A B).now = [⟨nmF, B⟩] := ap_mov A B
theorem s5_left (A B : List UInt8) (n t : Int) : look nmF (leftOf (s5 A B) n t) = some ⟨nmF, if 1 ≤ n then B else A⟩ := by
  have hl : ∀ (X : List UInt8) (r : List Fl), look nmF (⟨nmF, X⟩ :: r) = some ⟨nmF, X⟩ := fun X r => by simp [look]
  unfold leftOf
  by_cases h0 : 0 ≤ n
  · rw [if_pos h0]
    obtain ⟨m, rfl⟩ : ∃ m : Nat, n = (m : Int) := ⟨n.toNat, by omega⟩
    simp only [Int.toNat_natCast]
    match m with
    | 0 =>
      rw [if_neg (by omega)]
      exact hl A _
    | 1 =>
      rw [if_pos (by omega)]
      show look nmF (torn (ap [⟨nmF, A⟩, ⟨nmG, B⟩] (.mov nmG nmF)) (.app nmH later) t) = _
      rw [ap_mov]
      simp only [torn]
      split
      · exact hl B _
      · rw [ap_later]
        exact hl B _
    | m + 2 =>
      have h1 : (s5 A B).wait[m + 2]? = none := by simp [s5]
      have h2 : (s5 A B).wait.take (m + 2) = (s5 A B).wait := by simp [s5]
      rw [if_pos (by omega), h1, h2]
      show look nmF (ap (ap [⟨nmF, A⟩, ⟨nmG, B⟩] (.mov nmG nmF)) (.app nmH later)) = _
      rw [ap_mov, ap_later]
      exact hl B _
  · rw [if_neg h0, if_neg (by omega)]
    exact hl A _

theorem s5_mass (A B : List UInt8) (n t : Int) (hA : A.length ≤ 100) (hB : B.length ≤ 100) : mass (leftOf (s5 A B) n t) ≤ 1000 := by
  unfold leftOf
  by_cases h0 : 0 ≤ n
  · rw [if_pos h0]
    obtain ⟨m, rfl⟩ : ∃ m : Nat, n = (m : Int) := ⟨n.toNat, by omega⟩
    simp only [Int.toNat_natCast]
    match m with
    | 0 =>
      show mass [⟨nmF, A⟩, ⟨nmG, B⟩] ≤ 1000
      simp [mass]; omega
    | 1 =>
      show mass (torn (ap [⟨nmF, A⟩, ⟨nmG, B⟩] (.mov nmG nmF)) (.app nmH later) t) ≤ _
      rw [ap_mov]
      simp only [torn]
      split
      · simp [mass]; omega
      · rw [ap_later]
        simp [mass, later]; omega
    | m + 2 =>
      have h1 : (s5 A B).wait[m + 2]? = none := by simp [s5]
      have h2 : (s5 A B).wait.take (m + 2) = (s5 A B).wait := by simp [s5]
      rw [h1, h2]
      show mass (ap (ap [⟨nmF, A⟩, ⟨nmG, B⟩] (.mov nmG nmF)) (.app nmH later)) ≤ _
      rw [ap_mov, ap_later]
      simp [mass, later]; omega
  · rw [if_neg h0]
    show mass [⟨nmF, A⟩, ⟨nmG, B⟩] ≤ 1000
    simp [mass]; omega

theorem own_of_ext {B : Nat} {F : Nat → Prop} {w w' : World} (h : ∀ k, F k → B ≤ k) (hs : B ≤ w.heap.size) : ∀ k, ext F w w' k → B ≤ k := fun k hk => by
  rcases hk with hk | hk
  · exact h k hk
  · omega

theorem hroom (A : List UInt8) (h : A.length ≤ 100) : ((used (⟨roomN 1048576, [], []⟩ : St).now : Nat) : Int) + (A.length : Int) ≤ (⟨roomN 1048576, [], []⟩ : St).room := by
  have e : roomN 1048576 = 1048576 := by decide
  show ((0 : Nat) : Int) + (A.length : Int) ≤ roomN 1048576
  rw [e]
  omega

set_option maxHeartbeats 4000000 in
set_option maxRecDepth 20000 in
theorem moves_tail (w0 w : World) (va vb : Value) (A B : List UInt8) (n t : Int) (hA : Sl w va A) (hB : Sl w vb B) (hAl : A.length ≤ 100) (hBl : B.length ≤ 100) (hb0 : Below w0.heap.size w0 w) :
    ∃ p, Calls Try.prog 9 #[.int .i64 1048576] w fun e w1 => e = .returned (.pointer (some ⟨p, 0, none⟩)) ∧ Hid (
      Calls Try.prog 13 #[.pointer (some ⟨p, 0, none⟩), .string nmF, va] w1 fun e w2 => (∃ c, e = .returned (.int .i64 c)) ∧ Hid (
      Calls Try.prog 13 #[.pointer (some ⟨p, 0, none⟩), .string nmG, vb] w2 fun e w3 => (∃ c, e = .returned (.int .i64 c)) ∧ Hid (
      Calls Try.prog 17 #[.pointer (some ⟨p, 0, none⟩)] w3 fun e w4 => e = .returned (.tuple #[]) ∧ Hid (
      Calls Try.prog 16 #[.pointer (some ⟨p, 0, none⟩), .string nmG, .string nmF] w4 fun e w5 => (∃ c, e = .returned (.int .i64 c)) ∧ Hid (∀ (w5' : World) (vl : Value), Below w5.heap.size w5 w5' → Sl w5' vl later →
      Calls Try.prog 13 #[.pointer (some ⟨p, 0, none⟩), .string nmH, vl] w5' fun e w6 => (∃ c, e = .returned (.int .i64 c)) ∧ Hid (
      Calls Try.prog 20 #[.pointer (some ⟨p, 0, none⟩), .int .i64 n, .int .i64 t] w6 fun e w7 => ∃ q, e = .returned (.pointer (some ⟨q, 0, none⟩)) ∧ Hid (
      Calls Try.prog 24 #[.pointer (some ⟨q, 0, none⟩), .string nmF] w7 fun e w8 => ∃ v8, e = .returned (.tuple #[v8, .bool true]) ∧ Hid (Sl w8 v8 (if 1 ≤ n then B else A) ∧ Sl w8 va A ∧ Sl w8 vb B ∧ Below w0.heap.size w0 w8)))))))) := by
  refine ⟨w.heap.size, ?_⟩
  refine (new_any 1048576 w).mono ?_
  rintro e w1 ⟨rfl, d1, b1⟩
  have o1 : ∀ k, ext (fun _ => False) w w1 k → w.heap.size ≤ k := own_of_ext (fun _ h => h.elim) (Nat.le_refl _)
  refine ⟨rfl, ?_⟩
  refine (append_ok _ _ _ nmF va A w1 d1 (hA.below b1) (by decide +kernel) (hroom A hAl) (Or.inr (by decide)) (by show _ + _ + 2 ≤ _; simp [St.mass, mass, wmass]; omega)).mono ?_
  rintro e w2 ⟨rfl, d2, f2⟩
  refine ⟨⟨_, rfl⟩, ?_⟩
  have e1 : (⟨roomN 1048576, [], []⟩ : St).push (.app nmF A) = s1 A := rfl
  rw [e1] at d2
  have b2 : Below w.heap.size w w2 := b1.trans (f2.below o1 b1.size)
  have o2 := own_of_ext (w' := w2) o1 b1.size
  refine (append_ok _ _ _ nmG vb B w2 d2 (hB.below b2) (by decide +kernel) (by rw [s1_now]; show ((used [(⟨nmF, A⟩ : Fl)] : Nat) : Int) + _ ≤ 1048576; simp [used]; omega) (Or.inr (by rw [s1_now]; simp)) (by simp [s1, St.mass, mass, wmass, Ch.mass]; omega)).mono ?_
  rintro e w3 ⟨rfl, d3, f3⟩
  refine ⟨⟨_, rfl⟩, ?_⟩
  have e2 : (s1 A).push (.app nmG B) = s2 A B := rfl
  rw [e2] at d3
  have b3 : Below w.heap.size w w3 := b2.trans (f3.below o2 b2.size)
  have o3 := own_of_ext (w' := w3) o2 b2.size
  refine (sync_any _ _ _ w3 d3 (by simp [s2, St.mass, mass, wmass, Ch.mass]; omega)).mono ?_
  rintro e w4 ⟨rfl, d4, f4⟩
  refine ⟨rfl, ?_⟩
  have e3 : (⟨(s2 A B).room, (s2 A B).now, []⟩ : St) = s3 A B := by rw [s2_now]; rfl
  rw [e3] at d4
  have b4 : Below w.heap.size w w4 := b3.trans (f4.below o3 b3.size)
  have o4 := own_of_ext (w' := w4) o3 b3.size
  have hlk : look nmG [(⟨nmF, A⟩ : Fl), ⟨nmG, B⟩] = some ⟨nmG, B⟩ := by
    have h1 : (nmF = nmG) = False := eq_false (by decide)
    simp [look, h1]
  refine (move_some _ _ _ nmG nmF w4 d4 (by show (look nmG [(⟨nmF, A⟩ : Fl), ⟨nmG, B⟩]).isSome = true; rw [hlk]; rfl) (by decide +kernel) (by simp [s3, St.mass, mass, wmass]; omega)).mono ?_
  rintro e w5 ⟨rfl, d5, f5⟩
  refine ⟨⟨_, rfl⟩, ?_⟩
  have e4 : (s3 A B).push (.mov nmG nmF) = s4 A B := rfl
  rw [e4] at d5
  have b5 : Below w.heap.size w w5 := b4.trans (f5.below o4 b4.size)
  have o5 := own_of_ext (w' := w5) o4 b4.size
  intro w5' vl bx hS
  have b5' : Below w.heap.size w w5' := b5.trans (bx.mono b5.size)
  refine (append_ok _ _ _ nmH vl later w5' (d5.below bx) hS (by decide +kernel) (by rw [s4_now]; show ((used [(⟨nmF, B⟩ : Fl)] : Nat) : Int) + _ ≤ 1048576; simp [used, later]; omega) (Or.inr (by rw [s4_now]; simp)) (by simp [s4, St.mass, mass, wmass, Ch.mass, later]; omega)).mono ?_
  rintro e w6 ⟨rfl, d6, f6⟩
  refine ⟨⟨_, rfl⟩, ?_⟩
  have e5 : (s4 A B).push (.app nmH later) = s5 A B := rfl
  rw [e5] at d6
  have b6 : Below w.heap.size w w6 := b5'.trans (f6.below o5 b5'.size)
  refine (crash_any _ _ _ n t w6 d6 (by simp [s5, St.mass, mass, wmass, Ch.mass, later]; omega)).mono ?_
  rintro e w7 ⟨q, rfl, hq, d7, b7⟩
  refine ⟨q, rfl, ?_⟩
  have b7w : Below w.heap.size w w7 := b6.trans (b7.mono b6.size)
  have hmL : (⟨(s5 A B).room, leftOf (s5 A B) n t, []⟩ : St).mass ≤ 1000000000 := by
    have := s5_mass A B n t hAl hBl
    simp only [St.mass, wmass, List.map_nil, List.sum_nil, List.length_nil]
    omega
  refine (read_hit q _ _ nmF _ w7 d7 (s5_left A B n t) hmL).mono ?_
  rintro e w8 ⟨v8, rfl, hO8, b8⟩
  have b8w : Below w.heap.size w w8 := b7w.trans (b8.mono b7w.size)
  exact ⟨v8, rfl, Sl.of_own hO8, hA.below b8w, hB.below b8w, hb0.trans (b8w.mono hb0.size)⟩

/-- A slice cut to a hundred bytes, as the law does it. -/
theorem cut100 {w : World} {ao : Option Addr} {cap : Nat} {bs : List UInt8} (h : Sl w (.slice ao bs.length cap) bs) : ∃ A L, A.length ≤ 100 ∧ Sl w (.slice ao L cap) A ∧ ((¬ (100 : Int) < (bs.length : Int) ∧ L = bs.length) ∨ ((100 : Int) < (bs.length : Int) ∧ L = 100 ∧ ∀ w', (Instr.slice 32 (.slice ao bs.length cap) none (some (.int .i64 100)) none).run Try.prog w' = .ok (.slice ao 100 cap) w' ∧ (Instr.sliceAt 32 (.slice ao bs.length cap) none (some (.int .i64 100)) none).run Try.prog w' = .ok (.slice ao 100 cap) w')) := by
  by_cases hl : 100 < bs.length
  · refine ⟨bs.take 100, 100, by rw [List.length_take]; omega, h.take 100 (by omega), Or.inr ⟨by omega, rfl, fun w' => ?_⟩⟩
    obtain ⟨_, _, e, h1, _⟩ := h.shape
    simp only [Value.slice.injEq] at e
    exact slice_front ao bs.length cap 100 (by omega) (by omega) w'
  · exact ⟨bs, bs.length, by omega, h, Or.inl ⟨by omega, rfl⟩⟩

set_option maxHeartbeats 4000000 in
set_option maxRecDepth 20000 in
theorem diskMoves_any (ao : Option Addr) (capo : Nat) (os : List UInt8) (af : Option Addr) (capf : Nat) (fs : List UInt8) (n t : Int) (w : World) (hO : Sl w (.slice ao os.length capo) os) (hF : Sl w (.slice af fs.length capf) fs) :
    Calls Try.prog 7 #[.slice ao os.length capo, .slice af fs.length capf, .int .i64 n, .int .i64 t] w fun e w' => e = .returned (.bool true) ∧ Below w.heap.size w w' := by
  obtain ⟨A, LA, hAl, hSA, hA⟩ := cut100 hO
  obtain ⟨B, LB, hBl, hSB, hB⟩ := cut100 hF
  have HB : Hid (_) := begun_any w
  have HT : Hid (∀ w1, Below w.heap.size w w1 → _) := fun w1 (hb : Below w.heap.size w w1) => moves_tail w w1 _ _ A B n t (hSA.below hb) (hSB.below hb) hAl hBl hb
  clear hSA hSB hO hF hAl hBl
  generalize os.length = ol at *
  generalize fs.length = fl at *
  rcases hA with ⟨ha, rfl⟩ | ⟨ha, rfl, hra⟩ <;> rcases hB with ⟨hb, rfl⟩ | ⟨hb, rfl, hrb⟩
  all_goals (
    go_enter Try.func7, Try.ntmps7
    go_wp2_with (go_at_call 8; refine Calls.mono HB.out ?_; rintro e w1 ⟨rfl, hb1⟩; obtain ⟨p, hp⟩ := HT.out w1 hb1; have HP : Hid (_) := hp; clear hp)
    refine Calls.mono HP.out ?_
    rintro e w2 ⟨rfl, H2⟩
    simp only [nmF, nmG, nmH] at H2
    go_wp2_with fail
    refine Calls.mono H2.out ?_
    rintro e w3 ⟨⟨c3, rfl⟩, H3⟩
    go_wp2_with fail
    refine Calls.mono H3.out ?_
    rintro e w4 ⟨⟨c4, rfl⟩, H4⟩
    go_wp2_with fail
    refine Calls.mono H4.out ?_
    rintro e w5 ⟨rfl, H5⟩
    go_wp2_with fail
    refine Calls.mono H5.out ?_
    rintro e w6 ⟨⟨c6, rfl⟩, H6⟩
    have hcv := Lib.run_convert_bytes_const (P := Try.prog) w6 32 5 #[.int .u8 108, .int .u8 97, .int .u8 116, .int .u8 101, .int .u8 114] 5 5 Try.underlying32 Try.underlying5
    have hSl : Sl (w6.alloc (.cells #[.int .u8 108, .int .u8 97, .int .u8 116, .int .u8 101, .int .u8 114] 5 (5, 6))) _ later := sl_new w6 #[.int .u8 108, .int .u8 97, .int .u8 116, .int .u8 101, .int .u8 114] later 5 (5, 6) rfl (by decide)
    have H6' : Hid (_) := H6.out _ _ ((Below.refl _ _).alloc (Nat.le_refl _) _) hSl
    clear hSl
    go_wp2_with fail
    clear hcv
    refine Calls.mono H6'.out ?_
    rintro e w7 ⟨⟨c7, rfl⟩, H7⟩
    go_wp2_with fail
    refine Calls.mono H7.out ?_
    rintro e w8 ⟨q, rfl, H8⟩
    go_wp2_with fail
    refine Calls.mono H8.out ?_
    rintro e w9 ⟨v9, rfl, H9⟩
    obtain ⟨z1, z2, z3, z4⟩ := H9.out
    obtain ⟨ao9, cap9, rfl, _, _⟩ := z1.shape
    have k1 := str_of_sl (P := Try.prog) z1 32 5 9 Try.underlying32 Try.underlying5 Try.underlying9
    have k2 := str_of_sl (P := Try.prog) z2 32 5 9 Try.underlying32 Try.underlying5 Try.underlying9
    have k3 := str_of_sl (P := Try.prog) z3 32 5 9 Try.underlying32 Try.underlying5 Try.underlying9
    have HZ : Hid (Below w.heap.size w w9) := z4
    clear z1 z2 z3 z4 H2 H3 H4 H5 H6 H6' H7 H8 H9 HT HB HP
    by_cases hn : 1 ≤ n
    · rw [if_pos hn] at k1
      simp only [if_pos hn]
      generalize (if 1 ≤ n then B else A).length = l9 at *
      go_wp2
      go_ret
      exact ⟨by simp, HZ.out⟩
    · rw [if_neg hn] at k1
      have hn' : ¬ (1 : Int) ≤ n := hn
      go_wp2
      go_ret
      exact ⟨by simp, HZ.out⟩)
end Go.Proofs.Ytleelemcmnlfiaa
