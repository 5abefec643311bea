/- The law WalForged, behind its loop: a log opened on any files goes on. A log whose disk holds its file and nothing else, and what each call makes of it. Get's misses; the parts of the law WalEnds. The walk of the law WalEnds. A log that is open, with all blocks that are its own and its disk's: what each call makes of it, and that nothing else changes. -/
import Derived.Test.YtjndgekpdmlbiaaGreatDoorPart18
namespace Go.Proofs.YtjndgekpdmlbiaaGreatDoor.Wl
open Go.RowKit Dk

def Nm (fs : List Fl) : Prop := ∀ f ∈ fs, f.name.size ≤ maxLen
theorem nmW_size : nmW.size ≤ maxLen := by decide
theorem ins_nm (f : Fl) (hf : f.name.size ≤ maxLen) : ∀ fs : List Fl, Nm fs → Nm (Dk.ins f fs)
  | [], _ => fun x hx => by simp [Dk.ins] at hx; rw [hx]; exact hf
  | x :: r, h => by
    have ih := ins_nm f hf r (fun y hy => h y (List.mem_cons_of_mem _ hy))
    unfold Dk.ins
    split
    · intro y hy
      rcases List.mem_cons.1 hy with rfl | hy
      · exact hf
      · exact h y hy
    · intro y hy
      rcases List.mem_cons.1 hy with rfl | hy
      · exact h y List.mem_cons_self
      · exact ih y hy
theorem del_nm (n : ByteArray) (fs : List Fl) (h : Nm fs) : Nm (Dk.del n fs) := fun x hx => h x (List.mem_filter.1 hx).1
theorem strays_nm : ∀ (ns : List ByteArray) (s : St), Nm s.now → Nm (strays s ns).now
  | [], s, h => h
  | n :: ns, s, h => by
    have h2 : Nm (strayStep s n).now := by
      unfold strayStep rmStep
      split
      · split
        · rw [St.push_now]; exact del_nm n _ h
        · exact h
      · exact h
    have h1 := strays_nm ns (strayStep s n) h2
    unfold strays at h1 ⊢
    rw [List.foldl_cons]
    exact h1
theorem openS_nm (s : St) (h : Nm s.now) : Nm (openS s).now := by
  have h1 := strays_nm (s.now.map Fl.name) s h
  unfold openS
  split
  · rw [St.push_now]
    unfold Dk.ap
    simp only
    split
    · exact ins_nm _ nmW_size _ (del_nm _ _ h1)
    · exact h1
  · exact h1
theorem app_nm (fs : List Fl) (X : List UInt8) (h : Nm fs) : Nm (Dk.ap fs (.app nmW X)) := ins_nm _ nmW_size _ (del_nm _ _ h)
theorem fileB_long : ∀ (ds : List (List UInt8)) (n : Int), ds.length ≤ (fileB n ds).length
  | [], n => by simp [fileB]
  | d :: r, n => by
    have h1 := fileB_long r (n + 1)
    have h2 : 8 ≤ (recB n d).length := by unfold recB; rw [Fr.seal_len]; omega
    rw [fileB, List.length_cons, List.length_append]
    omega
theorem app_file (fs : List Fl) (X : List UInt8) : ((Dk.look nmW (Dk.ap fs (.app nmW X))).map Fl.bs).getD [] = ((Dk.look nmW fs).map Fl.bs).getD [] ++ X := by
  unfold Dk.ap
  simp only
  rw [look_ins ⟨nmW, _⟩ _ (del_ne nmW _)]
  rfl
theorem fileB_snoc (g : Int) (ds : List (List UInt8)) (d : List UInt8) (n : Int) (h : n = lastL g ds + 1) : fileB g ds ++ recB n d = fileB (if ds.length = 0 then n else g) (ds ++ [d]) := by
  unfold lastL at h
  rw [fileB_append]
  by_cases hd : ds.length = 0
  · have : ds = [] := List.eq_nil_of_length_eq_zero hd
    subst this
    simp [fileB]
  · rw [if_neg hd] at h ⊢
    have e : g + (ds.length : Int) = n := by omega
    rw [e]
    simp [fileB]

/-- A log that was opened on any files. -/
structure FG (w0 w : World) (p pd : Nat) (s : St) (F : Nat → Prop) (g : Int) (ds : List (List UInt8)) : Prop where
  lw : LW w w0.heap.size p pd s F g ds
  own : fileOf s nmW = fileB g ds
  room : s.room = 1048576
  len : s.now.length ≤ 20
  mass : s.mass ≤ 10000
  nm : Nm s.now
  inF : ∀ k, F k → w0.heap.size ≤ k
  bel : Below w0.heap.size w0 w
  small : (fileB g ds).length ≤ 5000
  d : ∀ d ∈ ds, d.length ≤ 32768
  g0 : ds ≠ [] → 1 ≤ g ∧ g + ds.length ≤ 9223372036854775808
theorem FG.below {w0 w w' : World} {p pd : Nat} {s : St} {F : Nat → Prop} {g : Int} {ds : List (List UInt8)} (h : FG w0 w p pd s F g ds) (hb : Below w.heap.size w w') : FG w0 w' p pd s F g ds :=
  ⟨h.lw.below hb, h.own, h.room, h.len, h.mass, h.nm, h.inF, h.bel.trans (hb.mono h.bel.size), h.small, h.d, h.g0⟩
theorem FG.open {w0 w : World} {pd : Nat} {s : St} {F : Nat → Prop} (hD : Dk w pd s F) (hT : ∀ u, Below w0.heap.size w0 u → Fr.Tab u) (hw0 : 0 < w0.heap.size) (hr : s.room = 1048576) (hl : s.now.length ≤ 20) (hm : s.mass ≤ 9000) (hn : Nm s.now) (hF : ∀ k, F k → w0.heap.size ≤ k) (hb : Below w0.heap.size w0 w) (hf : (fileOf s nmW).length ≤ 5000) (g : Int) (ds : List (List UInt8)) (hR : loadR (Fr.scanL (fileOf s nmW)).1 0 [] = (g, ds)) :
    Calls Tryz.prog 25 #[.pointer (some ⟨pd, 0, none⟩)] w fun e w' => ∃ p, e = .returned (.tuple #[.pointer (some ⟨p, 0, none⟩), .int .i64 0]) ∧ Hid (∃ F', FG w0 w' p pd (openS s) F' g ds ∧ ∀ k, F' k → F k ∨ w.heap.size ≤ k) := by
  have hs := hb.size
  refine (open_any pd s F w hD (hT w hb) (fun h0 => by have := hF 0 h0; omega) (by omega) hn (by omega) g ds hR).mono ?_
  rintro e w' ⟨p, rfl, ⟨F', hL, hF'⟩, hfr⟩
  obtain ⟨l1, l2, l3, l4, l5⟩ := load_any _ g ds hR
  have hml := openS_mass s
  have hll := openS_len s
  refine ⟨p, rfl, F', ⟨⟨hL.dk, ?_, hL.np, by have := hL.new; omega⟩, open_file s g ds hR, (openS_room s).trans hr, by omega, by omega, openS_nm s hn, fun k hk => ?_, hb.trans (hfr.below hF hs), Nat.le_trans l1.length_le hf, l3, l4⟩, hF'⟩
  · obtain ⟨vr, rs, G, a1, a2, a3⟩ := hL.lg
    exact ⟨vr, rs, G, a1, a2, fun k hk => ⟨(a3 k hk).1, by have := (a3 k hk).2; omega⟩⟩
  · rcases hF' k hk with hh | hh
    · exact hF k hh
    · omega
end Go.Proofs.YtjndgekpdmlbiaaGreatDoor.Wl
namespace Go.Proofs.YtjndgekpdmlbiaaGreatDoor.Wl
open Go.RowKit Dk

/-- The files are the log's own alone. -/
def nowF (fs : List Fl) (first : Int) (ds : List (List UInt8)) : Prop := (fs = [] ∧ ds = []) ∨ fs = [⟨nmW, fileB first ds⟩]
theorem nowF.len {fs : List Fl} {first : Int} {ds : List (List UInt8)} (h : nowF fs first ds) : fs.length ≤ 1 := by
  rcases h with ⟨rfl, _⟩ | rfl <;> simp
theorem nowF.used {fs : List Fl} {first : Int} {ds : List (List UInt8)} (h : nowF fs first ds) : Dk.used fs = (fileB first ds).length := by
  rcases h with ⟨rfl, rfl⟩ | rfl <;> simp [Dk.used, fileB]
theorem nowF.mass {fs : List Fl} {first : Int} {ds : List (List UInt8)} (h : nowF fs first ds) : Dk.mass fs ≤ (fileB first ds).length + 1 := by
  rcases h with ⟨rfl, rfl⟩ | rfl <;> simp [Dk.mass]
theorem nowF.nm {fs : List Fl} {first : Int} {ds : List (List UInt8)} (h : nowF fs first ds) : Nm fs := by
  intro f hf
  rcases h with ⟨rfl, rfl⟩ | rfl
  · simp at hf
  · rw [List.mem_singleton] at hf
    rw [hf]
    exact nmW_size
theorem nowF.look {fs : List Fl} {first : Int} {ds : List (List UInt8)} (h : nowF fs first ds) (hd : ds ≠ []) : Dk.look nmW fs = some ⟨nmW, fileB first ds⟩ := by
  rcases h with ⟨_, e⟩ | rfl
  · exact absurd e hd
  · exact look_one _
theorem nowF.file {fs : List Fl} {first : Int} {ds : List (List UInt8)} (h : nowF fs first ds) : ((Dk.look nmW fs).map Fl.bs).getD [] = fileB first ds := by
  rcases h with ⟨rfl, rfl⟩ | rfl
  · rfl
  · rw [look_one]; rfl
theorem nowF.app {fs : List Fl} {first : Int} {ds : List (List UInt8)} (h : nowF fs first ds) (n : Int) (b : List UInt8) (hm : mayL first ds n = true) : nowF (Dk.ap fs (.app nmW (recB n b))) (if ds.length = 0 then n else first) (ds ++ [b]) := by
  right
  obtain ⟨m1, m2⟩ : 1 ≤ n ∧ (ds.length = 0 ∨ n - 1 = (if ds.length = 0 then 0 else first + ds.length - 1)) := by simpa [mayL] using hm
  have hf : fileB first ds ++ recB n b = fileB (if ds.length = 0 then n else first) (ds ++ [b]) := by
    by_cases hz : ds.length = 0
    · rw [List.eq_nil_of_length_eq_zero hz]
      simp [fileB]
    · rw [if_neg hz, fileB_append]
      rw [if_neg hz] at m2
      have : n = first + ds.length := by
        rcases m2 with m2 | m2
        · exact absurd m2 hz
        · omega
      rw [this]
      simp [fileB]
  rcases h with ⟨rfl, rfl⟩ | rfl
  · rw [← hf]
    simp [ap, Dk.look, Dk.del, Dk.ins, fileB]
  · rw [← hf]
    simp [ap, Dk.look, Dk.del, Dk.ins]
theorem fileB_front (first : Int) (ds : List (List UInt8)) (k : Nat) (hk : k ≤ ds.length) : (fileB first ds).take (fileB first (ds.take k)).length = fileB first (ds.take k) := by
  rw [fileB_split first ds k hk, List.take_left]
theorem fileB_nil (a : Int) : fileB a [] = [] := rfl
theorem nowF.cut {fs : List Fl} {first : Int} {ds : List (List UInt8)} (h : nowF fs first ds) (k : Nat) (hk : k < ds.length) : nowF (Dk.ap fs (.cut nmW (fileB first (ds.take k)).length)) (if k = 0 then 0 else first) (ds.take k) := by
  right
  have hb : fileB (if k = 0 then 0 else first) (ds.take k) = fileB first (ds.take k) := by
    by_cases hz : k = 0
    · rw [hz]; rfl
    · rw [if_neg hz]
  rcases h with ⟨rfl, rfl⟩ | rfl
  · simp at hk
  · rw [hb]
    simp [ap, Dk.look, Dk.del, Dk.ins, fileB_front first ds k (by omega)]
theorem nowF.cut0 {fs : List Fl} {first : Int} {ds : List (List UInt8)} (h : nowF fs first ds) (hd : ds ≠ []) : nowF (Dk.ap fs (.cut nmW 0)) 0 [] := by
  right
  rcases h with ⟨rfl, rfl⟩ | rfl
  · simp at hd
  · simp [ap, Dk.look, Dk.del, Dk.ins, fileB]
theorem nmC_ne : nmC ≠ nmW := by decide
theorem nmW_ne : nmW ≠ nmC := by decide
theorem nlt_CW : Dk.nlt nmC nmW = False := by
  apply eq_false
  decide
/-- The copy beside the file. -/
theorem ap_copy (X Y : List UInt8) : Dk.ap [⟨nmW, X⟩] (.app nmC Y) = [⟨nmW, X⟩, ⟨nmC, Y⟩] := by
  simp [ap, Dk.look, Dk.del, Dk.ins, nmW_ne, nlt_CW]
theorem ap_move (X Y : List UInt8) : Dk.ap [⟨nmW, X⟩, ⟨nmC, Y⟩] (.mov nmC nmW) = [⟨nmW, Y⟩] := by
  simp [ap, Dk.look, Dk.del, Dk.ins, nmW_ne, nmC_ne]

theorem fileB_small : ∀ (ds : List (List UInt8)) (n : Int) (m : Nat), (∀ d ∈ ds, d.length ≤ m) → m ≤ 32768 → 0 ≤ n → n + ds.length ≤ 9223372036854775807 → (fileB n ds).length ≤ ds.length * (m + 28)
  | [], n, m, _, _, _, _ => by simp [fileB]
  | d :: ds, n, m, h, hm, h0, hb => by
    rw [List.length_cons] at hb
    have h1 := fileB_small ds (n + 1) m (fun x hx => h x (List.mem_cons_of_mem _ hx)) hm (by omega) (by omega)
    have hd := h d List.mem_cons_self
    have h2 := recB_size n d ⟨by omega, by omega⟩ (by omega)
    rw [fileB, List.length_append, List.length_cons, Nat.add_mul]
    omega

/-- A log that is open, all its memory and its disk's from w0 on. -/
def GD (w0 w : World) (p pd : Nat) (s : St) (first : Int) (ds : List (List UInt8)) : Prop := ∃ F, LW w w0.heap.size p pd s F first ds ∧ (∀ j, F j → w0.heap.size ≤ j) ∧ Below w0.heap.size w0 w
/-- What is asked of it besides. -/
structure Gs (s : St) (first : Int) (ds : List (List UInt8)) (N M : Nat) : Prop where
  room : s.room = 1048576
  now : nowF s.now first ds
  mass : s.mass ≤ M
  small : ∀ d ∈ ds, d.length ≤ 300
  len : ds.length ≤ N
  fit : 0 ≤ first ∧ first + ds.length ≤ 4611686018427387904
theorem Gs.file {s : St} {first : Int} {ds : List (List UInt8)} {N M : Nat} (h : Gs s first ds N M) : (fileB first ds).length ≤ ds.length * 328 := fileB_small ds first 300 h.small (by omega) h.fit.1 (by have := h.fit; omega)

theorem GD.below {w0 w w' : World} {p pd : Nat} {s : St} {first : Int} {ds : List (List UInt8)} (h : GD w0 w p pd s first ds) (hb : Below w.heap.size w w') : GD w0 w' p pd s first ds := by
  obtain ⟨F, h1, h2, h3⟩ := h
  exact ⟨F, h1.below hb, h2, h3.trans (hb.mono h3.size)⟩
theorem GD.next {w0 w w' : World} {p pd : Nat} {s' : St} {first' : Int} {ds' : List (List UInt8)} {F : Nat → Prop} (hF : ∀ j, F j → w0.heap.size ≤ j) (hb : Below w0.heap.size w0 w)
    (h : ∃ F', LW w' w0.heap.size p pd s' F' first' ds' ∧ (∀ k, F' k → F k ∨ w.heap.size ≤ k) ∧ Dk.Fr (fun k => F k ∨ w0.heap.size ≤ k) w w') : GD w0 w' p pd s' first' ds' := by
  obtain ⟨F', h1, h2, h3⟩ := h
  have hs := hb.size
  refine ⟨F', h1, fun j hj => ?_, hb.trans (h3.below (fun j hj => ?_) hs)⟩
  · rcases h2 j hj with hh | hh
    · exact hF j hh
    · omega
  · rcases hj with hh | hh
    · exact hF j hh
    · exact hh

/-- Append. -/
theorem GD.app {w0 w w2 : World} {p pd : Nat} {s : St} {first : Int} {ds : List (List UInt8)} {N M : Nat} (h : GD w0 w p pd s first ds) (hG : Gs s first ds N M) (hT : ∀ u, Below w0.heap.size w0 u → Fr.Tab u) (hN : N ≤ 80) (hM : M ≤ 100000) (n : Int) (bv : Value) (b : List UInt8) (hb : Below w.heap.size w w2) (hS : Sl w2 bv b) (haw : ∀ a m c, bv = .slice (some a) m c → a.block < w0.heap.size ∨ w.heap.size ≤ a.block)
    (hm : mayL first ds n = true) (hn : n ≤ 4611686018427387904) (hl : b.length ≤ 300) :
    Calls Tryz.prog 121 #[.pointer (some ⟨p, 0, none⟩), .int .i64 n, bv] w2 fun e w' => e = .returned (.int .i64 0) ∧ Hid (GD w0 w' p pd (s.push (.app nmW (recB n b))) (if ds.length = 0 then n else first) (ds ++ [b])) := by
  obtain ⟨F, hL, hF, hbw⟩ := h
  have hb2 : Below w0.heap.size w0 w2 := hbw.trans (hb.mono hbw.size)
  have hlt := hL.dk.lt
  have hfl := hG.file
  have hdl := hG.len
  have hms := hG.mass
  have m1 : 1 ≤ n := by
    unfold mayL at hm
    simp only [Bool.and_eq_true, decide_eq_true_eq] at hm
    exact hm.1
  have hrs := recB_size n b ⟨by omega, by omega⟩ (by omega)
  have hu := hG.now.used
  have hnl := hG.now.len
  refine (app_ok w0.heap.size p pd s F first ds n bv b w2 (hL.below hb) ⟨hS, fun a m c e hFa => ?_⟩ (hT w2 hb2) (by omega) hm (by omega) (by rw [hu, hG.room]; omega) (Or.inr (by omega)) (by omega) (by omega) (by omega)).mono ?_
  · rcases haw a m c e with hh | hh
    · have := hF _ hFa; omega
    · have := hlt _ hFa; omega
  · rintro e w' ⟨rfl, hX⟩
    refine ⟨rfl, GD.next (w := w2) hF hb2 ?_⟩
    exact hX
theorem Gs.app {s : St} {first : Int} {ds : List (List UInt8)} {N M : Nat} (h : Gs s first ds N M) (n : Int) (b : List UInt8) (hm : mayL first ds n = true) (hn : n ≤ 4611686018427387000) (hl : b.length ≤ 300) : Gs (s.push (.app nmW (recB n b))) (if ds.length = 0 then n else first) (ds ++ [b]) (N + 1) (M + 330) := by
  obtain ⟨m1, m2⟩ : 1 ≤ n ∧ (ds.length = 0 ∨ n - 1 = (if ds.length = 0 then 0 else first + ds.length - 1)) := by simpa [mayL] using hm
  have hrs := recB_size n b ⟨by omega, by omega⟩ (by omega)
  have h1 := h.mass
  have h2 := h.len
  have h3 := h.fit
  refine ⟨h.room, by rw [St.push_now]; exact h.now.app n b hm, by rw [St.push_mass]; simp only [Ch.mass]; omega, fun d hd => ?_, by rw [List.length_append, List.length_singleton]; omega, ?_⟩
  · rcases List.mem_append.1 hd with hd | hd
    · exact h.small d hd
    · rw [List.mem_singleton] at hd
      rw [hd]
      exact hl
  · rw [List.length_append, List.length_singleton]
    split
    · rename_i hz
      rw [hz]
      exact ⟨by omega, by omega⟩
    · rename_i hz
      rw [if_neg hz] at m2
      rcases m2 with m2 | m2
      · exact absurd m2 hz
      · exact ⟨h3.1, by omega⟩

/-- What From makes of the disk. -/
def fromS (s : St) (first : Int) (ds : List (List UInt8)) (k : Nat) : St := if k = ds.length then s else s.push (.cut nmW (fileB first (ds.take k)).length)
theorem cnt_le (first : Int) (ds : List (List UInt8)) (n : Int) (h0 : 0 ≤ n) : cnt first ds n ≤ ds.length := by
  unfold cnt
  by_cases h : lastL first ds ≤ n
  · rw [if_pos h]
    exact Nat.le_refl _
  · rw [if_neg h]
    unfold lastL at h
    by_cases hz : ds.length = 0
    · rw [if_pos hz] at h
      rw [hz]
      omega
    · rw [if_neg hz] at h
      omega
theorem GD.from {w0 w : World} {p pd : Nat} {s : St} {first : Int} {ds : List (List UInt8)} {N M : Nat} (h : GD w0 w p pd s first ds) (hG : Gs s first ds N M) (hN : N ≤ 80) (hM : M ≤ 100000) (n : Int) (k : Nat) (h1 : 1 ≤ n) (hn : n ≤ 9223372036854775807) (hk : cnt first ds (n - 1) = k) :
    Calls Tryz.prog 49 #[.pointer (some ⟨p, 0, none⟩), .int .i64 n] w fun e w' => e = .returned (.int .i64 0) ∧ Hid (GD w0 w' p pd (fromS s first ds k) (if k = 0 then 0 else first) (ds.take k)) := by
  obtain ⟨F, hL, hF, hbw⟩ := h
  have hkl := cnt_le first ds (n - 1) (by omega)
  have hdl := hG.len
  have hms := hG.mass
  rw [hk] at hkl
  by_cases he : k = ds.length
  · refine (from_same _ p pd s F first ds n w hL h1 hn (by rw [hk, he])).mono ?_
    rintro e w' ⟨rfl, m, rfl⟩
    refine ⟨rfl, F, ?_, hF, hbw.trans ⟨rfl, rfl, rfl, Nat.le_refl _, fun _ _ => rfl⟩⟩
    have hz := hL.fit.2.2
    have hf : (if k = 0 then 0 else first) = first := by
      split
      · exact (hz (List.eq_nil_of_length_eq_zero (by omega))).symm
      · rfl
    rw [hf, List.take_of_length_le (by omega), fromS, if_pos he]
    exact hL.drew m
  · have hne : ds ≠ [] := fun e => by rw [e] at hkl he; simp at hkl he; omega
    refine (from_ok _ p pd s F first ds n k ⟨nmW, fileB first ds⟩ w hL h1 hn hk (by omega) (by omega) (hG.now.look hne) rfl (by omega)).mono ?_
    rintro e w' ⟨rfl, hX⟩
    refine ⟨rfl, GD.next hF hbw ?_⟩
    rw [fromS, if_neg he]
    exact hX
theorem Gs.from {s : St} {first : Int} {ds : List (List UInt8)} {N M : Nat} (h : Gs s first ds N M) (k : Nat) (hk : k ≤ ds.length) (hz : ds = [] → first = 0) : Gs (fromS s first ds k) (if k = 0 then 0 else first) (ds.take k) N (M + 1) := by
  have h1 := h.mass
  have h2 := h.len
  have h3 := h.fit
  have hlen : (ds.take k).length ≤ N := by rw [List.length_take]; omega
  have hsm : ∀ d ∈ ds.take k, d.length ≤ 300 := fun d hd => h.small d (List.mem_of_mem_take hd)
  have hfit : 0 ≤ (if k = 0 then 0 else first) ∧ (if k = 0 then 0 else first) + (ds.take k).length ≤ 4611686018427387904 := by
    rw [List.length_take]
    split <;> constructor <;> omega
  unfold fromS
  by_cases he : k = ds.length
  · rw [if_pos he]
    have hf : (if k = 0 then 0 else first) = first := by
      split
      · exact (hz (List.eq_nil_of_length_eq_zero (by omega))).symm
      · rfl
    rw [hf] at hfit ⊢
    exact ⟨h.room, by rw [List.take_of_length_le (by omega)]; exact h.now, by omega, hsm, hlen, hfit⟩
  · rw [if_neg he]
    exact ⟨h.room, by rw [St.push_now]; exact h.now.cut k (by omega), by rw [St.push_mass]; simp only [Ch.mass]; omega, hsm, hlen, hfit⟩

/-- What Until makes of the disk. -/
def untilS (s : St) (first : Int) (ds : List (List UInt8)) (k : Nat) : St := if k = 0 then s else if k = ds.length then s.push (.cut nmW 0) else (s.push (.app nmC (fileB (first + k) (ds.drop k)))).push (.mov nmC nmW)
theorem GD.until {w0 w : World} {p pd : Nat} {s : St} {first : Int} {ds : List (List UInt8)} {N M : Nat} (h : GD w0 w p pd s first ds) (hG : Gs s first ds N M) (hT : ∀ u, Below w0.heap.size w0 u → Fr.Tab u) (hN : N ≤ 80) (hM : M ≤ 100000) (n : Int) (k : Nat) (h1 : 1 ≤ n) (hn : n ≤ 9223372036854775806) (hk : cnt first ds n = k) :
    Calls Tryz.prog 87 #[.pointer (some ⟨p, 0, none⟩), .int .i64 n] w fun e w' => e = .returned (.int .i64 0) ∧ Hid (GD w0 w' p pd (untilS s first ds k) (if k = ds.length then 0 else first + k) (ds.drop k)) := by
  obtain ⟨F, hL, hF, hbw⟩ := h
  have hkl := cnt_le first ds n (by omega)
  have hdl := hG.len
  have hms := hG.mass
  have hfl := hG.file
  have hfi := hG.fit
  rw [hk] at hkl
  by_cases h0 : k = 0
  · refine (until_same _ p pd s F first ds n w hL h1 hn (by rw [hk, h0])).mono ?_
    rintro e w' ⟨rfl, m, rfl⟩
    refine ⟨rfl, F, ?_, hF, hbw.trans ⟨rfl, rfl, rfl, Nat.le_refl _, fun _ _ => rfl⟩⟩
    have hz := hL.fit.2.2
    have hf : (if k = ds.length then 0 else first + k) = first := by
      split
      · exact (hz (List.eq_nil_of_length_eq_zero (by omega))).symm
      · rw [h0]; simp
    rw [hf, h0, List.drop_zero, untilS, if_pos rfl]
    exact hL.drew m
  · by_cases he : k = ds.length
    · have hne : ds ≠ [] := fun e => by rw [e] at he; simp at he; omega
      refine (until_all _ p pd s F first ds n ⟨nmW, fileB first ds⟩ w hL h1 hn (by rw [hk, he]) (by omega) (by omega) (by omega) (by omega) (hG.now.look hne) (by omega)).mono ?_
      rintro e w' ⟨rfl, hX⟩
      refine ⟨rfl, GD.next hF hbw ?_⟩
      rw [untilS, if_neg h0, if_pos he, if_pos he, List.drop_of_length_le (by omega)]
      exact hX
    · have hsp := congrArg List.length (fileB_split first ds k hkl)
      rw [List.length_append] at hsp
      have hnl := hG.now.len
      have hu := hG.now.used
      refine (until_some _ p pd s F first ds n k w hL (hT w hbw) h1 hn hk (by omega) (by omega) (by omega) (fun d hd => by have := hG.small d hd; omega) (by omega) (by omega) (by rw [hu, hG.room]; omega) (Or.inr (by omega)) (by omega)).mono ?_
      rintro e w' ⟨rfl, hX⟩
      refine ⟨rfl, GD.next hF hbw ?_⟩
      rw [untilS, if_neg h0, if_neg he, if_neg he]
      exact hX
theorem Gs.until {s : St} {first : Int} {ds : List (List UInt8)} {N M : Nat} (h : Gs s first ds N M) (k : Nat) (hk : k ≤ ds.length) (hz : ds = [] → first = 0) : Gs (untilS s first ds k) (if k = ds.length then 0 else first + k) (ds.drop k) N (M + (N * 328 + 3)) := by
  have h1 := h.mass
  have h2 := h.len
  have h3 := h.fit
  have hlen : (ds.drop k).length ≤ N := by rw [List.length_drop]; omega
  have hsm : ∀ d ∈ ds.drop k, d.length ≤ 300 := fun d hd => h.small d (List.mem_of_mem_drop hd)
  have hfit : 0 ≤ (if k = ds.length then 0 else first + k) ∧ (if k = ds.length then 0 else first + k) + (ds.drop k).length ≤ 4611686018427387904 := by
    rw [List.length_drop]
    split <;> constructor <;> omega
  unfold untilS
  by_cases h0 : k = 0
  · rw [if_pos h0]
    have hf : (if k = ds.length then 0 else first + k) = first := by
      split
      · exact (hz (List.eq_nil_of_length_eq_zero (by omega))).symm
      · rw [h0]; simp
    rw [hf] at hfit ⊢
    exact ⟨h.room, by rw [h0, List.drop_zero]; exact h.now, by omega, hsm, hlen, hfit⟩
  · rw [if_neg h0]
    have hne : ds ≠ [] := fun e => by rw [e] at hk; simp at hk; omega
    by_cases he : k = ds.length
    · rw [if_pos he, if_pos he]
      rw [if_pos he] at hfit
      refine ⟨h.room, ?_, by rw [St.push_mass]; simp only [Ch.mass]; omega, hsm, hlen, hfit⟩
      rw [St.push_now, List.drop_of_length_le (by omega)]
      exact h.now.cut0 hne
    · rw [if_neg he, if_neg he]
      rw [if_neg he] at hfit
      have hfl := h.file
      have hsp := congrArg List.length (fileB_split first ds k hk)
      rw [List.length_append] at hsp
      have hN2 : ds.length * 328 ≤ N * 328 := Nat.mul_le_mul_right _ h2
      refine ⟨h.room, ?_, by rw [St.push_mass, St.push_mass]; simp only [Ch.mass]; omega, hsm, hlen, hfit⟩
      right
      rw [St.push_now, St.push_now]
      rcases h.now with ⟨_, e⟩ | e
      · exact absurd e hne
      · rw [e, ap_copy, ap_move]

/-- Sync. -/
theorem GD.sync {w0 w : World} {p pd : Nat} {s : St} {first : Int} {ds : List (List UInt8)} (h : GD w0 w p pd s first ds) (hM : s.mass ≤ 1000000) :
    Calls Tryz.prog 57 #[.pointer (some ⟨p, 0, none⟩)] w fun e w' => e = .returned (.tuple #[]) ∧ Hid (GD w0 w' p pd ⟨s.room, s.now, []⟩ first ds) := by
  obtain ⟨F, hL, hF, hbw⟩ := h
  refine (sync_log _ p pd s F first ds w hL (by omega)).mono ?_
  rintro e w' ⟨rfl, hX, hf⟩
  have hs := hbw.size
  refine ⟨rfl, _, hX, fun j hj => ?_, hbw.trans (hf.below hF hs)⟩
  rcases hj with hh | hh
  · exact hF j hh
  · omega
theorem Gs.sync {s : St} {first : Int} {ds : List (List UInt8)} {N M : Nat} (h : Gs s first ds N M) : Gs ⟨s.room, s.now, []⟩ first ds N (N * 328 + 1) := by
  have h1 := h.now.mass
  have h2 := h.file
  have h3 : ds.length * 328 ≤ N * 328 := Nat.mul_le_mul_right _ h.len
  refine ⟨h.room, h.now, ?_, h.small, h.len, h.fit⟩
  simp only [St.mass, wmass]
  simp
  omega

/-- Crash of its disk: what is left stands on a disk of its own. -/
theorem GD.crash {w0 w : World} {p pd : Nat} {s : St} {first : Int} {ds : List (List UInt8)} (h : GD w0 w p pd s first ds) (hM : s.mass ≤ 1000000) (n t : Int) :
    Calls Tryz.prog 16 #[.pointer (some ⟨pd, 0, none⟩), .int .i64 n, .int .i64 t] w fun e w' => ∃ q, e = .returned (.pointer (some ⟨q, 0, none⟩)) ∧ Hid ((∃ F, Dk w' q ⟨s.room, Dk.leftOf s n t, []⟩ F ∧ (∀ j, F j → w0.heap.size ≤ j) ∧ Below w0.heap.size w0 w') ∧ GD w0 w' p pd s first ds) := by
  obtain ⟨F, hL, hF, hbw⟩ := id h
  refine (crash_any pd s F n t w hL.dk (by omega)).mono ?_
  rintro e w' ⟨q, rfl, hq, hD, hb⟩
  have hs := hbw.size
  refine ⟨q, rfl, ⟨_, hD, fun j hj => ?_, hbw.trans (hb.mono hs)⟩, h.below hb⟩
  rcases hj with hh | hh
  · exact hh.elim
  · omega

/-- Open of a disk. -/
theorem GD.open {w0 w : World} {q : Nat} {s : St} (hD : ∃ F, Dk w q s F ∧ (∀ j, F j → w0.heap.size ≤ j) ∧ Below w0.heap.size w0 w) (hT : ∀ u, Below w0.heap.size w0 u → Fr.Tab u) (hw0 : 0 < w0.heap.size) (hm : s.mass ≤ 1000000) (hn : Nm s.now) (hf : (fileOf s nmW).length ≤ 30000) (hlen : s.now.length ≤ 100) (first : Int) (ds : List (List UInt8)) (hR : loadR (Fr.scanL (fileOf s nmW)).1 0 [] = (first, ds)) :
    Calls Tryz.prog 25 #[.pointer (some ⟨q, 0, none⟩)] w fun e w' => ∃ p, e = .returned (.tuple #[.pointer (some ⟨p, 0, none⟩), .int .i64 0]) ∧ Hid (GD w0 w' p q (openS s) first ds ∧ Below w0.heap.size w w') := by
  obtain ⟨F, hD, hF, hb⟩ := hD
  have hs := hb.size
  refine (open_any q s F w hD (hT w hb) (fun h0 => by have := hF _ h0; omega) (by omega) hn hf first ds hR).mono ?_
  rintro e w' ⟨p, rfl, ⟨F', hL, hF'⟩, hf'⟩
  have hbb : Below w0.heap.size w w' := hf'.below hF hs
  refine ⟨p, rfl, ⟨F', ⟨hL.dk, ?_, hL.np, by have := hL.new; omega⟩, fun j hj => ?_, hb.trans hbb⟩, hbb⟩
  · obtain ⟨vr, rs, G, a1, a2, a3⟩ := hL.lg
    exact ⟨vr, rs, G, a1, a2, fun k hk => ⟨(a3 k hk).1, by have := (a3 k hk).2; omega⟩⟩
  · rcases hF' j hj with hh | hh
    · exact hF j hh
    · omega
end Go.Proofs.YtjndgekpdmlbiaaGreatDoor.Wl
namespace Go.Proofs.YtjndgekpdmlbiaaGreatDoor.Wl
open Go.RowKit Dk

set_option maxHeartbeats 1000000 in
theorem get_miss (B p pd : Nat) (s : St) (F : Nat → Prop) (first : Int) (ds : List (List UInt8)) (n : Int) (w : World) (h : LW w B p pd s F first ds) (hm : n < 1 ∨ n < first ∨ lastL first ds < n) :
    Calls Tryz.prog 81 #[.pointer (some ⟨p, 0, none⟩), .int .i64 n] w fun e w' => e = .returned (.tuple #[.slice none 0 0, .bool false]) ∧ ∃ m, w' = w.drewN m := by
  have HF : Hid (_) := h.first
  have HL : Hid (_) := h.last
  clear h
  generalize lastL first ds = l at *
  by_cases h1 : n < 1
  · go_enter Tryz.func81, Tryz.ntmps81
    go_wp2
    go_ret2
    exact ⟨rfl, 0, rfl⟩
  · by_cases h2 : n < first
    · go_enter Tryz.func81, Tryz.ntmps81
      go_wp2_with (go_at_call 50; refine Calls.mono HF.out ?_; rintro e w' ⟨rfl, hw⟩; have hw' := hw.symm; subst hw')
      go_ret2
      exact ⟨rfl, 0, rfl⟩
    · have h3 : l < n := by omega
      go_enter Tryz.func81, Tryz.ntmps81
      go_wp2_with (first
        | (go_at_call 50; refine Calls.mono HF.out ?_; rintro e w' ⟨rfl, hw⟩; have hw' := hw.symm; subst hw')
        | (go_at_call 48; refine Calls.mono HL.out ?_; rintro e w' ⟨rfl, m, rfl⟩))
      go_ret2
      exact ⟨rfl, m, rfl⟩

theorem load_good {fs : List Fl} {first : Int} {ds : List (List UInt8)} (h : nowF fs first ds) (room : Int) (hs : ∀ d ∈ ds, d.length ≤ 300) (h1 : ds ≠ [] → 1 ≤ first) (h0 : ds = [] → first = 0) (hfit : first + ds.length ≤ 9223372036854775808) :
    loadR (Fr.scanL (fileOf ⟨room, fs, []⟩ nmW)).1 0 [] = (first, ds) := by
  have hf : fileOf (⟨room, fs, []⟩ : St) nmW = fileB first ds := h.file
  rw [hf]
  by_cases hd : ds = []
  · rw [hd, h0 hd, fileB_nil, Fr.scan_nil]
    rfl
  · rw [load_file ds first (fun d hd => by have := hs d hd; omega) (h1 hd) hfit, if_neg (fun e => hd (List.eq_nil_of_length_eq_zero e))]
theorem openS_good {fs : List Fl} {first : Int} {ds : List (List UInt8)} (h : nowF fs first ds) (room : Int) (hs : ∀ d ∈ ds, d.length ≤ 300) (h1 : ds ≠ [] → 1 ≤ first) (h0 : ds = [] → first = 0) (hfit : first + ds.length ≤ 9223372036854775808) : openS ⟨room, fs, []⟩ = ⟨room, fs, []⟩ := by
  have hl := load_good h room hs h1 h0 hfit
  have hf : fileOf (⟨room, fs, []⟩ : St) nmW = fileB first ds := h.file
  have hst : strays ⟨room, fs, []⟩ ((⟨room, fs, []⟩ : St).now.map Fl.name) = ⟨room, fs, []⟩ := by
    rcases h with ⟨rfl, _⟩ | rfl
    · rfl
    · simp [St.now, Dk.run, strays, strayStep]
  unfold openS
  rw [hl, hst, hf, if_neg (Nat.lt_irrefl _)]

/-- The records that WalEnds writes. -/
def dE (k : Nat) : List (List UInt8) := (List.range k).map fun i => [UInt8.ofNat i, 7]
theorem dE_len (k : Nat) : (dE k).length = k := by simp [dE]
theorem dE_succ (k : Nat) : dE (k + 1) = dE k ++ [[UInt8.ofNat k, 7]] := by simp [dE, List.range_succ]
theorem dE_get (k i : Nat) (h : i < (dE k).length) : (dE k)[i] = [UInt8.ofNat i, 7] := by simp [dE]
theorem dE_take (k j : Nat) : (dE k).take j = dE (min k j) := by
  rw [dE, ← List.map_take, List.take_range, Nat.min_comm]
  rfl

theorem cnt_at (first : Int) (ds : List (List UInt8)) (j : Nat) (hd : ds ≠ []) : cnt first ds (first + j - 1) = min ds.length j := by
  have hz : ds.length ≠ 0 := fun e => hd (List.eq_nil_of_length_eq_zero e)
  unfold cnt lastL
  rw [if_neg hz]
  split <;> omega

/-- While WalEnds writes. -/
def EN (w0 w : World) (p pd : Nat) (first : Int) (k : Nat) : Prop := ∃ s, GD w0 w p pd s (if k = 0 then 0 else first) (dE k) ∧ Gs s (if k = 0 then 0 else first) (dE k) k (330 * k + 1)
theorem may_E (first : Int) (k : Nat) (h1 : 1 ≤ first) : mayL (if k = 0 then 0 else first) (dE k) (first + k) = true := by
  unfold mayL
  rw [dE_len]
  by_cases h : k = 0
  · subst h; simp; exact h1
  · simp only [h, if_false]
    simp
    omega
theorem EN.step {w0 w : World} {p pd k : Nat} {first : Int} (h : EN w0 w p pd first k) (hT : ∀ u, Below w0.heap.size w0 u → Fr.Tab u) (h1 : 1 ≤ first) (h2 : first ≤ 1099511627776) (hk : k < 60) :
    Calls Tryz.prog 121 #[.pointer (some ⟨p, 0, none⟩), .int .i64 (first + k), .slice (some ⟨w.heap.size, 0, none⟩) 2 2] (w.alloc (.cells #[.int .u8 (k : Int), .int .u8 7] 5)) fun e w' => e = .returned (.int .i64 0) ∧ Hid (EN w0 w' p pd first (k + 1)) := by
  obtain ⟨s, hG, hs⟩ := h
  have hba : Below w.heap.size w (w.alloc (.cells #[.int .u8 (k : Int), .int .u8 7] 5)) := (Below.refl _ _).alloc (Nat.le_refl _) _
  have hO : (w.alloc (.cells #[.int .u8 (k : Int), .int .u8 7] 5)).ownsRow 0 5 1 (.slice (some ⟨w.heap.size, 0, none⟩) 2 2) 2 (cells8 [UInt8.ofNat k, 7]) := by
    refine own_of_heap (heap_alloc_new _ _) (Nat.le_refl _) (by decide) rfl ?_
    simp [cells8]
    omega
  refine (hG.app hs hT (by omega) (by omega) (first + k) _ [UInt8.ofNat k, 7] hba (Sl.of_own hO) (fun a m c e => ?_) (may_E first k h1) (by omega) (by simp)).mono ?_
  · simp only [Value.slice.injEq, Option.some.injEq] at e
    rw [← e.1]
    exact Or.inr (Nat.le_refl _)
  · rintro e w' ⟨rfl, hX⟩
    refine ⟨rfl, s.push (.app nmW (recB (first + k) [UInt8.ofNat k, 7])), ?_, ?_⟩
    · have hX' := hX.out
      rw [dE_len] at hX'
      rw [dE_succ, if_neg (Nat.succ_ne_zero k)]
      by_cases hk0 : k = 0
      · subst hk0
        simpa using hX'
      · rw [if_neg hk0, if_neg hk0] at hX'
        exact hX'
    · have hX' := (hs.app (first + k) [UInt8.ofNat k, 7] (may_E first k h1) (by omega) (by simp))
      rw [dE_len] at hX'
      rw [dE_succ, if_neg (Nat.succ_ne_zero k)]
      have e : (if k = 0 then first + (k : Int) else if k = 0 then 0 else first) = first := by
        by_cases hk0 : k = 0
        · subst hk0; simp
        · simp [hk0]
      rw [e] at hX'
      exact ⟨hX'.room, hX'.now, by have := hX'.mass; omega, hX'.small, hX'.len, hX'.fit⟩

/-- What is left in the end. -/
def kE (N Fm : Nat) : Nat := min N Fm
def gE (N Fm Un : Nat) : Nat := min (kE N Fm) Un
def fE (first : Int) (N Fm Un : Nat) : Int := if gE N Fm Un = kE N Fm then 0 else first + gE N Fm Un
def lE (N Fm Un : Nat) : List (List UInt8) := (dE (kE N Fm)).drop (gE N Fm Un)
/-- A log of these. -/
def EF (w0 w : World) (r q : Nat) (first : Int) (N Fm Un : Nat) : Prop := ∃ s, GD w0 w r q s (fE first N Fm Un) (lE N Fm Un)

theorem EN.tail {w0 w : World} {p pd N Fm Un : Nat} {first : Int} (h : EN w0 w p pd first N) (hT : ∀ u, Below w0.heap.size w0 u → Fr.Tab u) (hw0 : 0 < w0.heap.size) (h1 : 1 ≤ first) (h2 : first ≤ 1099511627776) (hN : 1 ≤ N ∧ N ≤ 60) (hF : Fm ≤ 70) (hU : Un ≤ 70) :
    Calls Tryz.prog 49 #[.pointer (some ⟨p, 0, none⟩), .int .i64 (first + Fm)] w fun e w1 => e = .returned (.int .i64 0) ∧ Hid (Calls Tryz.prog 87 #[.pointer (some ⟨p, 0, none⟩), .int .i64 (first + Un - 1)] w1 fun e w2 => ∃ E : Int, e = .returned (.int .i64 E) ∧ ((1 ≤ first + Un - 1 ∧ E = 0) ∨ (¬ 1 ≤ first + Un - 1 ∧ E = 1)) ∧ Hid (Calls Tryz.prog 57 #[.pointer (some ⟨p, 0, none⟩)] w2 fun e w3 => e = .returned (.tuple #[]) ∧ Hid (Calls Tryz.prog 16 #[.pointer (some ⟨pd, 0, none⟩), .int .i64 (-1), .int .i64 0] w3 fun e w4 => ∃ q, e = .returned (.pointer (some ⟨q, 0, none⟩)) ∧ Hid (Calls Tryz.prog 25 #[.pointer (some ⟨q, 0, none⟩)] w4 fun e w5 => ∃ r, e = .returned (.tuple #[.pointer (some ⟨r, 0, none⟩), .int .i64 0]) ∧ Hid (EF w0 w5 r q first N Fm Un))))) := by
  obtain ⟨s, hG, hs⟩ := h
  rw [if_neg (by omega)] at hG hs
  have hne : dE N ≠ [] := fun e => by have := congrArg List.length e; rw [dE_len, List.length_nil] at this; omega
  have hc := cnt_at first (dE N) Fm hne
  rw [dE_len] at hc
  refine (hG.from hs (by omega) (by omega) (first + Fm) (kE N Fm) (by omega) (by omega) hc).mono ?_
  rintro e w1 ⟨rfl, hG1⟩
  refine ⟨rfl, ?_⟩
  have hs1 := hs.from (kE N Fm) (by rw [dE_len]; unfold kE; omega) (fun e => absurd e hne)
  have ht : (dE N).take (kE N Fm) = dE (kE N Fm) := by rw [dE_take]; congr 1; unfold kE; omega
  have hG1' := hG1.out
  rw [ht] at hs1 hG1'
  have hk60 : kE N Fm ≤ 60 := by unfold kE; omega
  have HU : Calls Tryz.prog 87 #[.pointer (some ⟨p, 0, none⟩), .int .i64 (first + Un - 1)] w1 fun e w2 => ∃ E : Int, e = .returned (.int .i64 E) ∧ ((1 ≤ first + Un - 1 ∧ E = 0) ∨ (¬ 1 ≤ first + Un - 1 ∧ E = 1)) ∧ Hid (∃ s2, GD w0 w2 p pd s2 (fE first N Fm Un) (lE N Fm Un) ∧ Gs s2 (fE first N Fm Un) (lE N Fm Un) 60 60000) := by
    by_cases hlow : 1 ≤ first + Un - 1
    · have hc2 : cnt (if kE N Fm = 0 then 0 else first) (dE (kE N Fm)) (first + Un - 1) = gE N Fm Un := by
        by_cases hk0 : kE N Fm = 0
        · rw [if_pos hk0, hk0]
          unfold gE
          rw [hk0, Nat.zero_min]
          simp [cnt, lastL, dE]
          omega
        · rw [if_neg hk0, cnt_at first (dE (kE N Fm)) Un (fun e => by have := congrArg List.length e; rw [dE_len, List.length_nil] at this; omega), dE_len]
          rfl
      refine (hG1'.until hs1 hT (by omega) (by omega) (first + Un - 1) (gE N Fm Un) hlow (by omega) hc2).mono ?_
      rintro e w2 ⟨rfl, hG2⟩
      have hs2 := hs1.until (gE N Fm Un) (by rw [dE_len]; unfold gE; omega) (fun e => by
        have := congrArg List.length e
        rw [dE_len, List.length_nil] at this
        rw [if_pos this])
      have hf : (if gE N Fm Un = (dE (kE N Fm)).length then 0 else (if kE N Fm = 0 then 0 else first) + (gE N Fm Un : Int)) = fE first N Fm Un := by
        rw [dE_len]
        unfold fE
        by_cases hg : gE N Fm Un = kE N Fm
        · rw [if_pos hg, if_pos hg]
        · rw [if_neg hg, if_neg hg, if_neg (fun e => hg (by unfold gE; rw [e, Nat.zero_min]))]
      have hG2' := hG2.out
      rw [hf] at hs2 hG2'
      refine ⟨0, rfl, Or.inl ⟨hlow, rfl⟩, _, hG2', ?_⟩
      exact ⟨hs2.room, hs2.now, by have := hs2.mass; omega, hs2.small, Nat.le_trans hs2.len hN.2, hs2.fit⟩
    · refine (until_low p (first + Un - 1) w1 (by omega)).mono ?_
      rintro e w2 ⟨rfl, rfl⟩
      have hUn : Un = 0 := by omega
      have hg0 : gE N Fm Un = 0 := by unfold gE; omega
      have hf : (if kE N Fm = 0 then 0 else first) = fE first N Fm Un := by
        unfold fE
        rw [hg0]
        by_cases hk0 : kE N Fm = 0
        · rw [if_pos hk0, if_pos hk0.symm]
        · rw [if_neg hk0, if_neg (fun e => hk0 e.symm)]
          simp
      have hl : dE (kE N Fm) = lE N Fm Un := by unfold lE; rw [hg0, List.drop_zero]
      rw [hf, hl] at hs1 hG1'
      refine ⟨1, rfl, Or.inr ⟨hlow, rfl⟩, _, hG1', ?_⟩
      exact ⟨hs1.room, hs1.now, by have := hs1.mass; omega, hs1.small, by have := hs1.len; omega, hs1.fit⟩
  refine HU.mono ?_
  rintro e w2 ⟨E, rfl, hE, s2, hG2, hs2⟩
  refine ⟨E, rfl, hE, ?_⟩
  have hm2 := hs2.mass
  refine (hG2.sync (by omega)).mono ?_
  rintro e w3 ⟨rfl, hG3⟩
  refine ⟨rfl, ?_⟩
  have hs3 := hs2.sync
  have hm3 := hs3.mass
  refine (GD.crash hG3 (by omega) (-1) 0).mono ?_
  rintro e w4 ⟨q, rfl, hD4, _⟩
  refine ⟨q, rfl, ?_⟩
  have hle : (⟨(⟨s2.room, s2.now, []⟩ : St).room, Dk.leftOf ⟨s2.room, s2.now, []⟩ (-1) 0, []⟩ : St) = ⟨s2.room, s2.now, []⟩ := rfl
  rw [hle] at hD4
  have hfit := hs3.fit
  have hz0 : lE N Fm Un = [] → fE first N Fm Un = 0 := fun e => by
    have := congrArg List.length e
    unfold lE at this
    rw [List.length_drop, dE_len, List.length_nil] at this
    unfold fE
    rw [if_pos (by unfold gE at *; omega)]
  have hz1 : lE N Fm Un ≠ [] → 1 ≤ fE first N Fm Un := fun e => by
    unfold fE
    split
    · rename_i hg
      exact absurd (by unfold lE; rw [hg]; exact List.drop_of_length_le (by rw [dE_len]; exact Nat.le_refl _)) e
    · omega
  have hld := load_good hs2.now s2.room hs2.small hz1 hz0 (by omega)
  have hfile := hs2.file
  have hlen := hs2.len
  have hfo : fileOf (⟨s2.room, s2.now, []⟩ : St) nmW = fileB (fE first N Fm Un) (lE N Fm Un) := hs2.now.file
  refine (GD.open hD4 hT hw0 (by omega) (hs2.now.nm) (by rw [hfo]; omega) (by have := hs2.now.len; exact Nat.le_trans this (by decide)) _ _ hld).mono ?_
  rintro e w5 ⟨r, rfl, hG5, _⟩
  exact ⟨r, rfl, _, hG5⟩

theorem EF.miss {w0 w : World} {r q N Fm Un : Nat} {first : Int} (h : EF w0 w r q first N Fm Un) (h1 : 1 ≤ first) (i : Nat) (hi : ¬ (Un ≤ i ∧ i < kE N Fm)) :
    Calls Tryz.prog 81 #[.pointer (some ⟨r, 0, none⟩), .int .i64 (first + i)] w fun e w' => e = .returned (.tuple #[.slice none 0 0, .bool false]) ∧ Hid (EF w0 w' r q first N Fm Un) := by
  obtain ⟨s, F, hL, hF, hb⟩ := h
  refine (get_miss _ r q s F _ _ (first + i) w hL ?_).mono ?_
  · right
    have hll : (lE N Fm Un).length = kE N Fm - gE N Fm Un := by unfold lE; rw [List.length_drop, dE_len]
    unfold lastL
    rw [hll]
    unfold fE
    by_cases hg : gE N Fm Un = kE N Fm
    · right
      rw [if_pos (by omega)]
      omega
    · rw [if_neg hg, if_neg (by unfold gE at *; omega)]
      unfold gE at *
      omega
  · rintro e w' ⟨rfl, m, rfl⟩
    exact ⟨rfl, s, F, hL.drew m, hF, hb.trans ⟨rfl, rfl, rfl, Nat.le_refl _, fun _ _ => rfl⟩⟩
theorem EF.hit {w0 w : World} {r q N Fm Un : Nat} {first : Int} (h : EF w0 w r q first N Fm Un) (h1 : 1 ≤ first) (h2 : first ≤ 1099511627776) (hN : N ≤ 60) (i : Nat) (hi : Un ≤ i ∧ i < kE N Fm) :
    Calls Tryz.prog 81 #[.pointer (some ⟨r, 0, none⟩), .int .i64 (first + i)] w fun e w' => ∃ g cap, e = .returned (.tuple #[.slice (some ⟨g, 0, none⟩) 2 cap, .bool true]) ∧ w'.cell? ⟨g, 0, none⟩ = some (.int .u8 (i : Int)) ∧ Hid (EF w0 w' r q first N Fm Un) := by
  obtain ⟨s, F, hL, hF, hb⟩ := h
  have hg : gE N Fm Un = Un := by unfold gE; omega
  have hkN : kE N Fm ≤ N := by unfold kE; omega
  have hll : (lE N Fm Un).length = kE N Fm - Un := by unfold lE; rw [List.length_drop, dE_len, hg]
  have hf : fE first N Fm Un = first + Un := by unfold fE; rw [if_neg (by omega), hg]
  have hd : (lE N Fm Un)[i - Un]'(by omega) = [UInt8.ofNat i, 7] := by
    simp only [lE, List.getElem_drop, hg]
    rw [dE_get]
    congr 2
    omega
  have hget := get_hit _ r q s F _ _ (i - Un) w hL (by omega) (by omega) (by omega) (by omega) (by rw [hd]; simp)
  rw [hf, hd, show first + (Un : Int) + ((i - Un : Nat) : Int) = first + i by omega] at hget
  refine hget.mono ?_
  rintro e w' ⟨v', rfl, hO, hbb⟩
  rcases own_shape hO with ⟨_, e0⟩ | ⟨g, cap, rfl, _⟩
  · simp at e0
  refine ⟨g, cap, rfl, ?_, s, F, hL.below hbb, hF, hb.trans (hbb.mono hb.size)⟩
  rw [hO.cellAt 0 (by simp)]
  simp [cells8]
  omega
theorem EF.last {w0 w : World} {r q N Fm Un : Nat} {first : Int} (h : EF w0 w r q first N Fm Un) (h1 : 1 ≤ first) :
    Calls Tryz.prog 48 #[.pointer (some ⟨r, 0, none⟩)] w fun e w' => ∃ l : Int, e = .returned (.int .i64 l) ∧ decide (l = 0) = decide (kE N Fm ≤ Un) ∧ Hid (Below w0.heap.size w0 w') := by
  obtain ⟨s, F, hL, hF, hb⟩ := h
  refine hL.last.mono ?_
  rintro e w' ⟨rfl, m, rfl⟩
  refine ⟨_, rfl, ?_, hb.trans ⟨rfl, rfl, rfl, Nat.le_refl _, fun _ _ => rfl⟩⟩
  have hll : (lE N Fm Un).length = kE N Fm - gE N Fm Un := by unfold lE; rw [List.length_drop, dE_len]
  rw [decide_eq_decide]
  unfold lastL
  rw [hll]
  unfold fE
  by_cases hg : gE N Fm Un = kE N Fm
  · rw [if_pos (by omega)]
    unfold gE at *
    omega
  · rw [if_neg hg, if_neg (by unfold gE at *; omega)]
    unfold gE at *
    omega
end Go.Proofs.YtjndgekpdmlbiaaGreatDoor.Wl
namespace Go.Proofs.YtjndgekpdmlbiaaGreatDoor.Wl
open Go.RowKit Dk

theorem room_M : roomN 1048576 = 1048576 := by decide
theorem openS_empty (R : Int) : openS ⟨R, [], []⟩ = ⟨R, [], []⟩ := by
  have hf : fileOf (⟨R, [], []⟩ : St) nmW = [] := rfl
  unfold openS
  rw [hf, Fr.scan_nil]
  rfl
/-- A new disk and a log on it. -/
theorem fresh_any {w0 w1 : World} (hb1 : Below w0.heap.size w0 w1) (hT : ∀ u, Below w0.heap.size w0 u → Fr.Tab u) (hw0 : 0 < w0.heap.size) : Calls Tryz.prog 9 #[.int .i64 1048576] w1 fun e w2 => ∃ pd, e = .returned (.pointer (some ⟨pd, 0, none⟩)) ∧ Hid (Calls Tryz.prog 25 #[.pointer (some ⟨pd, 0, none⟩)] w2 fun e w3 => ∃ p, e = .returned (.tuple #[.pointer (some ⟨p, 0, none⟩), .int .i64 0]) ∧ Hid (GD w0 w3 p pd ⟨1048576, [], []⟩ 0 [])) := by
  refine (new_any 1048576 w1).mono ?_
  rintro e w2 ⟨rfl, hD2, hb2⟩
  rw [room_M] at hD2
  refine ⟨_, rfl, ?_⟩
  have hs1 := hb1.size
  have hb2' : Below w0.heap.size w0 w2 := hb1.trans (hb2.mono hs1)
  have hf : fileOf (⟨1048576, [], []⟩ : St) nmW = [] := rfl
  refine (GD.open (w0 := w0) ⟨_, hD2, fun j hj => ?_, hb2'⟩ hT hw0 (by simp [St.mass, Dk.mass, wmass]) (fun f hf => by simp [St.now, Dk.run] at hf) (by rw [hf]; decide) (by simp [St.now, Dk.run]) 0 [] (by rw [hf, Fr.scan_nil]; rfl)).mono ?_
  · rcases hj with hh | hh
    · exact hh.elim
    · omega
  · rintro e w3 ⟨p, rfl, hG, _⟩
    rw [openS_empty] at hG
    exact ⟨p, rfl, hG⟩
theorem Gs_empty : Gs ⟨1048576, [], []⟩ 0 [] 0 1 := ⟨rfl, Or.inl ⟨rfl, rfl⟩, by simp [St.mass, Dk.mass, wmass], by simp, by simp, by simp⟩

end Go.Proofs.YtjndgekpdmlbiaaGreatDoor.Wl
namespace Go.Proofs.YtjndgekpdmlbiaaGreatDoor.Wl
open Go.RowKit Dk

/-- A log and its disk, their blocks among H. -/
def LX (w : World) (p pd : Nat) (s : St) (H : Nat → Prop) (first : Int) (ds : List (List UInt8)) : Prop :=
  ∃ F vr rs G, Dk w pd s F ∧ Lg w p pd first vr rs G ∧ rs.map Re.data = ds ∧ (∀ k, G k → ¬ F k) ∧ ¬ F p ∧ (∀ k, F k → H k) ∧ (∀ k, G k → H k) ∧ H p ∧ ∀ k, H k → k < w.heap.size
theorem LX.lw {w : World} {p pd : Nat} {s : St} {H : Nat → Prop} {first : Int} {ds : List (List UInt8)} (h : LX w p pd s H first ds) : ∃ F, LW w 0 p pd s F first ds ∧ ∀ k, F k → H k := by
  obtain ⟨F, vr, rs, G, h1, h2, h3, h4, h5, h6, h7, h8, h9⟩ := h
  exact ⟨F, ⟨h1, ⟨vr, rs, G, h2, h3, fun k hk => ⟨h4 k hk, Nat.zero_le _⟩⟩, h5, Nat.zero_le _⟩, h6⟩
theorem LX.lt {w : World} {p pd : Nat} {s : St} {H : Nat → Prop} {first : Int} {ds : List (List UInt8)} (h : LX w p pd s H first ds) : ∀ k, H k → k < w.heap.size := by
  obtain ⟨F, vr, rs, G, h1, h2, h3, h4, h5, h6, h7, h8, h9⟩ := h
  exact h9
/-- What else happens leaves it. -/
theorem LX.kept {w w' : World} {p pd : Nat} {s : St} {H K : Nat → Prop} {first : Int} {ds : List (List UInt8)} (h : LX w p pd s H first ds) (hf : Dk.Fr K w w') (hd : ∀ k, H k → ¬ K k) : LX w' p pd s H first ds := by
  obtain ⟨F, vr, rs, G, h1, h2, h3, h4, h5, h6, h7, h8, h9⟩ := h
  exact ⟨F, vr, rs, G, h1.kept hf (fun k hk => hd k (h6 k hk)), h2.kept hf (fun k hk => hd k (h7 k hk)) (hd p h8), h3, h4, h5, h6, h7, h8, fun k hk => Nat.lt_of_lt_of_le (h9 k hk) hf.size⟩
theorem LX.below {w w' : World} {p pd : Nat} {s : St} {H : Nat → Prop} {first : Int} {ds : List (List UInt8)} (h : LX w p pd s H first ds) (hb : Below w.heap.size w w') : LX w' p pd s H first ds := h.kept (K := fun _ => False) (Fr.of_below hb) (fun _ _ => id)
theorem LX.drew {w : World} {p pd : Nat} {s : St} {H : Nat → Prop} {first : Int} {ds : List (List UInt8)} (h : LX w p pd s H first ds) (m : Nat) : LX (w.drewN m) p pd s H first ds := h.below ⟨rfl, rfl, rfl, Nat.le_refl _, fun _ _ => rfl⟩
theorem LX.zero {w : World} {p pd : Nat} {s : St} {H : Nat → Prop} {first : Int} {ds : List (List UInt8)} (h : LX w p pd s H first ds) : ds = [] → first = 0 := by
  obtain ⟨F, hL, _⟩ := h.lw
  exact hL.fit.2.2
theorem below_drew (w : World) (m : Nat) : Below w.heap.size w (w.drewN m) := ⟨rfl, rfl, rfl, Nat.le_refl _, fun _ _ => rfl⟩
theorem ext_of_lt {H : Nat → Prop} {w w' : World} (k : Nat) (h : H k) : ext H w w' k := Or.inl h
/-- Once more, with more blocks. -/
theorem LX.wide {w w' : World} {p pd : Nat} {s : St} {H : Nat → Prop} {first : Int} {ds : List (List UInt8)} (h : LX w' p pd s H first ds) : LX w' p pd s (ext H w w') first ds := by
  obtain ⟨F, vr, rs, G, h1, h2, h3, h4, h5, h6, h7, h8, h9⟩ := h
  exact ⟨F, vr, rs, G, h1, h2, h3, h4, h5, fun k hk => Or.inl (h6 k hk), fun k hk => Or.inl (h7 k hk), Or.inl h8, fun k hk => by
    rcases hk with hk | hk
    · exact h9 k hk
    · omega⟩

/-- Sync. -/
theorem LX.sync {w : World} {p pd : Nat} {s : St} {H : Nat → Prop} {first : Int} {ds : List (List UInt8)} (h : LX w p pd s H first ds) (hm : s.mass ≤ 1000000) :
    Calls Tryz.prog 57 #[.pointer (some ⟨p, 0, none⟩)] w fun e w' => e = .returned (.tuple #[]) ∧ Hid (LX w' p pd ⟨s.room, s.now, []⟩ (ext H w w') first ds ∧ Dk.Fr H w w') := by
  obtain ⟨F, vr, rs, G, h1, h2, rfl, h4, h5, h6, h7, h8, h9⟩ := h
  have hW : LW w 0 p pd s F first (rs.map Re.data) := ⟨h1, ⟨vr, rs, G, h2, rfl, fun k hk => ⟨h4 k hk, Nat.zero_le _⟩⟩, h5, Nat.zero_le _⟩
  have c0 := hW.cell0
  have HA : Hid (_) := sync_any pd s F w h1 (by omega)
  have HX : Hid (∀ w', Dk w' pd ⟨s.room, s.now, []⟩ (ext F w w') → Dk.Fr F w w' → LX w' p pd ⟨s.room, s.now, []⟩ (ext H w w') first (rs.map Re.data) ∧ Dk.Fr H w w') := by
    intro w' hD hf
    have hs := hf.size
    refine ⟨⟨_, vr, rs, G, hD, h2.kept hf (fun k hk hF => h4 k hk hF) h5, rfl, fun k hk hF => ?_, fun hF => ?_, fun k hk => ?_, fun k hk => Or.inl (h7 k hk), Or.inl h8, fun k hk => ?_⟩, hf.mono (fun k _ hk => h6 k hk)⟩
    · rcases hF with hF | hF
      · exact h4 k hk hF
      · have := h2.lt k hk; omega
    · rcases hF with hF | hF
      · exact h5 hF
      · have := h2.plt; omega
    · rcases hk with hk | hk
      · exact Or.inl (h6 k hk)
      · exact Or.inr hk
    · rcases hk with hk | hk
      · have := h9 k hk; omega
      · omega
  clear hW h1 h2 h4 h5 h6 h7 h8 h9
  go_enter Tryz.func57, Tryz.ntmps57
  go_wp2_with (go_at_call 96; refine Calls.mono HA.out ?_; rintro e w1 ⟨rfl, g1, g2⟩; have HF : Hid (_) := HX.out w1 g1 g2; clear g1 g2)
  go_end0
  exact ⟨rfl, HF.out⟩

set_option maxHeartbeats 2000000 in
/-- Append. -/
theorem LX.app {w : World} {p pd : Nat} {s : St} {H : Nat → Prop} {first : Int} {ds : List (List UInt8)} (h : LX w p pd s H first ds) (ht : Fr.Tab w) (n : Int) (bv : Value) (b : List UInt8) (hS : SlA w bv b H) (hn : n ≤ 9223372036854775807) (hm : mayL first ds n = true) (hl : b.length ≤ 32768)
    (hr : (used s.now : Int) + (recB n b).length ≤ s.room) (hf : (Dk.look nmW s.now).isSome = true ∨ s.now.length < 64) (hms : s.mass + 40000 ≤ 1000000000) (hdl : ds.length ≤ 100000) (hfl : (fileB first ds).length ≤ 900000000) :
    Calls Tryz.prog 121 #[.pointer (some ⟨p, 0, none⟩), .int .i64 n, bv] w fun e w' => e = .returned (.int .i64 0) ∧ Hid (LX w' p pd (s.push (.app nmW (recB n b))) (ext H w w') (if ds.length = 0 then n else first) (ds ++ [b]) ∧ Dk.Fr H w w') := by
  obtain ⟨F, vr, rs, G, d1, d2, rfl, d4, d5, d6, d7, d8, d9⟩ := h
  have hW : LW w 0 p pd s F first (rs.map Re.data) := ⟨d1, ⟨vr, rs, G, d2, rfl, fun k hk => ⟨d4 k hk, Nat.zero_le _⟩⟩, d5, Nat.zero_le _⟩
  obtain ⟨aob, capb, rfl, _, _⟩ := hS.sl.shape
  have HM : Hid (_) := hW.may n hn
  rw [hm] at HM
  obtain ⟨m1, m2⟩ : 1 ≤ n ∧ ((rs.map Re.data).length = 0 ∨ n - 1 = (if (rs.map Re.data).length = 0 then 0 else first + (rs.map Re.data).length - 1)) := by simpa [mayL] using hm
  have hrs := recB_size n b ⟨by omega, hn⟩ hl
  obtain ⟨X, HX⟩ : ∃ X, Hid (X = recB n b) := ⟨_, (rfl : _ = _)⟩
  rw [← HX.out] at hr hrs ⊢
  obtain ⟨f', Hf'⟩ : ∃ f', Hid (f' = if (rs.map Re.data).length = 0 then n else first) := ⟨_, (rfl : _ = _)⟩
  rw [← Hf'.out]
  obtain ⟨PP, HPP⟩ : ∃ PP : World → Prop, Hid (PP = fun w' => LX w' p pd (s.push (.app nmW X)) (ext H w w') f' (rs.map Re.data ++ [b]) ∧ Dk.Fr H w w') := ⟨_, (rfl : _ = _)⟩
  have HC : Hid (∀ m, Calls Tryz.prog 137 #[.int .i64 n, .slice aob b.length capb] (w.drewN m) fun e w2 => ∃ ao cap, e = .returned (.slice ao X.length cap) ∧ w2.cell? ⟨p, 0, none⟩ = some (.pointer (some ⟨pd, 0, none⟩)) ∧ Hid (Calls Tryz.prog 132 #[.pointer (some ⟨pd, 0, none⟩), .string nmW, .slice ao X.length cap] w2 fun e w3 => e = .returned (.int .i64 0) ∧ Hid (Calls Tryz.prog 58 #[.slice aob b.length capb] w3 fun e w4 => ∃ ao4 cap4, e = .returned (.slice ao4 b.length cap4) ∧ Hid (Calls Tryz.prog 76 #[.pointer (some ⟨p, 0, none⟩), .int .i64 n, .slice ao4 b.length cap4, .int .i64 (X.length : Int)] w4 fun e w5 => e = .returned (.tuple #[]) ∧ Hid (PP w5))))) := by
    intro m
    have hb1 := below_drew w m
    refine (seal_any n (.slice aob b.length capb) b (w.drewN m) (hS.sl.below hb1) (ht.drew m) ⟨by omega, hn⟩ hl).mono ?_
    rintro e w2 ⟨ao, L, cap, rfl, hO, hb2⟩
    have hb2' : Below w.heap.size w w2 := hb1.trans hb2
    have hSX := Sl.of_own hO
    obtain ⟨ao', cap', e2, _, _⟩ := hSX.shape
    simp only [Value.slice.injEq] at e2
    obtain ⟨rfl, rfl, rfl⟩ := e2
    rw [← HX.out] at hSX ⊢
    have hW2 := hW.below hb2'
    refine ⟨ao, cap, rfl, hW2.cell0, ?_⟩
    refine (append_ok pd s F nmW _ X w2 hW2.dk hSX (by decide) hr hf (by omega)).mono ?_
    rintro e w3 ⟨rfl, hD3, hf3⟩
    refine ⟨rfl, ?_⟩
    have hs2 := hb2'.size
    have hs3 := hf3.size
    have hSF : SlA w (.slice aob b.length capb) b F := ⟨hS.sl, fun a m c e hFa => hS.away a m c e (d6 _ hFa)⟩
    refine (clone_any _ b w3 (SlA.kept (SlA.kept hSF (Fr.of_below hb2')) hf3).sl (by omega)).mono ?_
    rintro e w4 ⟨v4, rfl, hO4, hb4⟩
    have hS4 := Sl.of_own hO4
    obtain ⟨ao4, cap4, rfl, _, _⟩ := hS4.shape
    refine ⟨ao4, cap4, rfl, ?_⟩
    have hL3 : Lg w3 p pd first vr rs G := (d2.below hb2').kept hf3 (fun k hk hF => d4 k hk hF) d5
    have hL := hL3.below hb4
    have hD4 := hD3.below hb4
    have hLG := d2.lt
    have hp3 := d2.plt
    have hF3 := hD3.lt
    have hs4 := hb4.size
    have hNew : Bn.New w3 w4 (.slice ao4 b.length cap4) := Bn.New.of_own hO4 (Nat.le_refl _)
    have hsize : sizeK first rs rs.length = (fileB first (rs.map Re.data)).length := by
      unfold sizeK
      rw [List.take_of_length_le (by simp)]
    rw [List.length_map] at hdl m2
    refine (add_any p pd first vr rs G (fun k => ∃ a m c, Value.slice ao4 b.length cap4 = .slice (some a) m c ∧ k = a.block) n (.slice ao4 b.length cap4) b X.length w4 hL ⟨hS4, fun a m c e hn => hn ⟨a, m, c, e, rfl⟩⟩ ?_ (by rw [HX.out]) ⟨m1, hn⟩ ?_ (by omega) (by rw [hsize]; omega)).mono ?_
    · rintro k ⟨a, m, c, e, rfl⟩
      have hk := hNew a m c e
      refine ⟨fun hG' => ?_, ?_, hk.2⟩
      · have := hLG _ hG'
        omega
      · omega
    · intro hne
      have hz : rs.length ≠ 0 := fun e => hne (List.eq_nil_of_length_eq_zero e)
      rcases m2 with m2 | m2
      · exact absurd m2 hz
      · rw [if_neg hz] at m2
        omega
    · rintro e w5 ⟨rfl, ⟨vr', fin, hL5⟩, hf5⟩
      have hs5 := hf5.size
      have hff : f' = if rs.length = 0 then n else first := by rw [Hf'.out, List.length_map]
      refine ⟨rfl, ?_⟩
      rw [HPP.out]
      refine ⟨⟨ext F w2 w3, vr', rs ++ [⟨_, b, fin⟩], _, hD4.kept hf5 (fun k hk hG' => ?_), by rw [hff]; exact hL5, by simp, fun k hk hF => ?_, fun hF => ?_, fun k hk => ?_, fun k hk => ?_, Or.inl d8, fun k hk => ?_⟩, ?_⟩
      · rcases hk with hk | hk
        · rcases hG' with hG' | rfl
          · exact d4 k hG' hk
          · exact d5 hk
        · rcases hG' with hG' | rfl
          · have := hLG k hG'; omega
          · omega
      · rcases hk with (hk | ⟨a, m, c, e, rfl⟩) | hk
        · rcases hF with hF | hF
          · exact d4 k hk hF
          · have := hLG k hk; omega
        · have h1 := (hNew a m c e).1
          have h2 := hF3 _ hF
          omega
        · have h2 := hF3 _ hF
          omega
      · rcases hF with hF | hF
        · exact d5 hF
        · omega
      · rcases hk with hk | hk
        · exact Or.inl (d6 k hk)
        · exact Or.inr (by omega)
      · rcases hk with (hk | ⟨a, m, c, e, rfl⟩) | hk
        · exact Or.inl (d7 k hk)
        · have h1 := hNew a m c e
          exact Or.inr (by omega)
        · exact Or.inr (by omega)
      · rcases hk with hk | hk
        · have := d9 k hk; omega
        · omega
      · refine (((Fr.of_below hb2').trans (hf3.mono (G := H) (fun k _ hk => d6 k hk)) (fun _ _ h => h)).trans (Fr.of_below hb4) (fun _ _ h => h)).trans hf5 (fun k _ hG' => ?_)
        rcases hG' with hG' | rfl
        · exact d7 k hG'
        · exact d8
  have HP := HPP.out
  rw [funext_iff] at HP
  simp only [← HP]
  clear hW hS ht hn hm hr hf hms hdl hfl m1 m2 hrs d1 d2 d4 d5 d6 d7 d8 d9 HP HPP
  have hl' : ¬ (32768 : Int) < (b.length : Int) := by omega
  simp only [nmW] at HC
  go_enter Tryz.func121, Tryz.ntmps121
  go_wp2_with (first
    | (go_at_call 75; refine Calls.mono HM.out ?_; rintro e w1 ⟨rfl, m, rfl⟩; have HC1 : Hid (_) := HC.out m; clear HC)
    | (go_at_call 137; refine Calls.mono HC1.out ?_; rintro e w2 ⟨ao2, cap2, rfl, c2, HC2⟩; clear HC1)
    | (go_at_call 132; refine Calls.mono HC2.out ?_; rintro e w3 ⟨rfl, HC3⟩; clear HC2)
    | (go_at_call 58; refine Calls.mono HC3.out ?_; rintro e w4 ⟨ao4, cap4, rfl, HC4⟩; clear HC3)
    | (go_at_call 76; refine Calls.mono HC4.out ?_; rintro e w5 ⟨rfl, HC5⟩; clear HC4))
  go_ret
  exact ⟨rfl, HC5⟩
end Go.Proofs.YtjndgekpdmlbiaaGreatDoor.Wl
