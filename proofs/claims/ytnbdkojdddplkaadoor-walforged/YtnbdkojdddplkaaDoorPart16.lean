/- Opening a log makes no file and adds little. The law WalForged, behind its loop: a log opened on any files goes on. The law WalForged, behind its loop: Append, Sync, a crash, Open, Get. The law's Cut and Short. -/
import Derived.Test.YtnbdkojdddplkaaDoorPart15
namespace Go.Proofs.YtnbdkojdddplkaaDoor.Wl
open Go.RowKit Dk

theorem ins_len (f : Fl) : ∀ fs : List Fl, (Dk.ins f fs).length = fs.length + 1
  | [] => rfl
  | x :: r => by
    unfold Dk.ins
    split
    · rfl
    · rw [List.length_cons, ins_len f r, List.length_cons]
theorem del_len (n : ByteArray) (fs : List Fl) : (Dk.del n fs).length ≤ fs.length := List.length_filter_le _ _
theorem del_len_lt {n : ByteArray} {f : Fl} : ∀ {fs : List Fl}, Dk.look n fs = some f → (Dk.del n fs).length + 1 ≤ fs.length
  | [], h => by simp [Dk.look] at h
  | x :: r, h => by
    unfold Dk.del
    by_cases hx : x.name = n
    · rw [List.filter_cons_of_neg (by simpa using hx), List.length_cons]
      have := del_len n r
      unfold Dk.del at this
      omega
    · have hr : Dk.look n r = some f := by
        unfold Dk.look at h ⊢
        rw [List.find?_cons_of_neg (by simpa using hx)] at h
        exact h
      have ih := del_len_lt hr
      rw [List.filter_cons_of_pos (by simpa using hx), List.length_cons, List.length_cons]
      unfold Dk.del at ih
      omega
theorem stray_len (s : St) (n : ByteArray) : (strayStep s n).now.length ≤ s.now.length := by
  unfold strayStep rmStep
  split
  · split
    · rw [St.push_now]
      exact del_len n _
    · exact Nat.le_refl _
  · exact Nat.le_refl _
theorem strays_len : ∀ (ns : List ByteArray) (s : St), (strays s ns).now.length ≤ s.now.length
  | [], s => Nat.le_refl _
  | n :: ns, s => by
    have h1 := strays_len ns (strayStep s n)
    have h2 := stray_len s n
    unfold strays at h1 ⊢
    rw [List.foldl_cons]
    omega
theorem cut_len (n : ByteArray) (k : Nat) (fs : List Fl) : (Dk.ap fs (.cut n k)).length ≤ fs.length := by
  unfold Dk.ap
  cases h : Dk.look n fs with
  | none => simp only [h]; exact Nat.le_refl _
  | some f =>
    have := del_len_lt h
    simp only [h]
    rw [ins_len]
    omega
theorem openS_len (s : St) : (openS s).now.length ≤ s.now.length := by
  have h := strays_len (s.now.map Fl.name) s
  unfold openS
  split
  · rw [St.push_now]
    exact Nat.le_trans (cut_len _ _ _) h
  · exact h
theorem openS_mass (s : St) : (openS s).mass ≤ s.mass + s.now.length + 1 := by
  have h := strays_mass (s.now.map Fl.name) s
  rw [List.length_map] at h
  unfold openS
  split
  · rw [St.push_mass]
    simp only [Ch.mass]
    omega
  · omega
theorem strays_room : ∀ (ns : List ByteArray) (s : St), (strays s ns).room = s.room
  | [], s => rfl
  | n :: ns, s => by
    have h1 := strays_room ns (strayStep s n)
    have h2 : (strayStep s n).room = s.room := by
      unfold strayStep rmStep
      split
      · split <;> rfl
      · rfl
    unfold strays at h1 ⊢
    rw [List.foldl_cons, h1, h2]
theorem openS_room (s : St) : (openS s).room = s.room := by
  unfold openS
  split
  · exact strays_room _ s
  · exact strays_room _ s
end Go.Proofs.YtnbdkojdddplkaaDoor.Wl
namespace Go.Proofs.YtnbdkojdddplkaaDoor.Wl
open Go.RowKit Dk

def Nm (fs : List Fl) : Prop := ∀ f ∈ fs, f.name.size ≤ maxLen
theorem nmW_size : nmW.size ≤ maxLen := by decide
theorem ins_nm (f : Fl) (hf : f.name.size ≤ maxLen) : ∀ fs : List Fl, Nm fs → Nm (Dk.ins f fs)
  | [], _ => fun x hx => by simp [Dk.ins] at hx; rw [hx]; exact hf
  | x :: r, h => by
    have ih := ins_nm f hf r (fun y hy => h y (List.mem_cons_of_mem _ hy))
    unfold Dk.ins
    split
    · intro y hy
      rcases List.mem_cons.1 hy with rfl | hy
      · exact hf
      · exact h y hy
    · intro y hy
      rcases List.mem_cons.1 hy with rfl | hy
      · exact h y List.mem_cons_self
      · exact ih y hy
theorem del_nm (n : ByteArray) (fs : List Fl) (h : Nm fs) : Nm (Dk.del n fs) := fun x hx => h x (List.mem_filter.1 hx).1
theorem strays_nm : ∀ (ns : List ByteArray) (s : St), Nm s.now → Nm (strays s ns).now
  | [], s, h => h
  | n :: ns, s, h => by
    have h2 : Nm (strayStep s n).now := by
      unfold strayStep rmStep
      split
      · split
        · rw [St.push_now]; exact del_nm n _ h
        · exact h
      · exact h
    have h1 := strays_nm ns (strayStep s n) h2
    unfold strays at h1 ⊢
    rw [List.foldl_cons]
    exact h1
theorem openS_nm (s : St) (h : Nm s.now) : Nm (openS s).now := by
  have h1 := strays_nm (s.now.map Fl.name) s h
  unfold openS
  split
  · rw [St.push_now]
    unfold Dk.ap
    simp only
    split
    · exact ins_nm _ nmW_size _ (del_nm _ _ h1)
    · exact h1
  · exact h1
theorem app_nm (fs : List Fl) (X : List UInt8) (h : Nm fs) : Nm (Dk.ap fs (.app nmW X)) := ins_nm _ nmW_size _ (del_nm _ _ h)
theorem fileB_long : ∀ (ds : List (List UInt8)) (n : Int), ds.length ≤ (fileB n ds).length
  | [], n => by simp [fileB]
  | d :: r, n => by
    have h1 := fileB_long r (n + 1)
    have h2 : 8 ≤ (recB n d).length := by unfold recB; rw [Fr.seal_len]; omega
    rw [fileB, List.length_cons, List.length_append]
    omega
theorem app_file (fs : List Fl) (X : List UInt8) : ((Dk.look nmW (Dk.ap fs (.app nmW X))).map Fl.bs).getD [] = ((Dk.look nmW fs).map Fl.bs).getD [] ++ X := by
  unfold Dk.ap
  simp only
  rw [look_ins ⟨nmW, _⟩ _ (del_ne nmW _)]
  rfl
theorem fileB_snoc (g : Int) (ds : List (List UInt8)) (d : List UInt8) (n : Int) (h : n = lastL g ds + 1) : fileB g ds ++ recB n d = fileB (if ds.length = 0 then n else g) (ds ++ [d]) := by
  unfold lastL at h
  rw [fileB_append]
  by_cases hd : ds.length = 0
  · have : ds = [] := List.eq_nil_of_length_eq_zero hd
    subst this
    simp [fileB]
  · rw [if_neg hd] at h ⊢
    have e : g + (ds.length : Int) = n := by omega
    rw [e]
    simp [fileB]

/-- A log that was opened on any files. -/
structure FG (w0 w : World) (p pd : Nat) (s : St) (F : Nat → Prop) (g : Int) (ds : List (List UInt8)) : Prop where
  lw : LW w w0.heap.size p pd s F g ds
  own : fileOf s nmW = fileB g ds
  room : s.room = 1048576
  len : s.now.length ≤ 20
  mass : s.mass ≤ 10000
  nm : Nm s.now
  inF : ∀ k, F k → w0.heap.size ≤ k
  bel : Below w0.heap.size w0 w
  small : (fileB g ds).length ≤ 5000
  d : ∀ d ∈ ds, d.length ≤ 32768
  g0 : ds ≠ [] → 1 ≤ g ∧ g + ds.length ≤ 9223372036854775808
theorem FG.below {w0 w w' : World} {p pd : Nat} {s : St} {F : Nat → Prop} {g : Int} {ds : List (List UInt8)} (h : FG w0 w p pd s F g ds) (hb : Below w.heap.size w w') : FG w0 w' p pd s F g ds :=
  ⟨h.lw.below hb, h.own, h.room, h.len, h.mass, h.nm, h.inF, h.bel.trans (hb.mono h.bel.size), h.small, h.d, h.g0⟩
theorem FG.open {w0 w : World} {pd : Nat} {s : St} {F : Nat → Prop} (hD : Dk w pd s F) (hT : ∀ u, Below w0.heap.size w0 u → Fr.Tab u) (hw0 : 0 < w0.heap.size) (hr : s.room = 1048576) (hl : s.now.length ≤ 20) (hm : s.mass ≤ 9000) (hn : Nm s.now) (hF : ∀ k, F k → w0.heap.size ≤ k) (hb : Below w0.heap.size w0 w) (hf : (fileOf s nmW).length ≤ 5000) (g : Int) (ds : List (List UInt8)) (hR : loadR (Fr.scanL (fileOf s nmW)).1 0 [] = (g, ds)) :
    Calls Tryd.prog 11 #[.pointer (some ⟨pd, 0, none⟩)] w fun e w' => ∃ p, e = .returned (.tuple #[.pointer (some ⟨p, 0, none⟩), .int .i64 0]) ∧ Hid (∃ F', FG w0 w' p pd (openS s) F' g ds ∧ ∀ k, F' k → F k ∨ w.heap.size ≤ k) := by
  have hs := hb.size
  refine (open_any pd s F w hD (hT w hb) (fun h0 => by have := hF 0 h0; omega) (by omega) hn (by omega) g ds hR).mono ?_
  rintro e w' ⟨p, rfl, ⟨F', hL, hF'⟩, hfr⟩
  obtain ⟨l1, l2, l3, l4, l5⟩ := load_any _ g ds hR
  have hml := openS_mass s
  have hll := openS_len s
  refine ⟨p, rfl, F', ⟨⟨hL.dk, ?_, hL.np, by have := hL.new; omega⟩, open_file s g ds hR, (openS_room s).trans hr, by omega, by omega, openS_nm s hn, fun k hk => ?_, hb.trans (hfr.below hF hs), Nat.le_trans l1.length_le hf, l3, l4⟩, hF'⟩
  · obtain ⟨vr, rs, G, a1, a2, a3⟩ := hL.lg
    exact ⟨vr, rs, G, a1, a2, fun k hk => ⟨(a3 k hk).1, by have := (a3 k hk).2; omega⟩⟩
  · rcases hF' k hk with hh | hh
    · exact hF k hh
    · omega
end Go.Proofs.YtnbdkojdddplkaaDoor.Wl
namespace Go.Proofs.YtnbdkojdddplkaaDoor.Wl
open Go.RowKit Dk

def here : List UInt8 := [104, 101, 114, 101]
theorem FG.tail {w0 w : World} {p pd : Nat} {s : St} {F : Nat → Prop} {g : Int} {ds : List (List UInt8)} (h : FG w0 w p pd s F g ds) (hT : ∀ u, Below w0.heap.size w0 u → Fr.Tab u) (hw0 : 0 < w0.heap.size) (vb : Value) (hS : SlA w vb here F) (n : Int) (hn : n = lastL g ds + 1) (hn0 : 1 ≤ n) (hn1 : n ≤ 1099511627777) (hlen : s.now.length ≤ 19) (hmass : s.mass ≤ 8000) (hsm : (fileB g ds).length ≤ 4900) :
    Calls Tryd.prog 14 #[.pointer (some ⟨p, 0, none⟩), .int .i64 n, vb] w fun e w2 => e = .returned (.int .i64 0) ∧ Hid (Calls Tryd.prog 17 #[.pointer (some ⟨p, 0, none⟩)] w2 fun e w3 => e = .returned (.tuple #[]) ∧ Hid (Calls Tryd.prog 18 #[.pointer (some ⟨pd, 0, none⟩), .int .i64 (-1), .int .i64 0] w3 fun e w4 => ∃ q, e = .returned (.pointer (some ⟨q, 0, none⟩)) ∧ Hid (Calls Tryd.prog 11 #[.pointer (some ⟨q, 0, none⟩)] w4 fun e w5 => ∃ r, e = .returned (.tuple #[.pointer (some ⟨r, 0, none⟩), .int .i64 0]) ∧ Hid (Calls Tryd.prog 25 #[.pointer (some ⟨r, 0, none⟩), .int .i64 n] w5 fun e w6 => ∃ ao L cap, e = .returned (.tuple #[.slice ao L cap, .bool true]) ∧ (convert 33 9 (.slice ao L cap)).run Tryd.prog w6 = .ok (.string ⟨#[104, 101, 114, 101]⟩) w6 ∧ Hid (Below w0.heap.size w0 w6))))) := by
  obtain ⟨hgood, _⟩ := id h.lw.dk
  have hnm := St.now_mass hgood
  have hum := used_mass s.now
  have hrs := recB_size n here ⟨by omega, by omega⟩ (by decide)
  have hhl : here.length = 4 := rfl
  have hdl := fileB_long ds g
  have hmay : mayL g ds n = true := by
    unfold mayL
    have e : n - 1 = (if ds.length = 0 then 0 else g + (ds.length : Int) - 1) := by
      have : lastL g ds = (if ds.length = 0 then 0 else g + (ds.length : Int) - 1) := rfl
      omega
    rw [← e]
    simp [hn0]
  refine (app_ok w0.heap.size p pd s F g ds n vb here w h.lw hS (hT w h.bel) (by omega) hmay (by decide) (by rw [h.room]; omega) (Or.inr (by omega)) (by omega) (by omega) (by omega)).mono ?_
  rintro e w2 ⟨rfl, F2, hL2, hF2, hf2⟩
  refine ⟨rfl, ?_⟩
  have hs := h.bel.size
  have hb2 : Below w0.heap.size w0 w2 := h.bel.trans (hf2.below (fun k hk => by
    rcases hk with hh | hh
    · exact h.inF k hh
    · exact hh) hs)
  have hF2' : ∀ k, F2 k → w0.heap.size ≤ k := fun k hk => by
    rcases hF2 k hk with hh | hh
    · exact h.inF k hh
    · omega
  have hpm : (s.push (.app nmW (recB n here))).mass ≤ 8100 := by
    rw [St.push_mass]
    simp only [Ch.mass]
    omega
  refine (sync_log w0.heap.size p pd _ F2 _ (ds ++ [here]) w2 hL2 (by omega)).mono ?_
  rintro e w3 ⟨rfl, hL3, hf3⟩
  refine ⟨rfl, ?_⟩
  have hb3 : Below w0.heap.size w0 w3 := hb2.trans (hf3.below hF2' hb2.size)
  obtain ⟨hgood2, _⟩ := id hL2.dk
  have hnm2 := St.now_mass hgood2
  obtain ⟨s', Hs'⟩ : ∃ s' : St, s' = ⟨(s.push (.app nmW (recB n here))).room, (s.push (.app nmW (recB n here))).now, []⟩ := ⟨_, rfl⟩
  rw [← Hs'] at hL3
  have hsm' : s'.mass ≤ 8200 := by
    rw [Hs']
    simp only [St.mass, wmass]
    simp
    omega
  have hnow' : s'.now = Dk.ap s.now (.app nmW (recB n here)) := by
    rw [Hs', ← St.push_now]
    rfl
  have hroom' : s'.room = 1048576 := by rw [Hs']; exact h.room
  refine (crash_any pd s' _ (-1) 0 w3 hL3.dk (by omega)).mono ?_
  rintro e w4 ⟨q, rfl, hq, hD4, hb4⟩
  refine ⟨q, rfl, ?_⟩
  have hlf : (⟨s'.room, Dk.leftOf s' (-1) 0, []⟩ : St) = s' := by rw [Hs']; rfl
  rw [hlf] at hD4
  have hb4' : Below w0.heap.size w0 w4 := hb3.trans (hb4.mono hb3.size)
  have hs3 := hb3.size
  obtain ⟨g', Hg'⟩ : ∃ g', g' = (if ds.length = 0 then n else g) := ⟨_, rfl⟩
  have hfile : fileOf s' nmW = fileB g' (ds ++ [here]) := by
    rw [Hg', ← fileB_snoc g ds here n hn]
    unfold fileOf
    rw [hnow', app_file]
    have := h.own
    unfold fileOf at this
    rw [this]
  have hg' : 1 ≤ g' ∧ g' + (ds.length : Int) = n := by
    unfold lastL at hn
    by_cases hd : ds.length = 0
    · rw [if_pos hd] at Hg' hn
      omega
    · rw [if_neg hd] at Hg' hn
      have := h.g0 (fun e => hd (by rw [e]; rfl))
      omega
  have hflen : (fileB g' (ds ++ [here])).length ≤ 5000 := by
    rw [Hg', ← fileB_snoc g ds here n hn, List.length_append]
    omega
  have hlen' : s'.now.length ≤ 20 := by
    rw [hnow']
    unfold Dk.ap
    simp only
    rw [ins_len]
    have := del_len nmW s.now
    omega
  refine (FG.open (w0 := w0) hD4 hT hw0 hroom' hlen' (by omega) (by rw [hnow']; exact app_nm _ _ h.nm) (fun k hk => by
    rcases hk with hh | hh
    · exact hh.elim
    · omega) hb4' (by rw [hfile]; exact hflen) g' (ds ++ [here]) (by
      rw [hfile, load_file (ds ++ [here]) g' (fun d hd => by
        rcases List.mem_append.1 hd with hd | hd
        · exact h.d d hd
        · rw [List.mem_singleton.1 hd]; decide) hg'.1 (by rw [List.length_append]; simp; omega), if_neg (by simp)])).mono ?_
  rintro e w5 ⟨r, rfl, F5, hG5, _⟩
  refine ⟨r, rfl, ?_⟩
  have hget := get_hit w0.heap.size r q _ F5 g' (ds ++ [here]) ds.length w5 hG5.lw (by simp) hg'.1 (by rw [List.length_append]; simp; omega) (by rw [List.length_append]; simp; omega) (by simp [here])
  rw [hg'.2] at hget
  refine hget.mono ?_
  rintro e w6 ⟨v6, rfl, hO6, hb6⟩
  have e6 : (ds ++ [here])[ds.length]'(by simp) = here := by simp
  rw [e6] at hO6
  have hst := str_of_sl (P := Tryd.prog) (Sl.of_own (bs := here) hO6) 33 5 9 Tryd.underlying33 Tryd.underlying5 Tryd.underlying9
  obtain ⟨ao6, L6, cap6, rfl⟩ := own_slice hO6
  exact ⟨ao6, L6, cap6, rfl, hst, hG5.bel.trans (hb6.mono hG5.bel.size)⟩
end Go.Proofs.YtnbdkojdddplkaaDoor.Wl
namespace Go.Proofs.YtnbdkojdddplkaaDoor.Wl
open Go.RowKit Dk

set_option maxHeartbeats 400000 in
theorem cutS_any (a : ByteArray) (w : World) (ha : a.size ≤ maxLen) :
    Calls Tryd.prog 21 #[.string a, .int .i64 12] w fun e w' => ∃ a', e = .returned (.string a') ∧ Hid (a'.size ≤ 12) ∧ w' = w := by
  unfold maxLen at ha
  by_cases h : 12 < a.size
  · have h' : (12 : Int) < (a.size : Int) := by omega
    go_enter Tryd.func21, Tryd.ntmps21
    go_wp2
    go_ret
    refine ⟨_, rfl, ?_, rfl⟩
    show _ ≤ _
    simp
    omega
  · have h' : ¬ (12 : Int) < (a.size : Int) := by omega
    go_enter Tryd.func21, Tryd.ntmps21
    go_wp2
    go_ret
    exact ⟨_, rfl, (by show _ ≤ _; omega), rfl⟩
set_option maxHeartbeats 400000 in
theorem short_any (v : Value) (bs : List UInt8) (w : World) (h : Sl w v bs) :
    Calls Tryd.prog 22 #[v, .int .i64 200] w fun e w' => ∃ ao L cap b, e = .returned (.slice ao L cap) ∧ Hid (Sl w (.slice ao L cap) b ∧ b.length ≤ 200) ∧ w' = w := by
  obtain ⟨ao, cap, rfl, h1, h2⟩ := h.shape
  have h2' : cap ≤ 9223372036854775807 := h2
  have HS : Hid (Sl w (.slice ao bs.length cap) bs) := h
  clear h
  by_cases hl : 200 < bs.length
  · have hl' : (200 : Int) < (bs.length : Int) := by omega
    have hc : (200 : Int) ≤ (cap : Int) := by omega
    go_enter Tryd.func22, Tryd.ntmps22
    go_wp2
    all_goals go_ret
    all_goals exact ⟨_, _, _, bs.take 200, rfl, ⟨HS.out.take 200 (by omega), by rw [List.length_take]; omega⟩, rfl⟩
  · have hl' : ¬ (200 : Int) < (bs.length : Int) := by omega
    go_enter Tryd.func22, Tryd.ntmps22
    go_wp2
    go_ret
    first | exact ⟨_, _, _, bs, rfl, ⟨HS.out, by omega⟩, rfl⟩ | exact ⟨_, _, _, rfl, ⟨bs, HS.out, by omega⟩, rfl⟩ | exact ⟨_, _, _, rfl, ⟨bs, HS.out, by omega⟩⟩
end Go.Proofs.YtnbdkojdddplkaaDoor.Wl
