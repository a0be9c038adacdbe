import Derived.Test.YtffbccajllmobaaDoorText
import Derived.Test.YtffbccajllmobaaDoorShelf
import Derived.Test.YtffbccajllmobaaDoorSetsPure
import Derived.Laws.Concat
import Derived.Lib.Join
namespace Go.Proofs.YtffbccajllmobaaDoor
open Go.RowKit

/-- The first k numbers of a row as a text, with blanks between. -/
def jl (R : List Int) : List UInt8 := Lib.join (R.map Lib.itoa) [32]
def jt (R : List Int) (k : Nat) : ByteArray := ⟨(jl (R.take k)).toArray⟩
def js (R : List Int) (k : Nat) : ByteArray := ⟨(jl (R.take k) ++ [32]).toArray⟩
theorem jl_one (x : Int) : jl [x] = Lib.itoa x := by simp [jl, Lib.join_one]
theorem jl_snoc (R : List Int) (x : Int) (h : R ≠ []) : jl (R ++ [x]) = jl R ++ [32] ++ Lib.itoa x := by
  cases R with
  | nil => exact absurd rfl h
  | cons y r => simp [jl, Lib.join_cons, Lib.joinTail]
theorem jt_first (R : List Int) (h : 0 < R.length) : jt R (0 + 1) = txtOf (el R 0) := by
  unfold jt txtOf
  rw [take_el h]
  simp [jl_one]
theorem jt_next (R : List Int) (k : Nat) (h : k < R.length) (h0 : 0 < k) : jt R (k + 1) = js R k ++ txtOf (el R k) := by
  unfold jt js txtOf
  have hne : R.take k ≠ [] := by
    intro e
    have h1 : (R.take k).length = 0 := by rw [e]; rfl
    rw [List.length_take] at h1
    omega
  rw [take_el h, jl_snoc _ _ hne, ByteArray.mk_append_mk]
theorem js_eq (R : List Int) (k : Nat) : js R k = jt R k ++ ⟨#[32]⟩ := by
  unfold js jt
  rw [show (⟨#[32]⟩ : ByteArray) = ⟨([32] : List UInt8).toArray⟩ from rfl, ByteArray.mk_append_mk]

/-- Each number of the row is one of 0 .. 99. -/
def Small (R : List Int) : Prop := ∀ x ∈ R, 0 ≤ x ∧ x < 100
theorem itoa_small {x : Int} (h : 0 ≤ x ∧ x < 100) : (Lib.itoa x).length ≤ 2 := by
  obtain ⟨n, rfl⟩ := Int.eq_ofNat_of_zero_le h.1
  unfold Lib.itoa
  rw [if_neg (by omega), Int.toNat_natCast, Lib.decDigits]
  split
  · simp
  · rw [Lib.decDigits, dif_pos (by omega)]; simp
theorem txt_size {x : Int} (h : 0 ≤ x ∧ x < 100) : (txtOf x).size ≤ 2 := by
  have := itoa_small h
  show (Lib.itoa x).toArray.size ≤ 2
  simpa using this
theorem jl_len {R : List Int} (h : Small R) : (jl R).length ≤ 3 * R.length := by
  have : ∀ (r : List Int), Small r → (Lib.joinTail [32] (r.map Lib.itoa)).length ≤ 3 * r.length := by
    intro r
    induction r with
    | nil => intro _; simp [Lib.joinTail]
    | cons x r ih =>
      intro hs
      have h1 := ih fun y hy => hs y (List.mem_cons_of_mem _ hy)
      have h2 := itoa_small (hs x (List.mem_cons_self ..))
      simp [Lib.joinTail] at h1 ⊢
      omega
  cases R with
  | nil => simp [jl, Lib.join_nil]
  | cons x r =>
    have h1 := this r fun y hy => h y (List.mem_cons_of_mem _ hy)
    have h2 := itoa_small (h x (List.mem_cons_self ..))
    unfold jl
    rw [List.map_cons, Lib.join_cons, List.length_append, List.length_cons]
    omega
theorem Small.take {R : List Int} (h : Small R) (k : Nat) : Small (R.take k) := fun x hx => h x (List.mem_of_mem_take hx)
theorem jt_size {R : List Int} (h : Small R) (k : Nat) (hR : R.length ≤ 1000) : (jt R k).size ≤ 3000 := by
  have h1 := jl_len (h.take k)
  have h2 : (R.take k).length ≤ 1000 := by simp; omega
  have h3 : (jt R k).size = (jl (R.take k)).length := by show (jl (R.take k)).toArray.size = _; simp
  omega
theorem js_size {R : List Int} (h : Small R) (k : Nat) (hR : R.length ≤ 1000) : (js R k).size ≤ 3001 := by
  have h1 := jl_len (h.take k)
  have h2 : (R.take k).length ≤ 1000 := by simp; omega
  have h3 : (js R k).size = (jl (R.take k)).length + 1 := by show (jl (R.take k) ++ [32]).toArray.size = _; simp
  omega

theorem add_first {P : Program} (R : List Int) (k : Nat) (h : Small R) (hk : k < R.length) (h0 : k = 0) (w : World) : (Op.stringOp .add (jt R k) (txtOf (el R k))).run P w = .ok (.string (jt R (k + 1))) w := by
  subst h0
  have h1 := txt_size (h _ (el_mem hk))
  have e : jt R 0 = (⟨#[]⟩ : ByteArray) := rfl
  rw [e, run_string_add_sum w _ _ (by have : (⟨#[]⟩ : ByteArray).size = 0 := rfl; omega), jt_first R hk]
  first | rfl | (congr 2; exact ByteArray.empty_append)
theorem add_blank {P : Program} (R : List Int) (k : Nat) (h : Small R) (hR : R.length ≤ 1000) (w : World) : (Op.stringOp .add (jt R k) ⟨#[32]⟩).run P w = .ok (.string (js R k)) w := by
  have h1 := jt_size h k hR
  rw [run_string_add_sum w _ _ (by have : (⟨#[32]⟩ : ByteArray).size = 1 := rfl; omega), js_eq]
theorem add_next {P : Program} (R : List Int) (k : Nat) (h : Small R) (hR : R.length ≤ 1000) (hk : k < R.length) (h0 : 0 < k) (w : World) : (Op.stringOp .add (js R k) (txtOf (el R k))).run P w = .ok (.string (jt R (k + 1))) w := by
  have h1 := js_size h k hR
  have h2 := txt_size (h _ (el_mem hk))
  rw [run_string_add_sum w _ _ (by omega), jt_next R k hk h0]

theorem setOfS_small (n : Int) : Small (setOfS n) := by
  unfold setOfS
  split
  · intro x hx
    have := (mem_pickTo _ _ _).1 hx
    omega
  · intro x hx; cases hx

set_option maxRecDepth 100000 in
set_option maxHeartbeats 2000000 in
theorem specSetText_calls (a : Option Addr) (xs R : List Int) (ca : Nat) (w : World) (hR : setOfS ((sumTo (hasB xs) 12 : Nat) : Int) = R) (h : Ints w a xs) :
    Calls Tryd.prog 5 #[.slice a xs.length ca] w fun e w' => e = .returned (.string (jt R R.length)) ∧ Below w.heap.size w w' := by
  have hS : Small R := hR ▸ setOfS_small _
  have hL : R.length ≤ 12 := hR ▸ setOfS_len _
  have HR := Lib.hid hR
  clear hR
  go_enter Tryd.func5, Tryd.ntmps5
  go_wp2_with fail
  refine (specSetNum_calls _ _ _ _ h).mono ?_
  rintro e w' ⟨rfl, rfl⟩
  go_wp2_with fail
  refine (HR.out ▸ specSetOf_calls _ _).mono ?_
  intro e w1 hr
  obtain ⟨p1, c1, he, o1, b1⟩ := retI hr
  subst he
  clear hr
  by_cases hne : 0 < R.length
  · obtain ⟨b, off, rfl, hc⟩ := o1.ints.at hne
    clear o1
    go_wp2
    go_loopw [3, 5] (fun s i wr => ∃ k : Nat, k ≤ R.length ∧ i = .int .i64 k ∧ s = .string (jt R k) ∧ Below w1.heap.size w1 wr) (fun _ i _ => R.length - (intOf i).toNat)
    case atStart => exact ⟨0, Nat.zero_le _, rfl, rfl, Below.refl _ _⟩
    case round =>
      obtain ⟨k, hk, rfl, rfl, hb⟩ := hrel
      by_cases hlt : k < R.length
      · have hck := cell_kept hb (hc k hlt)
        have hF : Fits (el R k) := fits_small (by have := hS _ (el_mem hlt); omega) (by have := hS _ (el_mem hlt); omega)
        clear hc
        by_cases h0 : k = 0
        · have hadd := Lib.hid (fun w => add_first (P := Tryd.prog) R k hS hlt h0 w)
          have hz : decide (0 < k) = false := decide_eq_false (by omega)
          have hz2 : (k : Int) ≤ 0 := by omega
          clear h0
          go_wp2_with fail
          refine (NumText_calls _ _ hF).mono ?_
          rintro e w2 ⟨rfl, b2⟩
          have hadd := hadd.out w2
          go_wp2
          go_roundw
          case rel => exact ⟨k + 1, by omega, by go_num, rfl, hb.step b2⟩
          case measure => simp [intOf]; omega
        · have h1 : 0 < k := by omega
          have hadd := Lib.hid (fun w => add_next (P := Tryd.prog) R k hS (by omega) hlt h1 w)
          have hblank := add_blank (P := Tryd.prog) R k hS (by omega) wr
          clear h0
          go_wp2_with fail
          refine (NumText_calls _ _ hF).mono ?_
          rintro e w2 ⟨rfl, b2⟩
          have hadd := hadd.out w2
          go_wp2
          go_roundw
          case rel => exact ⟨k + 1, by omega, by go_num, rfl, hb.step b2⟩
          case measure => simp [intOf]; omega
      · have hk' : k = R.length := by omega
        subst hk'
        go_wp2
        go_ret
        exact ⟨rfl, b1.step hb⟩
  · have hR0 : R = [] := by cases R <;> simp_all
    subst hR0
    clear o1 hne
    go_wp2
    refine wp_loop_rounds 1 ?_
    rw [rounds_succ]
    go_wp2
    go_ret
    exact ⟨rfl, b1⟩

theorem info_str : (Tryd.prog.info? 9).map (fun i => (i.zero, i.size, i.bytes)) = some (some (.string ByteArray.empty), 1, 16) := by kernel_rfl

/-- A row of texts of the call's own. -/
def OwnT (B : Nat) (w : World) (v : Value) (R : List Int) : Prop := w.ownsRow B 9 1 v R.length (R.map fun n => Value.string (txtOf n))
theorem OwnT.open {B : Nat} {w : World} {v : Value} {R : List Int} (h : OwnT B w v R) :
    (v = .slice none 0 0 ∧ R = []) ∨ ∃ g c, v = .slice (some ⟨g, 0, none⟩) R.length c ∧ R.length ≤ c ∧ g < w.heap.size ∧ ∀ (j : Nat) x, (R.map txtOf)[j]? = some x → w.cell? ⟨g, 0 + j, none⟩ = some (.string x) := by
  rcases id h.2 with ⟨rfl, hn⟩ | ⟨g, c, cur, rfl, _, hh, hc, _⟩
  · exact .inl ⟨rfl, List.eq_nil_of_length_eq_zero hn⟩
  · refine .inr ⟨g, c, rfl, hc, lt_of_block hh, fun j x hx => ?_⟩
    have hj : j < R.length := by
      rcases Nat.lt_or_ge j R.length with h | h
      · exact h
      · simp [List.getElem?_eq_none (show (R.map txtOf).length ≤ j by simpa using h)] at hx
    have := World.ownsRow.cellAt h j (by omega)
    rw [Nat.zero_add, this]
    simp [List.getElem?_eq_getElem hj] at hx ⊢
    exact hx

/-- A row of ints and a row of texts lie in two blocks: their elements' types differ. -/
theorem own_types {B1 B2 : Nat} {w : World} {v1 v2 : Value} {xs R : List Int} (h1 : OwnI B1 w v1 xs) (h2 : OwnT B2 w v2 R) : v1.ownBlock = none ∨ v1.ownBlock ≠ v2.ownBlock := by
  rcases h1.1.2 with ⟨rfl, _⟩ | ⟨g, c, cur, rfl, _, hh, _⟩
  · exact .inl rfl
  · rcases h2.2 with ⟨rfl, _⟩ | ⟨g', c', cur', rfl, _, hh', _⟩
    · exact .inr (by simp [Value.ownBlock])
    · refine .inr ?_
      intro e
      simp only [Value.ownBlock, Option.some.injEq] at e
      subst e
      rw [hh] at hh'
      simp at hh'

theorem wpList_append_txt {ops : Array Oper} {rest : List Oper} {o : Oper} {a : Act} {Q : Exit → Act → World → Prop} {w : World} {B : Nat} {v : Value} {R : List Int} {n : Int} (hgd : o.guard = none) (s x : Operand)
    (ho : o.op = .call { callee := .builtin .append, args := #[s, x], argTypes := #[38, 38] })
    (hs : a.eval s = v) (hown : OwnT B w v R) (hx : a.eval x = .slice (some ⟨w.heap.size, 0, none⟩) 1 1) (hl : R.length ≤ 1000000) (hB : B ≤ w.heap.size)
    (h : ∀ v' w', OwnT B w' v' (R ++ [n]) → w.grownBy w' v.ownBlock → wpList Tryd.prog ops Q rest (a.put o.dst v') w') : wpList Tryd.prog ops Q (o :: rest) a (w.alloc (.cells #[.string (txtOf n)] 9)) := by
  obtain ⟨i0, hi, hz0, hz1, hz2⟩ := info_parts info_str
  refine wpList_append_own _ hgd s x 38 ho B 9 i0 (.string ByteArray.empty) 1 16 Tryd.underlying38 hi hz0 hz1 hz2 rfl (by decide) v R.length (R.map fun n => Value.string (txtOf n)) hs (World.ownsRow.alloc hown _) ⟨w.heap.size, 0, none⟩ 1 1 [.string (txtOf n)] hx rfl ?_ ?_ ?_ ?_ ?_ ?_
  · intro j u hj
    match j, hj with
    | 0, hj => simp at hj; subst hj; simp [Addr.add, World.cell?_alloc_at]
    | j + 1, hj => simp at hj
  · intro u hu; simp at hu; subst hu; rfl
  · unfold maxLen; omega
  · omega
  · simp; omega
  · intro v' w' h1 h2 _
    have hg : w.grownBy w' v.ownBlock := by
      refine ⟨h2.os, h2.tape, h2.output, Nat.le_trans (by simp) h2.size, fun k hk hne => ?_⟩
      rw [h2.block k (by simp; omega) hne, Below.heap_alloc _ _ _ hk]
    exact h v' w' (by unfold OwnT; simpa using h1) hg

theorem join_data (R : List Int) : Lib.join ((R.map txtOf).map (·.data.toList)) (⟨#[32]⟩ : ByteArray).data.toList = jl R := by
  unfold jl
  rw [List.map_map]
  congr 1

/-- NumText of a small number: no table is read. -/
theorem numText_small (x : Int) (w : World) (h : 0 ≤ x ∧ x < 100) :
    Calls Tryd.prog 10 #[.int .i64 x] w fun e w' => e = .returned (.string (txtOf x)) ∧ w = w' := by
  obtain ⟨i, rfl⟩ := Int.eq_ofNat_of_zero_le h.1
  have ht : txtOf (i : Int) = ⟨(Lib.decDigits i).toArray⟩ := by
    unfold txtOf Lib.itoa
    rw [if_neg (by omega), Int.toNat_natCast]
  have HT := Lib.hid ht
  clear ht
  go_enter Tryd.func10, Tryd.ntmps10
  go_wp2_with fail
  refine (Tryd.strconv_Itoa_small i (by omega) w).mono ?_
  rintro e w' ⟨rfl, rfl⟩
  go_wp2
  go_ret
  exact ⟨ret_str HT.out.symm, rfl⟩

set_option maxRecDepth 100000 in
set_option maxHeartbeats 2000000 in
theorem text_calls (m : Nat) (w : World) (hm : m < 4096) :
    Calls Tryd.prog 14 #[.int .u16 (m : Int)] w fun e w' => e = .returned (.string (jt (pickTo (hasM m) 12) (pickTo (hasM m) 12).length)) ∧ Below w.heap.size w w' := by
  obtain ⟨i0, hi, hz0, hz1, hz2⟩ := info_parts info_str
  have hL := pickTo_len (hasM m) 12
  have hS : Small (pickTo (hasM m) 12) := fun x hx => by have := (mem_pickTo _ _ _).1 hx; omega
  obtain ⟨R, hR⟩ : ∃ R, pickTo (hasM m) 12 = R := ⟨_, rfl⟩
  rw [hR] at hL hS ⊢
  have HR := Lib.hid hR
  clear hR
  go_enter Tryd.func14, Tryd.ntmps14
  go_wp2_with (first | (go_at_call 18; refine (size_calls _ _ hm).mono ?_; rintro e w1 ⟨c, hc, rfl, hb1⟩) | (at_make; refine wpList_make_own _ rfl _ _ 38 rfl w.heap.size 9 i0 (.string ByteArray.empty) 1 Tryd.underlying38 hi hz0 hz1 _ _ _ c rfl rfl rfl ?c1 ?c2 ?c3 ?_))
  case c1 => rw [hz2]; omega
  case c2 => unfold maxLen; omega
  case c3 => exact hb1.size
  have hs1 := hb1.size
  intro w2 hown hgrow
  have ho0 : OwnT w.heap.size w2 (.slice (some ⟨w1.heap.size, 0, none⟩) 0 c) [] := hown
  have hb2 : Below w.heap.size w w2 := hb1.grown hgrow hs1 (fun k hk => by cases hk)
  have hs2 := hb2.size
  clear hown hgrow hb1 hs1
  go_wp2_with fail
  refine (HR.out ▸ list_calls _ _ hm).mono ?_
  intro e w3 hr
  obtain ⟨p1, c1, he, o1, b3⟩ := retI hr
  subst he
  clear hr
  have ho1 : OwnT w.heap.size w3 (.slice (some ⟨w1.heap.size, 0, none⟩) 0 c) [] := World.ownsRow.kept ho0 ⟨b3.os, b3.tape, b3.output, b3.size, fun k hk _ => b3.block k hk⟩ (.inr (by simp [Value.ownBlock] : _ ≠ none))
  have hb3 := hb2.step b3
  have hs3 := b3.size
  have hlt := ho0.lt w1.heap.size rfl
  clear ho0 hb2
  by_cases hne : 0 < R.length
  · obtain ⟨b, off, rfl, _⟩ := o1.ints.at hne
    go_wp2
    go_loopw [3, 12] (fun v i wr => ∃ k : Nat, k ≤ R.length ∧ i = .int .i64 k ∧ OwnT w.heap.size wr v (R.take k) ∧ Below w.heap.size w wr ∧ OwnI w2.heap.size wr (.slice (some ⟨b, off, none⟩) R.length c1) R) (fun _ i _ => R.length - (intOf i).toNat)
    case atStart => exact ⟨0, Nat.zero_le _, rfl, ho1, hb3, o1⟩
    case round =>
      obtain ⟨k, hk, rfl, ho, hb, oI⟩ := hrel
      clear ho1 hb3 o1
      have hsz := hb.size
      by_cases hlt' : k < R.length
      · have hck : wr.cell? ⟨b, off + k, none⟩ = some (.int .i64 (el R k)) := by
          obtain ⟨b', off', he, hc⟩ := oI.ints.2.2 k hlt'
          cases he; exact hc
        have hx := hS _ (el_mem hlt')
        have HX := Lib.hid hx
        have hlen : (R.take k).length ≤ 1000000 := by simp; omega
        have hst := Lib.hid (take_el hlt')
        have hty := Lib.hid (own_types oI ho)
        clear hx
        go_wp2_with (first | (go_at_call 10; refine (numText_small _ _ HX.out).mono ?_; rintro e w' ⟨rfl, rfl⟩) | (at_builtin; refine wpList_append_txt rfl _ _ rfl rfl ho rfl hlen hsz ?_; intro v' w' ho' hg'))
        go_roundw
        case rel => exact ⟨k + 1, by omega, by go_num, by rw [hst.out]; exact ho', hb.grown hg' hsz (fun j hj => (ho.lt j hj).1), oI.grown hg' hty.out⟩
        case measure => simp [intOf]; omega
      · have hk' : k = R.length := by omega
        subst hk'
        rw [List.take_length] at ho
        rcases ho.open with ⟨_, h0⟩ | ⟨g, c, rfl, hcap, hg, hcs⟩
        · rw [h0] at hne; simp at hne
        · clear ho oI
          have hlen9 := jl_len hS
          go_wp2_with fail
          have HC := Tryd.strings_Join g 0 c (R.map txtOf) ⟨#[32]⟩ wr hcs hg (by simp; omega) (by simpa using hcap) (by rw [join_data]; omega)
          rw [join_data, List.length_map] at HC
          refine HC.mono ?_
          rintro e w' ⟨rfl, hb'⟩
          go_wp2
          go_ret
          exact ⟨ret_str (by unfold jt; rw [List.take_length]), hb.step hb'⟩
  · have hR0 : R = [] := by cases R <;> simp_all
    subst hR0
    clear o1 hne
    go_wp2
    refine wp_loop_rounds 1 ?_
    rw [rounds_succ]
    go_wp2_with fail
    refine (Tryd.strings_Join_none _ _ _ _).mono ?_
    rintro e w' ⟨rfl, rfl⟩
    go_wp2
    go_ret
    exact ⟨ret_str rfl, hb3⟩

theorem implSetText_calls (a : Option Addr) (xs R : List Int) (ca : Nat) (w : World) (hR : pickTo (hasM (maskOf xs)) 12 = R) (h : Ints w a xs) :
    Calls Tryd.prog 7 #[.slice a xs.length ca] w fun e w' => e = .returned (.string (jt R R.length)) ∧ Below w.heap.size w w' := by
  subst hR
  have hm := maskOf_lt xs
  go_enter Tryd.func7, Tryd.ntmps7
  go_wp2_with fail
  refine (atomsIn_calls _ _ _ _ h).mono ?_
  rintro e w' ⟨rfl, rfl⟩
  go_wp2_with fail
  refine (text_calls _ _ hm).mono ?_
  rintro e w' ⟨rfl, hb⟩
  go_wp2
  go_ret
  exact ⟨rfl, hb⟩

end Go.Proofs.YtffbccajllmobaaDoor
