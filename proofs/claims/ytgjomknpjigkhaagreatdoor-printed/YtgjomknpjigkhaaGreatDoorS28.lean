import Derived.Test.YtgjomknpjigkhaaGreatDoorS21
import Derived.OrdersHeld
namespace Go.Proofs.YtgjomknpjigkhaaGreatDoor
set_option maxRecDepth 100000
set_option maxHeartbeats 4000000
section
section
variable {P:Program} {ops:Array Oper} {Q:Exit→Act→World→Prop} {md:Region.Mode} {S:World→Prop} {z:Nat}
def wpAnyZ (P:Program) (md:Region.Mode) (ops:Array Oper) (Q:Exit→Act→World→Prop) (S:World→Prop) (z:Nat):Nat→Array Bool→Act→World→Prop
 | 0,listed,a,w=>Region.ready md ops listed=[]∧Q .normal a w
 | fuel+1,listed,a,w=>(Region.ready md ops listed=[]→Q .normal a w)∧∀ i∈Region.ready md ops listed,wpOp P ops Q i (fun a' w'=>(i≠z→S w')∧wpAnyZ P md ops Q S z fuel (listed.setIfInBounds i true) a' w') a w
theorem wpAny_of_Z (fuel:Nat):∀ (listed:Array Bool) (a:Act) (w:World),wpAnyZ P md ops Q S z fuel listed a w→wpAny P md ops Q fuel listed a w:=by
 induction fuel with
 | zero=>intro _ _ _ h;exact h
 | succ fuel ih=>intro listed a w h;exact ⟨h.1,fun i hi=>wpOp_mono (fun a' w' q=>ih _ a' w' q.2) (h.2 i hi)⟩
def waitsFor (md:Region.Mode) (ops:Array Oper) (z i:Nat):Bool:=((ops[z]?).map fun o=>o.after.toList.any fun e=>Region.binds md e && e.on == i).getD false
theorem not_ready {i:Nat} {listed:Array Bool} (h:waitsFor md ops z i=true) (hi:i∈Region.ready md ops listed):z∉Region.ready md ops listed:=by
 intro hz
 obtain ⟨_,o,ho,hall⟩:=mem_ready.1 hz
 have h0:=(mem_ready.1 hi).1
 unfold waitsFor at h
 rw [ho] at h
 simp only [Option.map_some,Option.getD_some,List.any_eq_true] at h
 obtain ⟨e,he',hb⟩:=h
 have he:e∈o.after:=by simpa using he'
 rw [Bool.and_eq_true] at hb
 have h1:=hall e he hb.1
 have e1:e.on=i:=by simpa using hb.2
 rw [e1] at h1
 rcases Nat.lt_or_ge i listed.size with q | q
 ·simp [q] at h0 h1
  rw [h0] at h1
  cases h1
 ·simp [Array.getElem?_eq_none q] at h1
theorem wpAnyZ_take0 {i:Nat} {oi:Oper} {v:Value} (hi:ops[i]?=some oi) (hsel:∀ (j:Nat) (o:Oper) cs b,ops[j]?=some o→o.op≠.select cs b) (hQ:∀ c a w,Q (.panic c) (a.put oi.dst v) w→Q (.panic c) a w) (hz:waitsFor md ops z i=true):∀ (fuel:Nat) (listed:Array Bool) (a:Act) (w:World),
  (∀ j oj,ops[j]?=some oj→j≠i→listed.getD j true=false→(∀ e∈oj.after,Region.binds md e=true→e.on≠i)→oi.apart ops oj=true)→i∈Region.ready md ops listed→YieldsIf P ops S oi v a→S w→wpAnyZ P md ops Q S z fuel (listed.setIfInBounds i true) (a.put oi.dst v) w→wpAnyZ P md ops Q S z (fuel+1) listed a w:=by
 intro fuel
 induction fuel with
 | zero=>
  intro listed a w _ hr hy hS H
  refine ⟨fun h=>(by rw [h] at hr;cases hr),fun j hj=>?_⟩
  by_cases e:j=i
  ·subst e;exact hy.wpOp hi hS ⟨fun _=>hS,H⟩
  ·have:=ready_mono hj e
   rw [H.1] at this
   cases this
 | succ fuel ih=>
  intro listed a w hfree hr hy hS H
  refine ⟨fun h=>(by rw [h] at hr;cases hr),fun j hj=>?_⟩
  by_cases e:j=i
  ·subst e;exact hy.wpOp hi hS ⟨fun _=>hS,H⟩
  ·have hjz:j≠z:=fun q=>not_ready hz hr (q ▸ hj)
   have hstep:=H.2 j (ready_mono hj e)
   obtain ⟨hun,oj,hoj,hall⟩:=mem_ready.1 hj
   have hno:∀ x∈oj.after,Region.binds md x=true→x.on≠i:=fun x hx hb q=>by
    have h1:=hall x hx hb
    have h0:=(mem_ready.1 hr).1
    rw [q] at h1
    rcases Nat.lt_or_ge i listed.size with h' | h'
    ·simp [h'] at h0 h1
     rw [h0] at h1
     cases h1
    ·simp [Array.getElem?_eq_none h'] at h1
   have hput:=wpOp_putIf hoj (hfree j oj hoj e hun hno) (fun cs b=>hsel i oi cs b hi) (fun cs b=>hsel j oj cs b hoj) hQ hy hstep
   refine wpOp_mono (fun a' w' q=>⟨fun _=>q.2.1 hjz,ih (listed.setIfInBounds j true) a' w' (fun k ok hk hki hkun hkno=>hfree k ok hk hki ?_ hkno) (ready_mono hr (Ne.symm e)) q.1 (q.2.1 hjz) ?_⟩) hput
   ·by_cases hjk:j=k
    ·subst hjk;exact hun
    ·rw [getD_set_ne true hjk] at hkun;exact hkun
   ·rw [Array.setIfInBounds_comm _ _ e]
    exact q.2.2
theorem wpAnyZ_take {i:Nat} {oi:Oper} {v:Value} {fuel:Nat} {listed:Array Bool} {a:Act} {w:World} (hi:ops[i]?=some oi) (hs:Region.noSelect ops=true) (hf:Region.free md ops listed i=true) (hr:(Region.ready md ops listed).contains i=true) (hz:waitsFor md ops z i=true) (hQ:∀ c a w,Q (.panic c) (a.put oi.dst v) w→Q (.panic c) a w) (hy:YieldsIf P ops S oi v a) (hS:S w) (h:wpAnyZ P md ops Q S z fuel (listed.setIfInBounds i true) (a.put oi.dst v) w):wpAnyZ P md ops Q S z (fuel+1) listed a w:=
 wpAnyZ_take0 hi (Region.noSelect_spec hs) hQ hz fuel listed a w (Region.free_spec hi hf) (by simpa using hr) hy hS h
theorem wpAnyZ_one {i:Nat} {o:Oper} {fuel:Nat} {listed:Array Bool} {a:Act} {w:World} (hr:Region.ready md ops listed=[i]) (ho:ops[i]?=some o) (h:∀ K:Act→World→Prop,(∀ a' w',(i≠z→S w')→wpAnyZ P md ops Q S z fuel (listed.setIfInBounds i true) a' w'→K a' w')→if Region.wanted o (yielded ops a.tmps)=true then Oper.wp P o a w K Q else K (a.put o.dst undef) w):wpAnyZ P md ops Q S z (fuel+1) listed a w:=by
 refine ⟨fun h0=>(by rw [hr] at h0;cases h0),fun j hj=>?_⟩
 rw [hr] at hj
 have e:j=i:=by simpa using hj
 subst e
 unfold wpOp
 simp only [ho]
 have:=h (fun a' w'=>(j≠z→S w')∧wpAnyZ P md ops Q S z fuel (listed.setIfInBounds j true) a' w') (fun a' w' h1 h2=>⟨h1,h2⟩)
 split
 ·rename_i hw
  rw [if_pos hw] at this
  exact .inl this
 ·rename_i hw
  rw [if_neg hw] at this
  exact this
theorem wpAnyZ_done {listed:Array Bool} {a:Act} {w:World} {fuel:Nat} (hr:Region.ready md ops listed=[]) (h:Q .normal a w):wpAnyZ P md ops Q S z fuel listed a w:=by
 cases fuel with
 | zero=>exact ⟨hr,h⟩
 | succ=>exact ⟨fun _=>h,by rw [hr];simp⟩
theorem wp_region_Z {id:Nat} {a:Act} {w:World} (z:Nat) (S:World→Prop) (hm:P.follows .mixedOrders=true) (h:wpAnyZ P .any ops Q S z ops.size (Array.replicate ops.size false) a w.drew):(Code.region id ops true).wp P Q a w:=
 wp_region_any hm (wpAny_of_Z _ _ _ _ h)
end
end
section
open Go.RowKit
theorem ofInt_nat (a:Nat):BitVec.ofInt 64 (a:Int)=BitVec.ofNat 64 a:=by simp
theorem wrapN {a:Nat} (h:a<4611686018427387904):IntKind.i64.wrap (a:Int)=(a:Int):=by
 simp only [IntKind.wrap,IntKind.bits,IntKind.signed]
 simp
 omega
theorem or_run (ty:TypeId) {a b:Nat} (ha:a<4611686018427387904) (hb:b<4611686018427387904) (w:World):(binOp .or ty (.int .i64 (a:Int)) (.int .i64 (b:Int))).run Tryz.prog w=.ok (.int .i64 ((a ||| b:Nat):Int)) w:=by
 have h1:a ||| b<4611686018427387904:=Nat.or_lt_two_pow (n:=62) ha hb
 have h2:(BitVec.ofInt 64 (a:Int) ||| BitVec.ofInt 64 (b:Int)).toNat=a ||| b:=by
  rw [ofInt_nat,ofInt_nat,BitVec.toNat_or,BitVec.toNat_ofNat,BitVec.toNat_ofNat,Nat.mod_eq_of_lt (by omega),Nat.mod_eq_of_lt (by omega)]
 simp only [binOp,ne_eq,not_true,if_false,Op.intBits]
 show Result.ok (Value.int .i64 (IntKind.i64.wrap ((BitVec.ofInt 64 (a:Int) ||| BitVec.ofInt 64 (b:Int)).toNat:Int))) w=_
 rw [h2,wrapN h1]
def andN (a b:Nat):Nat:=a &&& (18446744073709551615 - b)
theorem andN_bit {a b:Nat} (ha:a<4611686018427387904) (hb:b<4611686018427387904) (i:Nat):(andN a b).testBit i=(a.testBit i && !b.testBit i):=by
 unfold andN
 rw [Nat.testBit_and]
 by_cases hi:i<64
 ·have:(18446744073709551615 - b).testBit i = !b.testBit i:=by
   have:=Nat.testBit_two_pow_sub_succ (n:=64) (x:=b) (by omega) i
   rw [show (18446744073709551615 - b)=2 ^ 64 - (b+1) by omega,this]
   simp [hi]
  rw [this]
 ·have h0:a.testBit i=false:=Nat.testBit_lt_two_pow (Nat.lt_of_lt_of_le ha (by
   have:(2:Nat) ^ 62≤2 ^ i:=Nat.pow_le_pow_right (by omega) (by omega)
   omega))
  rw [h0];rfl
theorem andN_le (a b:Nat):andN a b≤a:=Nat.and_le_left
theorem or_val {a b:Nat} (ha:a<4611686018427387904) (hb:b<4611686018427387904):bits .or .i64 (a:Int) (b:Int)=((a ||| b:Nat):Int):=by
 have h1:a ||| b<4611686018427387904:=Nat.or_lt_two_pow (n:=62) ha hb
 have h2:(BitVec.ofInt 64 (a:Int) ||| BitVec.ofInt 64 (b:Int)).toNat=a ||| b:=by
  rw [ofInt_nat,ofInt_nat,BitVec.toNat_or,BitVec.toNat_ofNat,BitVec.toNat_ofNat,Nat.mod_eq_of_lt (by omega),Nat.mod_eq_of_lt (by omega)]
 show IntKind.i64.wrap ((BitVec.ofInt 64 (a:Int) ||| BitVec.ofInt 64 (b:Int)).toNat:Int)=_
 rw [h2,wrapN h1]
theorem andNot_val {a b:Nat} (ha:a<4611686018427387904) (hb:b<4611686018427387904):bits .andNot .i64 (a:Int) (b:Int)=((andN a b:Nat):Int):=by
 have h1:andN a b<4611686018427387904:=Nat.lt_of_le_of_lt (andN_le a b) ha
 have h2:(BitVec.ofInt 64 (a:Int) &&& ~~~BitVec.ofInt 64 (b:Int)).toNat=andN a b:=by
  rw [ofInt_nat,ofInt_nat,BitVec.toNat_and,BitVec.toNat_not,BitVec.toNat_ofNat,BitVec.toNat_ofNat,Nat.mod_eq_of_lt (by omega),Nat.mod_eq_of_lt (by omega)]
  rfl
 show IntKind.i64.wrap ((BitVec.ofInt 64 (a:Int) &&& ~~~BitVec.ofInt 64 (b:Int)).toNat:Int)=_
 rw [h2,wrapN h1]
theorem and_val {a b:Nat} (ha:a<4611686018427387904) (hb:b<4611686018427387904):bits .and .i64 (a:Int) (b:Int)=((a &&& b:Nat):Int):=by
 have h1:a &&& b<4611686018427387904:=Nat.lt_of_le_of_lt Nat.and_le_left ha
 have h2:(BitVec.ofInt 64 (a:Int) &&& BitVec.ofInt 64 (b:Int)).toNat=a &&& b:=by
  rw [ofInt_nat,ofInt_nat,BitVec.toNat_and,BitVec.toNat_ofNat,BitVec.toNat_ofNat,Nat.mod_eq_of_lt (by omega),Nat.mod_eq_of_lt (by omega)]
 show IntKind.i64.wrap ((BitVec.ofInt 64 (a:Int) &&& BitVec.ofInt 64 (b:Int)).toNat:Int)=_
 rw [h2,wrapN h1]
end
section
open Go.RowKit
theorem ownL_nodup (v:Value):(ownL v).Nodup:=by
 unfold ownL
 cases v.ownBlock with
 | none=>exact List.Pairwise.nil
 | some x=>simp
theorem mapL_nodup (v:Value):(mapL v).Nodup:=by
 unfold mapL
 split
 ·simp
 ·exact List.Pairwise.nil
theorem nodup_mid {A L R L':List Nat} {n:Nat} (h:(A++L++R).Nodup) (hlt:∀ j∈A++R,j<n) (hL:L'.Nodup) (hs:∀ j∈L',j∈L∨n≤j):(A++L'++R).Nodup:=by
 rw [List.nodup_append] at h ⊢
 obtain ⟨h1,h2,h3⟩:=h
 rw [List.nodup_append] at h1 ⊢
 obtain ⟨h4,h5,h6⟩:=h1
 refine ⟨⟨h4,hL,fun a ha b hb e=>?_⟩,h2,fun a ha b hb e=>?_⟩
 ·subst e
  rcases hs a hb with h | h
  ·exact h6 a ha a h rfl
  ·have:=hlt a (List.mem_append_left _ ha);omega
 ·subst e
  rcases List.mem_append.1 ha with h | h
  ·exact h3 a (List.mem_append_left _ h) a hb rfl
  ·rcases hs a h with h' | h'
   ·exact h3 a (List.mem_append_right _ h') a hb rfl
   ·have:=hlt a (List.mem_append_right _ hb);omega
theorem mem_apart {A L R:List Nat} (h:(A++L++R).Nodup):(∀ j∈L,j∉A∧j∉R)∧∀ j∈R,j∉A∧j∉L:=by
 rw [List.nodup_append] at h
 obtain ⟨h1,h2,h3⟩:=h
 rw [List.nodup_append] at h1
 obtain ⟨h4,h5,h6⟩:=h1
 exact ⟨fun j hj=>⟨fun ha=>h6 j ha j hj rfl,fun hr=>h3 j (List.mem_append_right _ hj) j hr rfl⟩,fun j hj=>⟨fun ha=>h3 j (List.mem_append_left _ ha) j hj rfl,fun hl=>h3 j (List.mem_append_right _ hl) j hj rfl⟩⟩
def restD (tN mN co cl ln:Value):List Nat:=ownL tN++mapL mN++ownL co++ownL cl++ownL ln
theorem footD (B:Nat) (tD mD sz tN mN co cl ln:Value):footL B tD mD sz tN mN co cl ln=[B]++(ownL tD++mapL mD++ownL sz)++restD tN mN co cl ln:=by simp [footL,restD]
theorem MeanV.addDom {w w':World} {base B:Nat} {m:Mean} {tD mD sz tN mN co cl ln tD' mD' sz':Value} {cvs kvs:List Value} {T:List Nat} (h:MeanV w base B m tD mD sz tN mN co cl ln cvs kvs) {s:ByteArray} {d:Int} (k:Keeps T w w') (hT:∀ j∈T,j∈[B]++(ownL tD++mapL mD++ownL sz)∨w.heap.size≤j)
  (hc:CellsAt w' B #[tD',mD',sz',tN,mN,co,cl,ln]) (hs:SetV w' base [B] tD' mD' (m.doms.map Prod.fst++[s])) (hz:w'.ownsRow base 3 1 sz' (m.doms.length+1) (intsV (m.doms.map Prod.snd)++[.int .i64 d]))
  (hn:∀ j∈ownL tD'++mapL mD'++ownL sz',j∈ownL tD++mapL mD++ownL sz∨w.heap.size≤j) (hd:(ownL tD'++mapL mD'++ownL sz').Nodup):MeanAt w' base B { m with doms:=m.doms++[(s,d)] }:=by
 have hf:=h.foot
 rw [footD] at hf
 have hlt:=h.foot_lt
 rw [footD] at hlt
 have hAp:=mem_apart hf
 have hBr:B∉restD tN mN co cl ln:=fun hx=>(hAp.2 B hx).1 (by simp)
 have hTr:∀ j∈restD tN mN co cl ln,j∉T:=fun j hj hjT=>by
  rcases hT j hjT with h' | h'
  ·rcases List.mem_append.1 h' with h' | h'
   ·exact (hAp.2 j hj).1 h'
   ·exact (hAp.2 j hj).2 h'
  ·have:=(hlt j (List.mem_append_right _ hj)).2;omega
 have hfN:(footL B tD' mD' sz' tN mN co cl ln).Nodup:=by
  rw [footD]
  refine nodup_mid (n:=w.heap.size) hf (fun j hj=>?_) hd hn
  rcases List.mem_append.1 hj with h' | h'
  ·exact (hlt j (List.mem_append_left _ (List.mem_append_left _ h'))).2
  ·exact (hlt j (List.mem_append_right _ h')).2
 have hXT:∀ j∈T,j∈footL B tD mD sz tN mN co cl ln∨j<base∨w.heap.size≤j:=fun j hj=>by
  rcases hT j hj with h' | h'
  ·left;rw [footD];exact List.mem_append_left _ h'
  ·exact .inr (.inr h')
 have hY:∀ j∈footL B tD' mD' sz' tN mN co cl ln++footL B tD mD sz tN mN co cl ln,j∈footL B tD mD sz tN mN co cl ln∨w.heap.size≤j:=fun j hj=>by
  rcases List.mem_append.1 hj with hj | hj
  ·rw [footD] at hj ⊢
   rcases List.mem_append.1 hj with h' | h'
   ·rcases List.mem_append.1 h' with h'' | h''
    ·exact .inl (List.mem_append_left _ (List.mem_append_left _ h''))
    ·rcases hn j h'' with q | q
     ·exact .inl (List.mem_append_left _ (List.mem_append_right _ q))
     ·exact .inr q
   ·exact .inl (List.mem_append_right _ h')
  ·exact .inl hj
 have own:∀ {e:TypeId} {size n:Nat} {u:Value} {xs:List Value},w.ownsRow base e size u n xs→(∀ j∈ownL u,j∈restD tN mN co cl ln)→w'.ownsRow base e size u n xs:=fun h hr=>ownsRow_kept h k (fun j hj=>hTr j (hr j (by simp [ownL,hj])))
 refine ⟨tD',mD',sz',tN,mN,co,cl,ln,cvs,kvs,hc,h.low,hfN,by rw [List.map_append];exact hs,by rw [List.length_append,List.length_singleton,List.map_append,intsV,List.map_append];exact hz,h.names.kept k (fun j hj=>hTr j (by simp [restD,hj])) (fun j hj=>hTr j (by simp [restD,hj])),own h.cols (fun j hj=>by simp [restD,hj]),?_,own h.cls (fun j hj=>by simp [restD,hj]),?_,own h.lines (fun j hj=>by simp [restD,hj])⟩
 ·exact (((h.colsA.apart hY).keeps k (fun j hj=>by
   rcases hXT j hj with h' | h'
   ·exact .inl (List.mem_append_right _ h')
   ·exact .inr h'))).apart (fun j hj=>.inl (List.mem_append_left _ hj))
 ·exact (((h.clsA.apart hY).keeps k (fun j hj=>by
   rcases hXT j hj with h' | h'
   ·exact .inl (List.mem_append_right _ h')
   ·exact .inr h'))).apart (fun j hj=>.inl (List.mem_append_left _ hj))
end
section
open Go.RowKit
theorem info3E:(Tryz.prog.info? 3).map (fun i=>(i.zero,i.size,i.bytes))=some (some (.int .i64 0),1,8):=by kernel_rfl
theorem int_one {W:World} {x:Value}:∀ (j:Nat) (u:Value),[x][j]?=some u→(W.alloc (.cells #[x] 3)).cell? ((⟨W.heap.size,0,none⟩:Addr).add j)=some u:=by
 intro j u hu
 rw [Addr.add_lit,Nat.zero_add,(CellsAt.new W #[x] 3).cell]
 match j with
 | 0=>simpa using hu
 | j+1=>simp at hu
def DomTo (base B:Nat) (m:Mean) (n z:Tn) (e:Ending) (w':World):Prop:=if numOf z.g<1∨8<numOf z.g then e=gaveUp 9 z.line else e=.returned (.tuple #[])∧MeanAt w' base B { m with doms:=m.doms++[(txt n.g,numOf z.g)] }
set_option maxHeartbeats 8000000 in
theorem dom_rest {w:World} {base B:Nat} {m:Mean} (h:MeanAt w base B m) (hbase:base≤w.heap.size) (n z:Tn) {zs:ByteArray} (hzg:z.g=.int zs) (hzw:WfG z.g) (h4:¬ m.doms.length=4) (h4l:m.doms.length≤4) (ht:m.taken (txt n.g)=false):Calls Tryz.prog 334 #[.agg #[.string (kindOf n.g),.string (txt n.g),.int .i64 n.line,.string (kindOf z.g),.string (txt z.g),.int .i64 z.line],.pointer (some ⟨B,0,none⟩)] w fun e w'=>DomTo base B m n z e w'∧∃ T,Keeps T w w'∧∀ j∈T,base≤j:=by
 obtain ⟨i0,hi0,hz0,hz1,hz2⟩:=info_parts info3E
 obtain ⟨tD,mD,sz,tN,mN,co,cl,ln,cvs,kvs,hV⟩:=h
 have kA:=Keeps.alloc [] w (.cells #[.string (kindOf n.g),.string (txt n.g),.int .i64 n.line,.string (kindOf z.g),.string (txt z.g),.int .i64 z.line] 321)
 have hA:=CellsAt.new w #[.string (kindOf n.g),.string (txt n.g),.int .i64 n.line,.string (kindOf z.g),.string (txt z.g),.int .i64 z.line] 321
 obtain ⟨aD,cD,hD⟩:=ownE_len hV.doms.row
 have hlen:=hide (fun (w':World) (k:Keeps [] w w')=>len_calls (w:=w') (B:=B) (o:=0) (ns:=m.doms.map Prod.fst) (a:=aD) (c:=cD) (by rw [(hV.cells.keeps k (by simp)).cell,←hD];rfl))
 have htk:=hide (fun (w':World) (k:Keeps [] w w')=>taken_calls (hV.cells.keeps k (by simp)) rfl rfl ((hV.keeps k (by simp)).doms) ((hV.keeps k (by simp)).names) (txt n.g))
 rw [placeIn_names,placeIn_names] at htk
 have ht':((placeIn m.doms (txt n.g)).isSome || (placeIn m.rels (txt n.g)).isSome)=false:=ht
 rw [ht'] at htk
 have hpl:placeB (m.doms.map Prod.fst) (txt n.g)=none:=by
  rw [placeIn_names]
  rw [Bool.or_eq_false_iff] at ht'
  exact Option.isNone_iff_eq_none.1 (by simpa using ht'.1)
 have hadd:=hide (fun (w':World) (k:Keeps [] w w')=>add_calls (s:=txt n.g) (hV.cells.keeps k (by simp)) (o:=0) rfl rfl (X:=[B]) (by simp) (fun j hj=>by have e:j=B:=(by simpa using hj);have:=(hV.cells.keeps k (by simp)).lt;omega) (by have:=k.size;omega) ((hV.keeps k (by simp)).doms) (by rw [List.length_map];omega) hpl)
 have hBl:=hV.cells.lt
 rw [List.length_map] at hlen
 have h4I:(((m.doms.length:Nat):Int) == 4)=false:=by rw [beq_eq_false_iff_ne];omega
 have hno:=hide (fun (w:World)=>refuse_no (w:=w) n 6)
 have hno2:=hide (fun (w:World)=>refuse_no (w:=w) n 7)
 have hval:=hide (fun (w:World)=>value_calls (w:=w) z zs hzg hzw)
 have HV:=hide hV
 have hnr:0≤numOf z.g∧numOf z.g<100:=by
  rw [hzg] at hzw ⊢
  exact valTo_range hzw.1 (Nat.le_refl _) hzw.2.2
 obtain ⟨hn0,hn1⟩:=hnr
 clear hV ht ht' hzg hzw
 go_enter Tryz.func334,Tryz.ntmps334
 go_upto_region 1 with fail
 go_cut [] (fun wc=>Keeps [] w wc∧CellsAt wc w.heap.size #[.string (kindOf n.g),.string (txt n.g),.int .i64 n.line,.string (kindOf z.g),.string (txt z.g),.int .i64 z.line])
 case first=>
  go_region_law (first
   | (refine step_callA rfl 254 _ _ rfl _ Tryz.func254 (by kernel_rfl) (by kernel_rfl) [.pointer (some ⟨B,0,none⟩)] rfl ?_
      refine (hlen.out _ (kA.trans (Keeps.drew _ _))).mono ?_
      rintro e w1 ⟨rfl,rfl⟩)
   | (refine step_callA rfl 335 _ _ rfl _ Tryz.func335 (by kernel_rfl) (by kernel_rfl) [tokV n,.bool false,.int .i64 6] rfl ?_
      refine (hno.out _).mono ?_
      rintro e w1 ⟨rfl,rfl⟩))
  all_goals
   go_wp2_with fail
   go_meet
   exact ⟨(kA.trans (Keeps.drew _ _)).trans (Keeps.alloc [] _ _),(hA.keeps (Keeps.drew [] _) (by simp)).keeps (Keeps.alloc [] _ _) (by simp)⟩
 case rest=>
  obtain ⟨k1,hA1⟩:=hcut
  have d0:=hA1.cell 0
  have d1:=hA1.cell 1
  have d2:=hA1.cell 2
  go_upto_region 2 with fail
  go_cut [] (fun wc2=>Keeps [] w wc2∧CellsAt wc2 w.heap.size #[.string (kindOf n.g),.string (txt n.g),.int .i64 n.line,.string (kindOf z.g),.string (txt z.g),.int .i64 z.line])
  case first=>
   go_region_law (first
    | (refine step_callA rfl 336 _ _ rfl _ Tryz.func336 (by kernel_rfl) (by kernel_rfl) [.pointer (some ⟨B,0,none⟩),.string (txt n.g)] rfl ?_
       refine (htk.out _ (k1.trans (Keeps.drew _ _))).mono ?_
       rintro e w1 ⟨rfl,rfl⟩)
    | (refine step_callA rfl 335 _ _ rfl _ Tryz.func335 (by kernel_rfl) (by kernel_rfl) [tokV n,.bool false,.int .i64 7] rfl ?_
       refine (hno2.out _).mono ?_
       rintro e w1 ⟨rfl,rfl⟩))
   all_goals
    go_wp2_with fail
    go_meet
    exact ⟨(k1.trans (Keeps.drew _ _)).trans (Keeps.alloc [] _ _),(hA1.keeps (Keeps.drew [] _) (by simp)).keeps (Keeps.alloc [] _ _) (by simp)⟩
  case rest=>
   clear d0 d1 d2 hA1 k1
   obtain ⟨k1,hA1⟩:=hcut
   have d0:=hA1.cell 0
   have d1:=hA1.cell 1
   have d3:=hA1.cell 3
   have d4:=hA1.cell 4
   have d5:=hA1.cell 5
   go_wp2_with fail
   refine (hval.out _).mono ?_
   rintro e w2 ⟨rfl,rfl⟩
   have k2:=k1.trans (Keeps.alloc [] wc (.cells #[.string (kindOf z.g),.string (txt z.g),.int .i64 z.line] 129))
   have hA2:=hA1.keeps (Keeps.alloc [] wc (.cells #[.string (kindOf z.g),.string (txt z.g),.int .i64 z.line] 129)) (by simp)
   have e3:=hA2.cell 3
   have e4:=hA2.cell 4
   have e5:=hA2.cell 5
   have hsr:=k1.size
   clear d0 d1 d3 d4 d5
   by_cases hr1:numOf z.g<1
   ·have Hr:Hid (numOf z.g<1∨8<numOf z.g):=hide (.inl hr1)
    have q1:decide (numOf z.g<1)=true:=decide_eq_true hr1
    have q2:decide (8<numOf z.g)=false:=decide_eq_false (by omega)
    clear hr1
    have hyes:=hide (fun (w:World)=>refuse_yes (w:=w) z 9)
    go_wp2_with fail
    refine (hyes.out _).mono ?_
    rintro e w3 ⟨rfl,rfl⟩
    exact ⟨rfl,by unfold DomTo;rw [if_pos Hr.out];rfl,[],k2.trans (Keeps.alloc [] _ _),by simp⟩
   ·by_cases hr2:8<numOf z.g
    ·have Hr:Hid (numOf z.g<1∨8<numOf z.g):=hide (.inr hr2)
     have q1:decide (numOf z.g<1)=false:=decide_eq_false hr1
     have q2:decide (8<numOf z.g)=true:=decide_eq_true hr2
     clear hr1 hr2
     have hyes:=hide (fun (w:World)=>refuse_yes (w:=w) z 9)
     go_wp2_with fail
     refine (hyes.out _).mono ?_
     rintro e w3 ⟨rfl,rfl⟩
     exact ⟨rfl,by unfold DomTo;rw [if_pos Hr.out];rfl,[],k2.trans (Keeps.alloc [] _ _),by simp⟩
    ·have Hr:Hid (¬ (numOf z.g<1∨8<numOf z.g)):=hide (fun h=>h.elim hr1 hr2)
     have q1:decide (numOf z.g<1)=false:=decide_eq_false hr1
     have q2:decide (8<numOf z.g)=false:=decide_eq_false hr2
     clear hr1 hr2
     have hno9:=hide (fun (w:World)=>refuse_no (w:=w) z 9)
     go_wp2_with fail
     refine (hno9.out _).mono ?_
     rintro e w3 ⟨rfl,rfl⟩
     have k3:=k2.trans (Keeps.alloc [] _ (.cells #[.string (kindOf z.g),.string (txt z.g),.int .i64 z.line] 129))
     have hA3:=hA2.keeps (Keeps.alloc [] _ (.cells #[.string (kindOf z.g),.string (txt z.g),.int .i64 z.line] 129)) (by simp)
     generalize hWW:((wc.alloc (.cells #[.string (kindOf z.g),.string (txt z.g),.int .i64 z.line] 129)).alloc (.cells #[.string (kindOf z.g),.string (txt z.g),.int .i64 z.line] 129))=W3 at *
     have c1:=hA3.cell 1
     clear hWW hA2 hA1 k1 k2 e3 e4 e5
     go_upto_region 5 with fail
     go_cut [] (fun wx=>∃ wy,Keeps [] w wy∧Added wy base [B] B 0 #[tD,mD,sz,tN,mN,co,cl,ln] tD mD (m.doms.map Prod.fst) (txt n.g) wx)
     case first=>
      go_region_law (first
       | (refine step_callA rfl 72 _ _ rfl _ Tryz.func72 (by kernel_rfl) (by kernel_rfl) [.pointer (some ⟨B,0,none⟩),.string (txt n.g)] rfl ?_
          refine (hadd.out _ (k3.trans (Keeps.drew _ _))).mono ?_
          rintro e w4 ⟨rfl,hAd⟩))
      all_goals
       go_wp2_with fail
       go_meet
       exact ⟨_,k3.trans (Keeps.drew _ _),hAd⟩
     case rest=>
      obtain ⟨wy,ky,hAd⟩:=hcut
      have hVy:=HV.out.keeps ky (by simp)
      obtain ⟨tv',mv',hcells,hset,hown',hmap'⟩:=hAd.set
      obtain ⟨T,kT,hT⟩:=hAd.keep
      have hT':∀ j∈T,j∈[B]++ownL tD++mapL mD:=fun j hj=>by
       rcases hT j hj with h | h | h
       ·simp [h]
       ·have h2:tD.ownBlock=some j:=h
        simp [ownL,h2]
       ·have h2:mD=.map (some j):=h
        simp [mapL,h2]
      have hcells':CellsAt wc B #[tv',mv',sz,tN,mN,co,cl,ln]:=hcells
      have hfy:=hVy.foot
      have hszT:∀ j∈ownL sz,j∉T:=fun j hj hjT=>by
       have h1:=hT' j hjT
       have h2:(([B]++ownL tD++mapL mD)++ownL sz++restD tN mN co cl ln).Nodup:=by rw [footD] at hfy;simpa using hfy
       exact ((mem_apart h2).1 j hj).1 h1
      have hsz:=ownsRow_kept hVy.sizes kT (fun j hj=>hszT j (by simp [ownL,hj]))
      obtain ⟨aS,cS,hS⟩:=ownE_len hsz
      subst hS
      have d2:=hcells'.cell 2
      have hBc:=hcells'.lt
      have kA4:=Keeps.alloc [] wc (.cells #[.int .i64 (numOf z.g)] 3)
      have ownB:=ownsRow_kept hsz kA4 (by simp)
      have hsy:=ky.size
      have hsT:=kT.size
      clear hadd hval hno hno2 hno9 htk hlen hAd hcells hT
      go_wp2_with (at_builtin;refine wpList_append_own_at _ rfl _ _ 40 rfl base 3 i0 (.int .i64 0) 1 8 Tryz.underlying40 hi0 hz0 hz1 hz2 rfl (by decide) _ m.doms.length (intsV (m.doms.map Prod.snd)) rfl ownB ⟨wc.heap.size,0,none⟩ 1 1 [.int .i64 (numOf z.g)] rfl (by simp) int_one (by simp [Value.oneCell']) (by unfold maxLen;omega) (by omega) (by rw [sizeE_alloc];omega) ?_)
      intro v' W2 own4 grow4 nil4 at4
      have k4:=grownBy_keeps' grow4 (ownL (.slice aS m.doms.length cS)) (fun r e=>.inl (by simp [ownL,e]))
      obtain ⟨gg,cap,rfl⟩:=ownE_succ own4
      have hB4:=(hcells'.keeps kA4 (by simp)).keeps k4 (fun hx=>by
       have h2:([B]++(ownL tD++mapL mD++ownL (.slice aS m.doms.length cS))++restD tN mN co cl ln).Nodup:=by rw [footD] at hfy;exact hfy
       exact ((mem_apart h2).1 B (List.mem_append_right _ hx)).1 (by simp))
      have e2:=hB4.cell 2
      have f2:=hB4.frozen 2
      have Hown4:=hide own4
      have Hk4:=hide k4
      have HB4:=hide hB4
      clear own4 grow4 nil4 k4 hB4
      go_wp2_with fail
      go_end0
      have hfD:=hfy
      rw [footD] at hfD
      have hAp:=mem_apart hfD
      have hin:∀ {A L R:List Nat},(A++L++R).Nodup→∀ j∈L,j∉A:=fun h j hj=>((mem_apart h).1 j hj).1
      have hDM:∀ j∈ownL (.slice aS m.doms.length cS),j∉ownL tD∧j∉mapL mD:=fun j hj=>by
       have h2:(([B]++ownL tD++mapL mD)++ownL (.slice aS m.doms.length cS)++restD tN mN co cl ln).Nodup:=by simpa using hfD
       have h3:=hin h2 j hj
       exact ⟨fun q=>h3 (by simp [q]),fun q=>h3 (by simp [q])⟩
      have hszl:∀ j∈ownL (.slice aS m.doms.length cS),base≤j∧j<wy.heap.size:=fun j hj=>hVy.foot_lt j (by rw [footD];simp [hj])
      have htl:∀ j∈ownL tv',j∈ownL tD∨wy.heap.size≤j:=fun j hj=>by
       rcases hown' j (by simpa [ownL] using hj) with h | h
       ·left;have h2:tD.ownBlock=some j:=h;simp [ownL,h2]
       ·exact .inr h
      have hml:∀ j∈mapL mv',j∈mapL mD∨wy.heap.size≤j:=fun j hj=>by
       have e:mv' = .map (some j):=by
        unfold mapL at hj
        split at hj
        ·have e:j=_:=(by simpa using hj);rw [e]
        ·cases hj
       rcases hmap' j e with h | h
       ·left;have h2:mD=.map (some j):=h;simp [mapL,h2]
       ·exact .inr h
      have hts:∀ j∈ownL tv',j∉ownL (.slice aS m.doms.length cS):=fun j hj hs=>by
       rcases htl j hj with h | h
       ·exact (hDM j hs).1 h
       ·have:=(hszl j hs).2;omega
      have hms:∀ j∈mapL mv',j∉ownL (.slice aS m.doms.length cS):=fun j hj hs=>by
       rcases hml j hj with h | h
       ·exact (hDM j hs).2 h
       ·have:=(hszl j hs).2;omega
      have hgg:gg∈ownL (.slice aS m.doms.length cS)∨gg=wc.heap.size+1:=by
       rcases at4 with h | h
       ·left;simp only [ownL];rw [←h];simp [Value.ownBlock]
       ·right;simpa [Value.ownBlock] using h
      have htw:∀ j∈ownL tv',j<wc.heap.size:=fun j hj=>(ownL_at hset.row j hj).2
      have hmw:∀ j∈mapL mv',j<wc.heap.size:=fun j hj=>(mapL_at hset j hj).2
      have hBy:=hVy.cells.lt
      have hggB:gg≠B:=by
       rcases hgg with h | h
       ·intro e;subst e;exact (hAp.1 gg (List.mem_append_right _ h)).1 (by simp)
       ·omega
      have ks:=Keeps.setCell W2 ⟨B,2,none⟩ (.slice (some ⟨gg,0,none⟩) (m.doms.length+1) cap)
      have kall:Keeps ([B]++(ownL tD++mapL mD++ownL (.slice aS m.doms.length cS))) wy (W2.setCell ⟨B,2,none⟩ (.slice (some ⟨gg,0,none⟩) (m.doms.length+1) cap)):=
       (((kT.mono (fun i hi=>by have:=hT' i hi;simp at this ⊢;rcases this with q | q | q <;> simp [q])).trans (kA4.mono (by simp))).trans (Hk4.out.mono (fun i hi=>by simp [hi]))).trans (ks.mono (by simp))
      have k5:Keeps (ownL (.slice aS m.doms.length cS)++[B]) wc (W2.setCell ⟨B,2,none⟩ (.slice (some ⟨gg,0,none⟩) (m.doms.length+1) cap)):=((kA4.mono (by simp)).trans (Hk4.out.mono (fun i hi=>by simp [hi]))).trans (ks.mono (by simp))
      have hsetF:=hset.kept k5 (fun j hj hx=>by
       rcases List.mem_append.1 hx with h | h
       ·exact hts j hj h
       ·exact hset.rowA j (by simpa [ownL] using hj) h) (fun j hj hx=>by
       rcases List.mem_append.1 hx with h | h
       ·exact hms j hj h
       ·rcases hset.map with ⟨q,_⟩ | ⟨r,q,_,_,q4,_⟩
        ·rw [q] at hj;simp [mapL] at hj
        ·rw [q] at hj;simp [mapL] at hj;subst hj;exact q4 h)
      have hzF:=ownsRow_kept Hown4.out ks (fun j hj hx=>by
       have e1:j=B:=(by simpa using hx)
       have e2:gg=j:=(by simpa [Value.ownBlock] using hj)
       exact hggB (by rw [e2,e1]))
      refine ⟨?_,[B]++(ownL tD++mapL mD++ownL (.slice aS m.doms.length cS)),(ky.mono (by simp)).trans kall,fun j hj=>(hVy.foot_lt j (by rw [footD];exact List.mem_append_left _ hj)).1⟩
      unfold DomTo
      rw [if_neg Hr.out]
      refine ⟨rfl,hVy.addDom kall (fun j hj=>.inl hj) (HB4.out.setCell 2 _) hsetF hzF (fun j hj=>?_) ?_⟩
      ·rcases List.mem_append.1 hj with h | h
       ·rcases List.mem_append.1 h with h | h
        ·rcases htl j h with q | q
         ·left;simp [q]
         ·exact .inr q
        ·rcases hml j h with q | q
         ·left;simp [q]
         ·exact .inr q
       ·have e:j=gg:=(by simpa [ownL,Value.ownBlock] using h)
        rcases hgg with q | q
        ·left;rw [e];simp [q]
        ·right;omega
      ·rw [List.nodup_append,List.nodup_append]
       refine ⟨⟨ownL_nodup _,mapL_nodup _,fun a ha b hb e=>?_⟩,ownL_nodup _,fun a ha b hb e=>?_⟩
       ·subst e
        rcases hset.map with ⟨q,_⟩ | ⟨r,q,_,_,_,q5⟩
        ·rw [q] at hb;simp [mapL] at hb
        ·rw [q] at hb;simp [mapL] at hb;subst hb;exact q5 (by simpa [ownL] using ha)
       ·subst e
        have e2:a=gg:=(by simpa [ownL,Value.ownBlock] using hb)
        subst e2
        rcases hgg with q | q
        ·rcases List.mem_append.1 ha with h | h
         ·exact hts a h q
         ·exact hms a h q
        ·rcases List.mem_append.1 ha with h | h
         ·have:=htw a h;omega
         ·have:=hmw a h;omega
end
section
open Go.RowKit
theorem rel_many {w:World} {base B:Nat} {m:Mean} (h:MeanAt w base B m) (n:Tn) (cv:Value) {av:Option Addr} {cn cc:Nat} (hcv:cv=.slice av cn cc) (h4:m.rels.length=6):Calls Tryz.prog 337 #[.agg #[.string (kindOf n.g),.string (txt n.g),.int .i64 n.line,cv],.pointer (some ⟨B,0,none⟩)] w fun e w'=>e=gaveUp 6 n.line∧Keeps [] w w':=by
 subst hcv
 obtain ⟨tD,mD,sz,tN,mN,co,cl,ln,cvs,kvs,hV⟩:=h
 have kA:=Keeps.alloc [] w (.cells #[.string (kindOf n.g),.string (txt n.g),.int .i64 n.line,(.slice av cn cc)] 325)
 obtain ⟨aD,cD,hD⟩:=ownE_len hV.names.row
 have hlen:=hide (fun (w':World) (k:Keeps [] w w')=>len_calls (w:=w') (B:=B) (o:=3) (ns:=m.rels.map Prod.fst) (a:=aD) (c:=cD) (by rw [(hV.cells.keeps k (by simp)).cell,←hD];rfl))
 have hBl:=hV.cells.lt
 rw [List.length_map,h4] at hlen
 have hno:=hide (fun (w:World)=>refuse_yes (w:=w) n 6)
 clear hV
 go_enter Tryz.func337,Tryz.ntmps337
 go_wp2_with fail
 go_region_law (first
  | (refine step_callA rfl 254 _ _ rfl _ Tryz.func254 (by kernel_rfl) (by kernel_rfl) [.pointer (some ⟨B,3,none⟩)] rfl ?_
     refine (hlen.out _ (kA.trans (Keeps.drew _ _))).mono ?_
     rintro e w1 ⟨rfl,rfl⟩)
  | (refine step_dies rfl 335 _ _ rfl _ Tryz.func335 (by kernel_rfl) (by kernel_rfl) [tokV n,.bool true,.int .i64 6] rfl ?_ ?_
     ·refine (hno.out _).mono ?_
      rintro e w1 ⟨rfl,rfl⟩
      exact ⟨rfl,rfl,(kA.trans (Keeps.drew _ _)).trans (Keeps.alloc [] _ _)⟩
     intro hf))
 all_goals exact (hf.out).elim
theorem rel_taken {w:World} {base B:Nat} {m:Mean} (h:MeanAt w base B m) (n:Tn) (cv:Value) {av:Option Addr} {cn cc:Nat} (hcv:cv=.slice av cn cc) (h4:¬ m.rels.length=6) (ht:m.taken (txt n.g)=true):Calls Tryz.prog 337 #[.agg #[.string (kindOf n.g),.string (txt n.g),.int .i64 n.line,cv],.pointer (some ⟨B,0,none⟩)] w fun e w'=>e=gaveUp 7 n.line∧Keeps [] w w':=by
 subst hcv
 obtain ⟨tD,mD,sz,tN,mN,co,cl,ln,cvs,kvs,hV⟩:=h
 have kA:=Keeps.alloc [] w (.cells #[.string (kindOf n.g),.string (txt n.g),.int .i64 n.line,(.slice av cn cc)] 325)
 have hA:=CellsAt.new w #[.string (kindOf n.g),.string (txt n.g),.int .i64 n.line,(.slice av cn cc)] 325
 obtain ⟨aD,cD,hD⟩:=ownE_len hV.names.row
 have hlen:=hide (fun (w':World) (k:Keeps [] w w')=>len_calls (w:=w') (B:=B) (o:=3) (ns:=m.rels.map Prod.fst) (a:=aD) (c:=cD) (by rw [(hV.cells.keeps k (by simp)).cell,←hD];rfl))
 have htk:=hide (fun (w':World) (k:Keeps [] w w')=>taken_calls (hV.cells.keeps k (by simp)) rfl rfl ((hV.keeps k (by simp)).doms) ((hV.keeps k (by simp)).names) (txt n.g))
 rw [placeIn_names,placeIn_names] at htk
 change (_ || _)=true at ht
 have ht':((placeIn m.doms (txt n.g)).isSome || (placeIn m.rels (txt n.g)).isSome)=true:=ht
 rw [ht'] at htk
 have hBl:=hV.cells.lt
 rw [List.length_map] at hlen
 have h4I:(((m.rels.length:Nat):Int) == 6)=false:=by rw [beq_eq_false_iff_ne];omega
 have hno:=hide (fun (w:World)=>refuse_no (w:=w) n 6)
 have hyes:=hide (fun (w:World)=>refuse_yes (w:=w) n 7)
 clear hV ht ht'
 go_enter Tryz.func337,Tryz.ntmps337
 go_upto_region 1 with fail
 go_cut [] (fun wc=>Keeps [] w wc∧CellsAt wc w.heap.size #[.string (kindOf n.g),.string (txt n.g),.int .i64 n.line,(.slice av cn cc)])
 case first=>
  go_region_law (first
   | (refine step_callA rfl 254 _ _ rfl _ Tryz.func254 (by kernel_rfl) (by kernel_rfl) [.pointer (some ⟨B,3,none⟩)] rfl ?_
      refine (hlen.out _ (kA.trans (Keeps.drew _ _))).mono ?_
      rintro e w1 ⟨rfl,rfl⟩)
   | (refine step_callA rfl 335 _ _ rfl _ Tryz.func335 (by kernel_rfl) (by kernel_rfl) [tokV n,.bool false,.int .i64 6] rfl ?_
      refine (hno.out _).mono ?_
      rintro e w1 ⟨rfl,rfl⟩))
  all_goals
   go_wp2_with fail
   go_meet
   exact ⟨(kA.trans (Keeps.drew _ _)).trans (Keeps.alloc [] _ _),(hA.keeps (Keeps.drew [] _) (by simp)).keeps (Keeps.alloc [] _ _) (by simp)⟩
 case rest=>
  obtain ⟨k1,hA1⟩:=hcut
  have d0:=hA1.cell 0
  have d1:=hA1.cell 1
  have d2:=hA1.cell 2
  go_wp2_with fail
  go_region_law (first
   | (refine step_callA rfl 336 _ _ rfl _ Tryz.func336 (by kernel_rfl) (by kernel_rfl) [.pointer (some ⟨B,0,none⟩),.string (txt n.g)] rfl ?_
      refine (htk.out _ (k1.trans (Keeps.drew _ _))).mono ?_
      rintro e w1 ⟨rfl,rfl⟩)
   | (refine step_dies rfl 335 _ _ rfl _ Tryz.func335 (by kernel_rfl) (by kernel_rfl) [tokV n,.bool true,.int .i64 7] rfl ?_ ?_
      ·refine (hyes.out _).mono ?_
       rintro e w1 ⟨rfl,rfl⟩
       exact ⟨rfl,rfl,(k1.trans (Keeps.drew _ _)).trans (Keeps.alloc [] _ _)⟩
      intro hf))
  all_goals exact (hf.out).elim
end
end Go.Proofs.YtgjomknpjigkhaaGreatDoor
