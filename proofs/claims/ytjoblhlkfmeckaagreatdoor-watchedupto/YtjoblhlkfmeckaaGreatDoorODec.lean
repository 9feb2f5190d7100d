import Derived.Test.YtjoblhlkfmeckaaGreatDoorQ11
import Derived.Test.YtjoblhlkfmeckaaGreatDoorQ09
import Derived.Test.YtjoblhlkfmeckaaGreatDoorQ10
set_option maxHeartbeats 2000000
set_option maxRecDepth 8000
set_option linter.unusedVariables false
set_option linter.unusedSimpArgs false
open Option renaming none → od,some → lp
open Go.RowKit renaming Below → ug
open Go.Proofs.Tryz renaming prog → ly,results163 → p8,ntmps122 → qo,func122 → ey
open Go renaming World → qq,Calls → xi,Value → tj,wpList_store_row → kj,Addr → zu,heap_setCell_other → cr,bodyPost_ret → zg
open Go.RowKit.Below renaming heap_alloc → q8
open Bool renaming true → s7,false → vp
open Go.Proofs.Tryz Orch
theorem Vfk{p q:Prop}(k:q)(h:Hd q->p:=by
 intro kz
 refine Gt (fun X=>X.heap[w.heap.size+1]? = some (.cells #[.int .i64 0,.string ⟨#[]⟩,.slice none 0 0] 164)/\Below w.heap.size w X) ⟨setRow_heap _ _ _ _ _ _ HH2.out,Ci (Cs.out.alloc Cs.out.size _) (dD _) _⟩ ?_
 exact kz.1):p:=h ⟨k⟩
theorem Xxn{p q:Prop}(k:q)(h:Hd q->p:=by
 intro kz
 have HSZ:Hid (w.heap.size+2<=((w.alloc (.cells #[.int .u8 sg,.int .i64 sh,.int .i64 sz,.int .i64 lo,.int .i64 hi,.bool tx,.int .u8 fn,.slice pa pn pc] 196)).alloc (.cells #[.int .i64 0,.string ⟨#[]⟩,.slice none 0 0] 164)).heap.size):=by show _<=_;simp
 revert HSZ
 exact kz.1):p:=h ⟨k⟩
theorem Y1a{p:Prop}(h:p:=by
 refine Vfk ?_
 rintro X ⟨HQ,hbX⟩
 obtain⟨c0,c1,c2⟩:=Ld 0 1 2 HQ
 exact bodyPost_ret (v:=.tuple #[vv 0 ⟨#[]⟩ (.slice none 0 0),.bool false]) (by simp [results,Tryz.results122,go_sem,c0,c1,c2]) rfl ⟨rfl,hbX⟩):p:=h
theorem A1l{p:Prop}(h:p:=by
 refine Crk ?_;intro n0 n1
 have N1:=Bc n1
 clear n0 n1
 go_enter Tryz.func203,Tryz.ntmps203
 go_wp2_with (first
  | (refine wpList_store_row rfl 164 _ _ rfl (w.heap.size+1) #[.int .i64 0,.string ⟨#[]⟩,.slice none 0 0] rfl rfl 164 _ HH.out Tryz.size164 rfl (Ly _ _ _ _ _) ?_)
  | (go_at_call 204;refine(HC.out _ (Ck _ _ _)).mono ?_;rintro e w1 ⟨rfl,B9⟩;have HH:Hid (w1.heap[w.heap.size+1]? = some (.cells #[.int .i64 0,.string ⟨#[]⟩,.slice none 0 0] 164)):=(B9.block _ (ltOf N1.out)).trans N1.out;have Cs:Hid (Below w.heap.size w w1):=(Ck _ _ _).trans (B9.mono Ag);clear B9))
 refine Z32 ?_
 rintro X ⟨HQ,hbX⟩
 obtain⟨c0,c1,c2⟩:=Ld 0 1 2 HQ
 have HBX:=Bc hbX
 clear hbX HQ
 exact bodyPost_ret (v:=.tuple #[vv 0 ⟨#[]⟩ (.slice none 0 0),.slice none 0 0,.bool false]) (by simp [results,Tryz.results203,go_sem,c0,c1,c2]) rfl ⟨⟨_,_,_,_,_,_,_,_,rfl⟩,HBX.out⟩):p:=h
namespace Go.Proofs.YtjoblhlkfmeckaaGreatDoor
open Go.RowKit
def XB(b off cap k n:Nat)(e:Ending):Prop:=∃b' off' cap',e=.returned (.tuple #[.int .i64 n,.slice (lp ⟨b',off',od⟩) (k - 4) cap',.bool s7])/\((cap=4/\b'=b/\off'=off/\cap'=0)∨(¬cap=4/\b'=b/\off'=off+4/\cap'=cap - 4))
theorem Sf(w:qq)(b off cap:Nat)(l:List UInt8)(hl:l.length<=1000)(Ea:l.length<=cap)(hb:Bytes w b off l)(most:Nat)(hm:most<=1000)(n:Nat)(rest:List UInt8)(hc:count l most=lp (n,rest)) :
  xi ly 204 #[.slice (lp ⟨b,off,od⟩) l.length cap,.int .i64 most] w fun e w'=>XB b off cap l.length n e/\ug w.heap.size w w':=by
 unfold count at hc
 split at hc
 ·cases hc
 ·split at hc
  ·cases hc
  ·rename_i h4 hu
   simp only [aL,bH] at hc
   obtain⟨rfl,rfl⟩:=hc
   have cU:=Ha w b off 4 cap (l.take 4) (by rw [bL];omega) Ab (hb.take 4)
   have h4z:¬(l.length:Int)<4:=Ab
   refine B5t ?_;intro hX
   clear hb
   generalize Orch.uns (l.take 4)=X at *
   have huz:¬(most:Int)<X:=Ab
   generalize l.length=k at *
   go_enter func204,ntmps204
   go_wp2_with (go_at_call 140;refine cU.mono ?_;rintro e w' ⟨rfl,rfl⟩)
   go_region
   all_goals go_wp2
   all_goals go_ret3
   all_goals first
    | exact⟨⟨b,off,0,rfl,Or.inl ⟨rfl,rfl,rfl,rfl⟩⟩,Du _⟩
    | exact⟨⟨b,off+4,cap - 4,rfl,Or.inr ⟨‹_›,rfl,rfl,rfl⟩⟩,Du _⟩
theorem Rg(w:qq)(sg sh sz:Nat)(lo hi:Int)(tx:Bool)(fn:Nat)(pa:Option zu)(pn pc k cap:Nat)(a:Option zu)(hk:k<=1000)(hs:sz<=8)(h4:k<sz) :
  xi ly 202 #[Gl sg sh sz lo hi tx fn (.slice pa pn pc),.slice a k cap] w fun e w'=>Mp e/\ug w.heap.size w w':=by
 have h4z:(k:Int)<(sz:Int):=Ab
 go_enter func202,ntmps202
 go_wp2
 exact zg (v:=.tuple #[vv 0 ⟨#[]⟩ (.slice od 0 0),.slice od 0 0,.bool vp]) (by simp [results,results202,go_sem]) rfl ⟨⟨_,_,_,_,_,_,_,_,rfl⟩,Ck _ _ _⟩
theorem U5(w:qq)(sg sh sz lo hi:Int)(tx:Bool)(fn:Int)(pa:Option zu)(pn pc:Nat)(bv:tj)(HC:Hid (∀w',ug w.heap.size w w'->xi ly 204 #[bv,.int .i64 200] w' fun e Hx=>e=.returned (.tuple #[.int .i64 0,.slice od 0 0,.bool vp])/\ug w'.heap.size w' Hx)) :
  xi ly 203 #[Gl sg sh sz lo hi tx fn (.slice pa pn pc),bv] w fun e w'=>Mp e/\ug w.heap.size w w':=by
 exact A1l
theorem Se(w:qq)(sg sh sz lo hi:Int)(tx:Bool)(fn:Int)(pa:Option zu)(pn pc:Nat)(bv:tj)(b off k n cap:Nat)(hk:k<n)(hn:n<=200)(HC:Hid (∀w',ug w.heap.size w w'->xi ly 204 #[bv,.int .i64 200] w' fun e Hx=>e=.returned (.tuple #[.int .i64 n,.slice (lp ⟨b,off,od⟩) k cap,.bool s7])/\ug w'.heap.size w' Hx)) :
  xi ly 203 #[Gl sg sh sz lo hi tx fn (.slice pa pn pc),bv] w fun e w'=>Mp e/\ug w.heap.size w w':=by
 have hkz:(k:Int)<(n:Int):=Ab
 exact A1l
section
variable {valid:ByteArray->Bool} {Tabs:qq->Prop}
theorem QK(U:Jk valid Tabs)(w:qq)(hT:Tabs w)(k:Nat)(t:Ty)(E6:Vp (k+1) t)(hsh:t.l.shape=0)(pa:Option zu)(pc:Nat)(bv:tj)(l:List UInt8)(hl:l.length<=1000)(hbv:Gz w bv l) :
  xi ly 202 #[D7 t.l (.slice pa t.ps.length pc),bv] w fun e w'=>G8 w w' bv l e (Orch.take valid (k+1) t l)/\ug w.heap.size w w':=by
 obtain⟨b,off,cap,rfl,Ea,Cg,hb⟩:=hbv
 have Di:=P8 E6.1 hsh
 rw [Orch.take]
 simp only [hsh]
 by_cases h4:l.length<t.l.size
 ·rw [aQ h4]
  exact Rg w _ _ _ _ _ _ _ pa _ pc l.length cap _ hl Ab h4
 ·rw [aO h4]
  have hS:∀(w:qq) (b off cap:Nat) (x:List UInt8),x.length=t.l.size->Bytes w b off x->xi ly 142 #[.slice (lp ⟨b,off,od⟩) t.l.size cap] w fun e w'=>e=.returned (.int .i64 (sgn x))/\w'=w:=by
   rcases Di with h|h|h <;> rw [h]
   ·exact fun w b off cap x=>PT w b off cap x
   ·exact fun w b off cap x=>AK w b off cap x
   ·exact fun w b off cap x=>PU w b off cap x
  refine(Sg (Tabs:=Tabs) w t.l.sign.toNat t.l.shape t.l.size t.l.least t.l.most t.l.text t.l.fin.toNat pa t.ps.length pc b off l.length cap (sgn (l.take t.l.size)) (fits valid t (.mk (sgn (l.take t.l.size)) ⟨#[]⟩ [])) hl Ea Ab Cg h4
   (fun w' h=>Ua U w' h t E6 pa pc (.mk (sgn (l.take t.l.size)) ⟨#[]⟩ []) od 0) (fun w' h=>U.kept (U.size hT) h hT)
   (fun w' hbw=>hS w' b off cap (l.take t.l.size) (by rw [bL];omega) (fun i hi=>(hbw.cell (p:=⟨b,off+i,od⟩) Cg).trans (hb.take _ i hi)))).mono ?_
  rintro e w' ⟨rv,rfl,hrv,hbb⟩
  refine⟨?_,hbb⟩
  have he:(ByteArray.empty)=(⟨#[]⟩:ByteArray):=rfl
  rw [he]
  cases hf:fits valid t (.mk (sgn (l.take t.l.size)) ⟨#[]⟩ []) with
  | false=>
   rw [aO Ae,hrv]
   by_cases hc:cap=t.l.size
   ·rw [aQ hc];exact⟨_,_,_,_,_,_,_,_,rfl⟩
   ·rw [aO hc];exact⟨_,_,_,_,_,_,_,_,rfl⟩
  | true=>
   rw [aQ rfl]
   refine⟨_,rv,rfl,.nil _ _,?_,Pv.nil _ _⟩
   rw [hrv]
   exact I7.cut b off cap l _ Ab
theorem GR(U:Jk valid Tabs)(w:qq)(hT:Tabs w)(k:Nat)(t:Ty)(E6:Vp (k+1) t)(hsh:t.l.shape=1)(pa:Option zu)(pc:Nat)(bv:tj)(l:List UInt8)(hl:l.length<=1000)(hbv:Gz w bv l) :
  xi ly 203 #[D7 t.l (.slice pa t.ps.length pc),bv] w fun e w'=>G8 w w' bv l e (Orch.take valid (k+1) t l)/\ug w.heap.size w w':=by
 have hcnt:∀w',ug w.heap.size w w'->xi ly 204 #[bv,.int .i64 200] w' fun e Hx=>Ng bv l 200 e/\ug w'.heap.size w' Hx:=fun w' hb=>O6 w' bv l hl (hbv.below hb (aA _)) 200 Ab
 rw [Orch.take]
 simp only [hsh]
 unfold Ng at hcnt
 cases hc:count l 200 with
 | none=>
  rw [hc] at hcnt
  exact U5 w _ _ _ _ _ _ _ pa _ pc bv hcnt
 | some nr=>
  obtain⟨n,rest⟩:=nr
  clear hcnt
  obtain⟨b,off,cap,rfl,Ea,Cg,hb⟩:=hbv
  have hcs:=count_some hc
  have hdr:rest=l.drop 4:=by
   unfold count at hc
   split at hc
   ·cases hc
   ·split at hc
    ·cases hc
    ·simp only [aL,bH] at hc;exact hc.2.symm
  have hrl:rest.length=l.length - 4:=Ab
  have hex:∀w',ug w.heap.size w w'->xi ly 204 #[.slice (lp ⟨b,off,od⟩) l.length cap,.int .i64 200] w' fun e Hx=>(∃b' off' cap',e=.returned (.tuple #[.int .i64 n,.slice (lp ⟨b',off',od⟩) (l.length - 4) cap',.bool s7])/\((cap=4/\b'=b/\off'=off/\cap'=0)∨(¬cap=4/\b'=b/\off'=off+4/\cap'=cap - 4)))/\ug w'.heap.size w' Hx:=fun w' hbw=>
   Sf w' b off cap l hl Ea (fun i hi=>(hbw.cell (p:=⟨b,off+i,od⟩) Cg).trans (hb i hi)) 200 Ab n rest hc
  obtain⟨off1,cap1,hfix,htail,hbr,hcr⟩:∃off1 cap1,(∀w',ug w.heap.size w w'->xi ly 204 #[.slice (lp ⟨b,off,od⟩) l.length cap,.int .i64 200] w' fun e Hx=>e=.returned (.tuple #[.int .i64 n,.slice (lp ⟨b,off1,od⟩) rest.length cap1,.bool s7])/\ug w'.heap.size w' Hx) /\
    I7 (.slice (lp ⟨b,off,od⟩) l.length cap) l (.slice (lp ⟨b,off1,od⟩) rest.length cap1) rest/\Bytes w b off1 rest/\rest.length<=cap1:=by
   have hcut:=I7.cut b off cap l 4 Ab
   by_cases h4:cap=4
   ·refine⟨off,0,fun w' hbw=>(hex w' hbw).mono ?_,?_,?_,Ab⟩
    ·rintro e Hx ⟨⟨b',off',cap',rfl,h|h⟩,hbb⟩
     ·obtain⟨_,rfl,rfl,rfl⟩:=h
      exact⟨by rw [hrl],hbb⟩
     ·exact absurd h4 h.1
    ·rw [aQ h4,←hdr] at hcut;rw [hrl];exact hcut
    ·intro i hi;omega
   ·refine⟨off+4,cap - 4,fun w' hbw=>(hex w' hbw).mono ?_,?_,?_,Ab⟩
    ·rintro e Hx ⟨⟨b',off',cap',rfl,h|h⟩,hbb⟩
     ·exact absurd h.1 h4
     ·obtain⟨_,rfl,rfl,rfl⟩:=h
      exact⟨by rw [hrl],hbb⟩
    ·rw [aO h4,←hdr] at hcut;rw [hrl];exact hcut
    ·rw [hdr];exact hb.drop 4
  clear hex
  simp only
  by_cases hn:rest.length<n
  ·rw [aQ hn]
   exact Se w _ _ _ _ _ _ _ pa _ pc _ b off1 rest.length n cap1 hn hcs.1 hfix
  ·rw [aO hn]
   have htk:(rest.take n).length=n:=by rw [bL];omega
   have hstr:strOfNums ((rest.take n).map fun c=>(c.toNat:Int))=(⟨(rest.take n).toArray⟩:ByteArray):=by
    unfold strOfNums
    congr 2
    rw [List.map_map]
    conv=>rhs;rw [←List.map_id (rest.take n)]
    apply List.map_congr_left
    intro c _
    simp
   refine(U4 (Tabs:=Tabs) w t.l.sign.toNat t.l.shape t.l.size t.l.least t.l.most t.l.text t.l.fin.toNat pa t.ps.length pc _ b off1 rest.length n cap1 ⟨(rest.take n).toArray⟩ (fits valid t (bytesV (rest.take n))) Ab hcr Cg Ab hfix
    (fun w' h=>Ua U w' h t E6 pa pc (bytesV (rest.take n)) od 0) (fun w' h=>U.kept (U.size hT) h hT)
    (fun w' hbw=>by
     have:=run_convert_bytes_arg (P:=ly) w' 35 5 underlying35 underlying5 b off1 n cap1 ((rest.take n).map fun c=>(c.toNat:Int)) (by rw [bN,htk]) (fun i hi=>by
      have h1:=(hbw.cell (p:=⟨b,off1+i,od⟩) Cg).trans (hbr.take n i (by rw [htk];exact hi))
      rw [h1,cR,bX,aR (by rw [htk];exact hi)]
      rfl) 9 underlying9
     rw [hstr] at this
     exact this)).mono ?_
   rintro e w' ⟨rv,rfl,hrv,hbb⟩
   refine⟨?_,hbb⟩
   cases hf:fits valid t (bytesV (rest.take n)) with
   | false=>
    rw [aO Ae,hrv]
    by_cases hc1:cap1=n
    ·rw [aQ hc1];exact⟨_,_,_,_,_,_,_,_,rfl⟩
    ·rw [aO hc1];exact⟨_,_,_,_,_,_,_,_,rfl⟩
   | true=>
    rw [aQ rfl]
    refine⟨_,rv,rfl,.nil _ _,htail.trans ?_,Pv.nil _ _⟩
    rw [hrv]
    exact I7.cut b off1 cap1 rest n Ab
end
section
variable {valid:ByteArray->Bool} {Tabs:qq->Prop}
theorem GB{W wb:qq}{bv:tj}{l:List UInt8}{e:Ending}{o:Option (List V×List UInt8)}(h:WE W wb bv l e o):G8 W wb bv l e (o.map listV):=by
 cases o with
 | none=>exact h
 | some es=>obtain⟨es,rest⟩:=es;exact h
theorem JN{W wb:qq}{bv:tj}{l:List UInt8}{e:Ending}{o:Option (V×List UInt8)}(h:G8 W wb bv l e o) :
  ∃(n:Int) (s:ByteArray) (a:Option zu) (m c:Nat) (rv:tj) (ok:Bool),e=.returned (.tuple #[vv n s (.slice a m c),rv,.bool ok]):=by
 cases o with
 | none=>obtain⟨n,s,a,a',m,c,m',c',rfl⟩:=h;exact⟨_,_,_,_,_,_,_,rfl⟩
 | some p=>
  obtain⟨v,rest⟩:=p
  obtain⟨lv,rv,rfl,hv,_⟩:=h
  obtain⟨a,c,rfl⟩:=hv.shape
  exact⟨_,_,_,_,_,_,_,rfl⟩
theorem Ms{f:FuncId}{args:Array tj}{W:qq}{bv:tj}{l:List UInt8}{o:Option (V×List UInt8)}(h:xi ly f args W fun e w'=>G8 W w' bv l e o/\ug W.heap.size W w'):xi ly f args W (handed (fun W v wb=>G8 W wb bv l (.returned v) o) W):=by
 refine h.mono ?_
 rintro e w' ⟨hr,hb⟩
 obtain⟨n,s,a,m,c,rv,ok,rfl⟩:=JN hr
 exact⟨⟨n,s,a,m,c,rv,ok,rfl,hr⟩,hb⟩
theorem X4{w w':qq}{bv:tj}{l:List UInt8}{e:Ending}{o:Option (V×List UInt8)}(h:Zz (fun W v wb=>G8 W wb bv l (.returned v) o) w e w'):G8 w w' bv l e o/\ug w.heap.size w w':=by
 obtain⟨⟨W,wb,v,rfl,hr,hs,Di,hk⟩,hb⟩:=h
 refine⟨?_,hb⟩
 cases o with
 | none=>exact hr
 | some p=>
  obtain⟨x,rest⟩:=p
  obtain⟨lv,rv,he,hv,ht⟩:=hr
  exact⟨lv,rv,he,hv.congr (fun b Es=>⟨Ab,by rw [Di];exact Es.2⟩) (fun b Es=>hk b Ab),ht.1,ht.2.keep Ab Ab (fun b Es _=>hk b Ab)⟩
theorem UU(U:Jk valid Tabs)(k:Nat)(hte:LO valid Tabs k):BO valid Tabs (k+1):=by
 intro w hT t E6 S psv hts hS bv l hl hbv
 obtain⟨pa,pc,rfl⟩:=hts.shape
 have hTW:∀W,ug w.heap.size w W->Tabs W:=fun W h=>U.kept (U.size hT) h hT
 have hBW:∀W,ug w.heap.size w W->Gz W bv l:=fun W h=>hbv.below h (aA _)
 have hTS:∀W,ug w.heap.size w W->El W S t.ps (.slice pa t.ps.length pc):=fun W h=>hts.congr (fun _ h'=>h') (fun b hb=>h.block b (hS b hb))
 have hSW:∀W,ug w.heap.size w W->∀b,S b->b<W.heap.size:=fun W h b hb=>aB (hS b hb) h.size
 rcases Lj E6.1 with h|h|h|h
 ·have hc:=fun W (hb:ug w.heap.size w W)=>Ms (QK U W (hTW W hb) k t E6 h pa pc bv l hl (hBW W hb))
  simp only [D7,h] at hc ⊢
  exact(ZQ w _ _ _ _ _ _ pa _ pc bv _ hc).mono fun e w' he=>X4 he
 ·have hc:=fun W (hb:ug w.heap.size w W)=>Ms (GR U W (hTW W hb) k t E6 h pa pc bv l hl (hBW W hb))
  simp only [D7,h] at hc ⊢
  exact(ZR w _ _ _ _ _ _ pa _ pc bv _ hc).mono fun e w' he=>X4 he
 ·have hcnt:=fun W (hb:ug w.heap.size w W)=>O6 W bv l hl (hBW W hb) 32 Ab
  rw [Orch.take]
  simp only [h]
  unfold Ng at hcnt
  cases hc:count l 32 with
  | none=>
   rw [hc] at hcnt
   simp only [D7,h]
   exact EJ w _ _ _ _ _ _ pa _ pc bv hcnt
  | some nr=>
   obtain⟨n,rest⟩:=nr
   rw [hc] at hcnt
   have hcs:=count_some hc
   have h30:∀W v,I7 bv l v rest->ug w.heap.size w W->xi ly 205 #[D7 t.l (.slice pa t.ps.length pc),.int .i64 n,v] W fun e w'=>G8 W w' bv l e ((takeE (Orch.take valid k) t n 0 rest).map listV)/\ug W.heap.size W w':=fun W v htl hb=>by
    refine(hte W (hTW W hb) t E6 S _ (hTS W hb) (hSW W hb) n Ab (Or.inl h) v rest Ab (htl W (hBW W hb))).mono ?_
    rintro e w' ⟨hr,Es⟩
    refine⟨?_,Es⟩
    have:=GB hr
    cases ho:(takeE (Orch.take valid k) t n 0 rest).map listV with
    | none=>rw [ho] at this;exact this
    | some p=>
     rw [ho] at this
     obtain⟨x,r⟩:=p
     obtain⟨lv,rv,he,hv,ht,ho'⟩:=this
     exact⟨lv,rv,he,hv,htl.trans ht,ho'⟩
   have h30':=fun W v (hq:I7 bv l v rest) (hb:ug w.heap.size w W)=>Ms (h30 W v hq hb)
   simp only [D7,h] at h30' ⊢
   exact(ZS w _ _ _ _ _ _ pa _ pc bv _ n (fun v=>I7 bv l v rest) hcnt h30').mono fun e w' he=>X4 he
 ·rw [Orch.take]
  simp only [h]
  have h30:∀W,ug w.heap.size w W->xi ly 205 #[D7 t.l (.slice pa t.ps.length pc),.int .i64 t.ps.length,bv] W fun e w'=>G8 W w' bv l e ((takeE (Orch.take valid k) t t.ps.length 0 l).map listV)/\ug W.heap.size W w':=fun W hb=>by
   refine(hte W (hTW W hb) t E6 S _ (hTS W hb) (hSW W hb) t.ps.length E6.2.2.1 (Or.inr ⟨h,rfl⟩) bv l hl (hBW W hb)).mono ?_
   rintro e w' ⟨hr,Es⟩
   exact⟨GB hr,Es⟩
  have h30':=fun W (hb:ug w.heap.size w W)=>Ms (h30 W hb)
  simp only [D7,h] at h30' ⊢
  exact(ZT w _ _ _ _ _ _ pa _ pc bv _ h30').mono fun e w' he=>X4 he
theorem ZX(U:Jk valid Tabs):∀k,BO valid Tabs k:=by
 intro k
 induction k with
 | zero=>intro w _ t E6;exact absurd E6 (by simp [Vp])
 | succ k ih=>exact UU U k (QH U k ih)
end
def Wq(valid:ByteArray->Bool)(t:Ty)(l:List UInt8):Option (V×List UInt8):=
 match Orch.take valid 9 t (l.take 1000) with
 | none=>od
 | some (v,rest)=>lp (v,l.drop ((l.take 1000).length - rest.length))
def WL(w w':qq)(bv:tj)(l:List UInt8)(e:Ending):Option (V×List UInt8)->Prop
 | none=>e=.returned (.tuple #[vv 0 ⟨#[]⟩ (.slice od 0 0),.slice od 0 0,.bool vp])
 | some (v,rest)=>∃lv rv,e=.returned (.tuple #[AU v lv,rv,.bool s7])/\Er w' (fun b=>w.heap.size<=b/\b<w'.heap.size) v.l lv/\I7 bv l rv rest/\Pv w.heap.size w' v.l lv
theorem JS(X:qq)(g:Nat)(a b c:tj)(k:Nat)(hk:k≠g):(((X.setCell ⟨g,0,od⟩ a).setCell ⟨g,1,od⟩ b).setCell ⟨g,2,od⟩ c).heap[k]? = X.heap[k]?:=
 (cr _ ⟨g,2,od⟩ k _ hk).trans ((cr _ ⟨g,1,od⟩ k _ hk).trans (cr _ ⟨g,0,od⟩ k _ hk))
theorem JU(X:qq)(g:Nat)(a b c:tj):(((X.setCell ⟨g,0,od⟩ a).setCell ⟨g,1,od⟩ b).setCell ⟨g,2,od⟩ c).heap.size=X.heap.size:=by simp [World.setCell]
theorem VE(w:qq)(sg sh sz:Nat)(lo hi:Int)(tx:Bool)(fn:Nat)(pa:Option zu)(pn pc:Nat)(b off k m cap:Nat)(hm:(1000:Int)<k/\m=1000∨¬(1000:Int)<k/\m=k)(Ea:k<=cap)(H2:k<=9223372036854775807)(HC:Hid (∀W,ug w.heap.size w W->xi ly 186 #[Gl sg sh sz lo hi tx fn (.slice pa pn pc),.slice (lp ⟨b,off,od⟩) m cap] W fun e w'=>Mp e/\ug W.heap.size W w')) :
  xi ly 163 #[Gl sg sh sz lo hi tx fn (.slice pa pn pc),.slice (lp ⟨b,off,od⟩) k cap] w fun e w'=>e=.returned (.tuple #[vv 0 ⟨#[]⟩ (.slice od 0 0),.slice od 0 0,.bool vp])/\ug w.heap.size w w':=by
 have hmc:(m:Int)<=(cap:Int):=Ab
 refine Crk ?_;intro n0 n1
 have N1:=Bc n1
 clear n0 n1
 rcases hm with⟨hz,rfl⟩|⟨hz,rfl⟩
 all_goals
  go_enter func163,ntmps163
  go_wp2_with (first
   | (refine kj rfl 164 _ _ rfl (w.heap.size+1) #[.int .i64 0,.string ⟨#[]⟩,.slice od 0 0] rfl rfl 164 _ HH2.out Tryz.size164 rfl (Ly _ _ _ _ _) ?_)
   | (go_at_call 186;refine(HC.out _ (Ck _ _ _)).mono ?_;rintro e w1 ⟨⟨n,s,va,va',vm,c,m',c',rfl⟩,B9⟩;have Cs:Hid (ug w.heap.size w w1):=(Ck _ _ _).trans (B9.mono Ag);have HH:Hid (w1.heap[w.heap.size+1]? = lp (.cells #[.int .i64 0,.string ⟨#[]⟩,.slice od 0 0] 164)):=(B9.block _ (ltOf N1.out)).trans N1.out;have HH2:Hid ((w1.alloc (.cells #[.int .i64 n,.string s,.slice va vm c] 164)).heap[w.heap.size+1]? = lp (.cells #[.int .i64 0,.string ⟨#[]⟩,.slice od 0 0] 164)):=(q8 _ _ _ (ltOf HH.out)).trans HH.out;clear B9))
  refine Vfk ?_
  rintro X ⟨HQ,hbX⟩
  obtain⟨c0,c1,c2⟩:=Ld 0 1 2 HQ
  exact zg (v:=.tuple #[vv 0 ⟨#[]⟩ (.slice od 0 0),.slice od 0 0,.bool vp]) (by simp [results,p8,go_sem,c0,c1,c2]) rfl ⟨rfl,hbX⟩
theorem Aca(w:qq)(sg sh sz:Nat)(lo hi:Int)(tx:Bool)(fn:Nat)(pa:Option zu)(pn pc:Nat)(b off k m cap r:Nat)(hm:(1000:Int)<k/\m=1000∨¬(1000:Int)<k/\m=k)(Ea:k<=cap)(H2:k<=9223372036854775807)(hr:r<=m)(n:Int)(s:ByteArray)(pv:qq->Option zu->Nat->Nat->qq->Prop)(HC:Hid (∀W,ug w.heap.size w W->xi ly 186 #[Gl sg sh sz lo hi tx fn (.slice pa pn pc),.slice (lp ⟨b,off,od⟩) m cap] W fun e w'=>(∃va vm vc a' c',e=.returned (.tuple #[vv n s (.slice va vm vc),.slice a' r c',.bool s7])/\pv W va vm vc w')/\ug W.heap.size W w')) :
  xi ly 163 #[Gl sg sh sz lo hi tx fn (.slice pa pn pc),.slice (lp ⟨b,off,od⟩) k cap] w fun e w'=>(∃va vm vc W wb,e=.returned (.tuple #[vv n s (.slice va vm vc),if cap=m - r then .slice (lp ⟨b,off,od⟩) (k - (m - r)) 0 else .slice (lp ⟨b,off+(m - r),od⟩) (k - (m - r)) (cap - (m - r)),.bool s7])/\pv W va vm vc wb/\w.heap.size+2<=W.heap.size/\w'.heap.size=wb.heap.size+1/\∀b,b<wb.heap.size->b≠w.heap.size+1->w'.heap[b]? = wb.heap[b]?)/\ug w.heap.size w w':=by
 have hmc:(m:Int)<=(cap:Int):=Ab
 have hmk:m<=k:=Ab
 obtain⟨d,hd⟩:∃d,d=m - r:=⟨_,rfl⟩
 have hdz:(m:Int) - (r:Int)=(d:Int):=Ab
 have hdk:(d:Int)<=(k:Int):=Ab
 have hdk':d<=k:=Ab
 rw [←hd]
 refine Crk ?_;intro n0 n1
 have N1:=Bc n1
 clear n0 n1
 refine Xxn ?_;intro HSZ
 have HD:=Bc hd
 clear hd
 obtain⟨RV,hRV⟩:∃RV,RV=if cap=d then Value.slice (lp ⟨b,off,od⟩) (k - d) 0 else .slice (lp ⟨b,off+d,od⟩) (k - d) (cap - d):=⟨_,rfl⟩
 rw [←hRV]
 have HRV:=Bc hRV
 clear hRV
 rcases hm with⟨hz,rfl⟩|⟨hz,rfl⟩
 all_goals
  first
   | replace hdz:(1000:Int) - (r:Int)=(d:Int):=Ab
   | skip
  go_enter func163,ntmps163
  go_wp2_with (go_at_call 186;refine(HC.out _ (Ck _ _ _)).mono ?_;rintro e w1 ⟨⟨va,vm,vc,a',c',rfl,hpv⟩,B9⟩;have Cs:Hid (ug w.heap.size w w1):=(Ck _ _ _).trans (B9.mono Ag);have HH:Hid (w1.heap[w.heap.size+1]? = lp (.cells #[.int .i64 0,.string ⟨#[]⟩,.slice od 0 0] 164)):=(B9.block _ (ltOf N1.out)).trans N1.out;have HPV:=Bc hpv;clear hpv;clear B9)
  have q1:(w1.alloc (.cells #[.int .i64 n,.string s,.slice va vm vc] 164)).heap[w.heap.size+1]? = _:=(q8 _ _ _ (ltOf HH.out)).trans HH.out
  refine Ve (fun W=>ug w.heap.size w W/\W.heap[w.heap.size+1]? = lp (.cells #[.int .i64 0,.string ⟨#[]⟩,.slice od 0 0] 164)/\W.heap[w1.heap.size]? = lp (.cells #[.int .i64 n,.string s,.slice va vm vc] 164)/\W.heap.size=w1.heap.size+1/\∀b,b<w1.heap.size->W.heap[b]? = w1.heap[b]?) ⟨Cs.out.alloc Cs.out.size _,q1,heap_alloc_new _ _,Ae,fun b hb=>q8 _ _ _ hb⟩ ?_
  rintro W ⟨hbW,m1,m2,hsW,hkW⟩
  have Cu:=ltOf HH.out
  have HS1:=Bc (ltOf HH.out)
  have HBW:=Bc hbW
  have HSW:=Bc hsW
  have HKW:=Bc hkW
  generalize hG:w1.heap.size=G at *
  have HG:=Bc hG
  obtain⟨d0,d1,d2⟩:=Ld 0 1 2 m1
  have f0:=Ay (j:=0) m1
  have f1:=Ay (j:=1) m1
  have f2:=Ay (j:=2) m1
  obtain⟨g0,g1,g2⟩:=Ld 0 1 2 m2
  clear hbW hsW hkW m1 m2 q1 N1 HC hG
  by_cases hcs:cap=d
  all_goals first
   | (exfalso;omega)
   | go_region
 all_goals go_wp2
 all_goals refine zg (v:=.tuple #[vv n s (.slice va vm vc),RV,.bool s7]) ?_ rfl ⟨⟨va,vm,vc,_,w1,rfl,HPV.out,HSZ.out,?_,?_⟩,?_⟩
 all_goals try exact(Th HBW.out _ (dD _) _ _ _).drew
 all_goals try(rw [HRV.out,aQ hcs];simp [results,p8,go_sem,d0,d1,d2];done)
 all_goals try(rw [HRV.out,aO hcs];simp [results,p8,go_sem,d0,d1,d2];done)
 all_goals try(rw [HG.out];exact(JU _ _ _ _ _).trans HSW.out)
 all_goals try(rw [HG.out];exact fun k hk Cu=>(JS _ _ _ _ _ k Cu).trans (HKW.out k hk))
section
variable {valid:ByteArray->Bool} {Tabs:qq->Prop}
theorem Aad(U:Jk valid Tabs)(w:qq)(hT:Tabs w)(t:Ty)(E6:Vp 9 t)(S:Nat->Prop)(psv:tj)(hts:El w S t.ps psv)(hS:∀b,S b->b<w.heap.size)(bv:tj)(l:List UInt8)(hl:l.length<=9223372036854775807)(hbv:Gz w bv l) :
  xi ly 163 #[D7 t.l psv,bv] w fun e w'=>WL w w' bv l e (Wq valid t l)/\ug w.heap.size w w':=by
 obtain⟨pa,pc,rfl⟩:=hts.shape
 have hbv0:=hbv
 obtain⟨b,off,cap,rfl,Ea,Cg,hb⟩:=hbv
 have hm:(1000:Int)<(l.length:Nat)/\(l.take 1000).length=1000∨¬(1000:Int)<(l.length:Nat)/\(l.take 1000).length=l.length:=by rw [bL];omega
 have hl1:(l.take 1000).length<=1000:=by rw [bL];omega
 have hl2:(l.take 1000).length<=l.length:=by rw [bL];omega
 have hbf:Gz w (.slice (lp ⟨b,off,od⟩) (l.take 1000).length cap) (l.take 1000):=⟨b,off,cap,rfl,Ab,Cg,hb.take 1000⟩
 have hc:∀W,ug w.heap.size w W->xi ly 186 #[D7 t.l (.slice pa t.ps.length pc),.slice (lp ⟨b,off,od⟩) (l.take 1000).length cap] W fun e w'=>G8 W w' (.slice (lp ⟨b,off,od⟩) (l.take 1000).length cap) (l.take 1000) e (Orch.take valid 9 t (l.take 1000))/\ug W.heap.size W w':=fun W hbW=>
  ZX U 9 W (U.kept (U.size hT) hbW hT) t E6 S _ (hts.congr (fun _ h'=>h') (fun b hb=>hbW.block b (hS b hb))) (fun b hb=>aB (hS b hb) hbW.size) _ _ hl1 (hbf.below hbW (aA _))
 unfold Wq
 cases hq:Orch.take valid 9 t (l.take 1000) with
 | none=>
  rw [hq] at hc
  exact VE w _ _ _ _ _ _ _ pa _ pc b off _ _ cap hm Ea hl hc
 | some vr=>
  obtain⟨v,rest⟩:=vr
  have hrl:=take_len valid hq
  rw [hq] at hc
  refine(Aca w _ _ _ _ _ _ _ pa _ pc b off _ _ cap rest.length hm Ea hl Ab v.n v.s (fun W va m c w'=>Er w' (fun b=>W.heap.size<=b/\b<w'.heap.size) v.l (.slice va m c)/\Pv W.heap.size w' v.l (.slice va m c)) (fun W hbW=>(hc W hbW).mono ?_)).mono ?_
  ·rintro e w' ⟨⟨lv,rv,rfl,hv,ht,ho⟩,Es⟩
   obtain⟨va,vc,rfl⟩:=hv.shape
   obtain⟨b',off',cap',rfl,_⟩:=ht w hbf
   exact⟨⟨va,_,vc,_,cap',rfl,hv,ho⟩,Es⟩
  ·rintro e w' ⟨⟨va,m,c,W,wb,rfl,⟨hv,ho⟩,hs,Di,hk⟩,Es⟩
   exact⟨⟨_,_,rfl,hv.congr (fun b hb=>⟨Ab,Ab⟩) (fun b hb=>hk b hb.2 Ab),I7.cut b off cap l _ Ab,ho.keep Ab Ab (fun b hb Cg=>hk b Cg Ab)⟩,Es⟩
end
def QN(w w':qq)(e:Ending):Option V->Prop
 | none=>e=.returned (.tuple #[vv 0 ⟨#[]⟩ (.slice od 0 0),.bool vp])
 | some v=>∃lv,e=.returned (.tuple #[AU v lv,.bool s7])/\Pv w.heap.size w' v.l lv
def AQ(valid:ByteArray->Bool)(t:Ty)(l:List UInt8):Option V:=
 if 1000<l.length then od else match Orch.take valid 9 t l with
  | some (v,[])=>lp v
  | _=>od
theorem EK(valid:ByteArray->Bool){t:Ty}{l:List UInt8}:AQ valid t l=match Wq valid t l with
  | some (v,[])=>lp v
  | _=>od:=by
 unfold AQ Wq
 by_cases hl:1000<l.length
 ·rw [aQ hl]
  cases hq:Orch.take valid 9 t (l.take 1000) with
  | none=>rfl
  | some vr=>
   obtain⟨v,rest⟩:=vr
   have:(l.drop ((l.take 1000).length - rest.length)).length≠0:=by rw [cT,bL];omega
   simp only
   cases hd:l.drop ((l.take 1000).length - rest.length) with
   | nil=>rw [hd] at this;simp at this
   | cons y ys=>rfl
 ·rw [aO hl,bO Ab]
  cases hq:Orch.take valid 9 t l with
  | none=>rfl
  | some vr=>
   obtain⟨v,rest⟩:=vr
   have hrl:=take_len valid hq
   cases rest with
   | nil=>simp
   | cons y ys=>
    have:(l.drop (l.length - (y :: ys).length)).length≠0:=by rw [cT];simp only [aK] at hrl ⊢;omega
    simp only
    cases hd:l.drop (l.length - (y :: ys).length) with
    | nil=>rw [hd] at this;simp at this
    | cons y' ys'=>rfl
theorem UZ(w:qq)(sg sh sz:Nat)(lo hi:Int)(tx:Bool)(fn:Nat)(pa:Option zu)(pn pc:Nat)(bv:tj)(HC:Hid (∀W,ug w.heap.size w W->xi ly 163 #[Gl sg sh sz lo hi tx fn (.slice pa pn pc),bv] W fun e w'=>e=.returned (.tuple #[vv 0 ⟨#[]⟩ (.slice od 0 0),.slice od 0 0,.bool vp])/\ug W.heap.size W w')) :
  xi ly 122 #[Gl sg sh sz lo hi tx fn (.slice pa pn pc),bv] w fun e w'=>QN w w' e od/\ug w.heap.size w w':=by
 refine Crk ?_;intro n0 n1
 have N1:=Bc n1
 clear n0 n1
 go_enter ey,qo
 go_wp2_with (first
  | (refine kj rfl 164 _ _ rfl (w.heap.size+1) #[.int .i64 0,.string ⟨#[]⟩,.slice od 0 0] rfl rfl 164 _ HH2.out Tryz.size164 rfl (Ly _ _ _ _ _) ?_)
  | (go_at_call 163;refine(HC.out _ (Ck _ _ _)).mono ?_;rintro e w1 ⟨rfl,B9⟩;have Cs:Hid (ug w.heap.size w w1):=(Ck _ _ _).trans (B9.mono Ag);have HH:Hid (w1.heap[w.heap.size+1]? = lp (.cells #[.int .i64 0,.string ⟨#[]⟩,.slice od 0 0] 164)):=(B9.block _ (ltOf N1.out)).trans N1.out;have HH2:Hid ((w1.alloc (.cells #[.int .i64 0,.string ⟨#[]⟩,.slice od 0 0] 164)).heap[w.heap.size+1]? = lp (.cells #[.int .i64 0,.string ⟨#[]⟩,.slice od 0 0] 164)):=(q8 _ _ _ (ltOf HH.out)).trans HH.out;clear B9))
 exact Y1a
theorem VA(w:qq)(sg sh sz:Nat)(lo hi:Int)(tx:Bool)(fn:Nat)(pa:Option zu)(pn pc:Nat)(bv:tj)(HC:Hid (∀W,ug w.heap.size w W->xi ly 163 #[Gl sg sh sz lo hi tx fn (.slice pa pn pc),bv] W fun e w'=>(∃n s va m c a' m' c',e=.returned (.tuple #[vv n s (.slice va m c),.slice a' m' c',.bool s7])/\0<m')/\ug W.heap.size W w')) :
  xi ly 122 #[Gl sg sh sz lo hi tx fn (.slice pa pn pc),bv] w fun e w'=>QN w w' e od/\ug w.heap.size w w':=by
 refine Crk ?_;intro n0 n1
 have N1:=Bc n1
 clear n0 n1
 go_enter ey,qo
 go_wp2_with (first
  | (refine kj rfl 164 _ _ rfl (w.heap.size+1) #[.int .i64 0,.string ⟨#[]⟩,.slice od 0 0] rfl rfl 164 _ HH2.out Tryz.size164 rfl (Ly _ _ _ _ _) ?_)
  | (go_at_call 163;refine(HC.out _ (Ck _ _ _)).mono ?_;rintro e w1 ⟨⟨n,s,va,m,c,a',m',c',rfl,hm⟩,B9⟩;have Cs:Hid (ug w.heap.size w w1):=(Ck _ _ _).trans (B9.mono Ag);have HH:Hid (w1.heap[w.heap.size+1]? = lp (.cells #[.int .i64 0,.string ⟨#[]⟩,.slice od 0 0] 164)):=(B9.block _ (ltOf N1.out)).trans N1.out;have HH2:Hid ((w1.alloc (.cells #[.int .i64 n,.string s,.slice va m c] 164)).heap[w.heap.size+1]? = lp (.cells #[.int .i64 0,.string ⟨#[]⟩,.slice od 0 0] 164)):=(q8 _ _ _ (ltOf HH.out)).trans HH.out;have hmz:(0:Int)<(m':Int):=Ab;clear B9))
 exact Y1a
theorem Ab9(w:qq)(sg sh sz:Nat)(lo hi:Int)(tx:Bool)(fn:Nat)(pa:Option zu)(pn pc:Nat)(bv:tj)(n:Int)(s:ByteArray)(pv:qq->Option zu->Nat->Nat->qq->Prop)(HC:Hid (∀W,ug w.heap.size w W->xi ly 163 #[Gl sg sh sz lo hi tx fn (.slice pa pn pc),bv] W fun e w'=>(∃va m c a' c',e=.returned (.tuple #[vv n s (.slice va m c),.slice a' 0 c',.bool s7])/\pv W va m c w')/\ug W.heap.size W w')) :
  xi ly 122 #[Gl sg sh sz lo hi tx fn (.slice pa pn pc),bv] w fun e w'=>(∃va m c W wb,e=.returned (.tuple #[vv n s (.slice va m c),.bool s7])/\pv W va m c wb/\w.heap.size+2<=W.heap.size/\w'.heap.size=wb.heap.size+1/\∀b,b<wb.heap.size->b≠w.heap.size+1->w'.heap[b]? = wb.heap[b]?)/\ug w.heap.size w w':=by
 refine Crk ?_;intro n0 n1
 have N1:=Bc n1
 clear n0 n1
 refine Xxn ?_;intro HSZ
 go_enter ey,qo
 go_wp2_with (first
  | (refine kj rfl 164 _ _ rfl (w.heap.size+1) #[.int .i64 n,.string s,.slice va m c] rfl rfl 164 _ HH2.out Tryz.size164 rfl (Ly _ _ _ _ _) ?_)
  | (go_at_call 163;refine(HC.out _ (Ck _ _ _)).mono ?_;rintro e w1 ⟨⟨va,m,c,a',c',rfl,hpv⟩,B9⟩;have Cs:Hid (ug w.heap.size w w1):=(Ck _ _ _).trans (B9.mono Ag);have HH:Hid (w1.heap[w.heap.size+1]? = lp (.cells #[.int .i64 0,.string ⟨#[]⟩,.slice od 0 0] 164)):=(B9.block _ (ltOf N1.out)).trans N1.out;have HH2:Hid ((w1.alloc (.cells #[.int .i64 n,.string s,.slice va m c] 164)).heap[w.heap.size+1]? = lp (.cells #[.int .i64 0,.string ⟨#[]⟩,.slice od 0 0] 164)):=(q8 _ _ _ (ltOf HH.out)).trans HH.out;have HPV:=Bc hpv;clear hpv;clear B9))
 refine Gt (fun X=>X.heap[w.heap.size+1]? = lp (.cells #[.int .i64 n,.string s,.slice va m c] 164)/\ug w.heap.size w X/\X.heap.size=w1.heap.size+1/\∀b,b<w1.heap.size->b≠w.heap.size+1->X.heap[b]? = w1.heap[b]?) ⟨setRow_heap _ _ _ _ _ _ HH2.out,Ci (Cs.out.alloc Cs.out.size _) (dD _) _,Ae,fun b Cg hb=>(setRow_other _ _ _ _ hb).trans (q8 _ _ _ Cg)⟩ ?_
 rintro X ⟨HQ,hbX,hsX,hkX⟩
 refine Rmi ?_;intro c0 c1 c2 HBX HSX HKX
 clear hbX hsX hkX HQ
 exact zg (v:=.tuple #[vv n s (.slice va m c),.bool s7]) (by simp [results,results122,go_sem,c0,c1,c2]) rfl ⟨⟨va,m,c,_,w1,rfl,HPV.out,HSZ.out,HSX.out,HKX.out⟩,HBX.out⟩
section
variable {valid:ByteArray->Bool} {Tabs:qq->Prop}
theorem Aac(U:Jk valid Tabs)(w:qq)(hT:Tabs w)(t:Ty)(E6:Vp 9 t)(S:Nat->Prop)(psv:tj)(hts:El w S t.ps psv)(hS:∀b,S b->b<w.heap.size)(bv:tj)(l:List UInt8)(hl:l.length<=9223372036854775807)(hbv:Gz w bv l) :
  xi ly 122 #[D7 t.l psv,bv] w fun e w'=>QN w w' e (AQ valid t l)/\ug w.heap.size w w':=by
 obtain⟨pa,pc,rfl⟩:=hts.shape
 have hc:∀W,ug w.heap.size w W->xi ly 163 #[D7 t.l (.slice pa t.ps.length pc),bv] W fun e w'=>WL W w' bv l e (Wq valid t l)/\ug W.heap.size W w':=fun W hbW=>
  Aad U W (U.kept (U.size hT) hbW hT) t E6 S _ (hts.congr (fun _ h'=>h') (fun b hb=>hbW.block b (hS b hb))) (fun b hb=>aB (hS b hb) hbW.size) _ l hl (hbv.below hbW (aA _))
 rw [EK]
 cases hq:Wq valid t l with
 | none=>
  rw [hq] at hc
  exact UZ w _ _ _ _ _ _ _ pa _ pc bv hc
 | some vr=>
  obtain⟨v,rest⟩:=vr
  rw [hq] at hc
  cases rest with
  | cons y ys=>
   refine VA w _ _ _ _ _ _ _ pa _ pc bv (fun W hbW=>(hc W hbW).mono ?_)
   rintro e w' ⟨⟨lv,rv,rfl,hv,ht,_⟩,Es⟩
   obtain⟨va,vc,rfl⟩:=hv.shape
   obtain⟨b',off',cap',rfl,_⟩:=ht w hbv
   exact⟨⟨_,_,_,_,_,_,_,_,rfl,Ae⟩,Es⟩
  | nil=>
   refine(Ab9 w _ _ _ _ _ _ _ pa _ pc bv v.n v.s (fun W va m c w'=>Pv W.heap.size w' v.l (.slice va m c)) (fun W hbW=>(hc W hbW).mono ?_)).mono ?_
   ·rintro e w' ⟨⟨lv,rv,rfl,hv,ht,ho⟩,Es⟩
    obtain⟨va,vc,rfl⟩:=hv.shape
    obtain⟨b',off',cap',rfl,_⟩:=ht w hbv
    exact⟨⟨va,_,vc,_,cap',rfl,ho⟩,Es⟩
   ·rintro e w' ⟨⟨va,m,c,W,wb,rfl,hv,hs,Di,hk⟩,Es⟩
    exact⟨⟨_,rfl,hv.keep Ab Ab (fun b hb Cg=>hk b Cg Ab)⟩,Es⟩
end
end Go.Proofs.YtjoblhlkfmeckaaGreatDoor
