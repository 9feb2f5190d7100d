import Derived.Test.YtjoblhlkfmeckaaGreatDoorQ11
import Derived.Laws.OwnMore
import Derived.Deep.RegionHeld3
import Derived.Maps.Keyed
import Derived.Maps.OwnSet
import Derived.StringKeys
import Derived.Test.YtjoblhlkfmeckaaGreatDoorProg
import Derived.Shelf.Strings.Split
import Derived.Shelf.Sort.Plain
import Derived.Laws.CopyRow
import Derived.Deep.WholeRow
import Derived.Maps.Range
set_option maxHeartbeats 4000000
set_option maxRecDepth 8000
set_option linter.unusedVariables false
set_option linter.unusedSimpArgs false
open Option renaming some → lp,none → od
open Go.Proofs.Tryz renaming prog → ly,underlying35 → dn,underlying113 → vu
open Go renaming World → qq,Calls → xi,Value → tj,heap_alloc_new → tw,run_underlying → mw,madeCells → yz,bodyPost_ret → zg,keyOf → wh,TypeId → s8
open Bool renaming false → vp,true → s7,true_and → pf
open Go.RowKit renaming Below → ug
open Go.MapKept renaming run_getObj_map → oh,run_setObj_map → vy,Stamped → wj
open Go.Value renaming int → rl,string → pt,pointer → om,slice → cf,bool → gf,tuple → fh
open Go.Result renaming andThen → qd
open Go.Instr renaming mapUpdate → yr,lookup → ry
open Prod renaming fst → xo
open Go.World renaming cell?_alloc_lt → je
open List renaming map_set → oo
open ByteArray renaming mk → pe
open Go.IntKind renaming wrap_i64 → yq,i64 → tz,u8 → dc
open Go.Sort renaming putCells → ui
open Go.Builtin renaming delete_ → al
open Go.Obj renaming cells → ye
open Go.Ending renaming returned → pd
open Go.Proofs.Tryz
theorem H41{p q:Prop}(k:q)(h:Hd q->p:=by
 intro kz
 have hjA:j=A.length:=by
  have hg:(es.toList.map kv)[j]? = some (kv e0):=by rw [bX,h2];rfl
  rw [he] at hg
  have hn:=h'.nodup
  have H0:((A++(key,v) :: C).map Prod.fst)[j]? = some key:=by rw [bX,hg];simp [kv,h3]
  have H2:((A++(key,v) :: C).map Prod.fst)[A.length]? = some key:=Ae
  have hj1:=(aW.1 H0).1
  exact(List.getElem?_inj hj1 hn).1 (H0.trans H2.symm)
 revert hjA
 exact kz.1):p:=h ⟨k⟩
theorem Lfx{p:Prop}(h:p:=by
 rintro e w' ⟨⟨psv,rfl,hts⟩,Es⟩
 obtain⟨pa,pc,rfl⟩:=hts.shape
 exact⟨⟨pa,_,pc,rfl,hts.congr (fun b hb=>hb.2) (fun _ _=>rfl)⟩,Es⟩):p:=h
theorem Ki2{p:Prop}(h:p:=by
 rw [hn]
 go_enter Tryz.func198,Tryz.ntmps198
 go_wp2
 go_ret
 exact⟨rfl,rfl⟩):p:=h
theorem X7i{p:Prop}(h:p:=by
 go_enter Tryz.func180,Tryz.ntmps180
 go_wp2
 go_ret
 exact⟨rfl,Below.refl _ _⟩):p:=h
theorem L7b{p:Prop}(h:p:=by
 go_enter Tryz.func236,Tryz.ntmps236
 go_wp2
 go_ret
 exact⟨Fg (by first|rfl|exact h2),rfl⟩):p:=h
theorem Wqn{p:Prop}(h:p:=by
 go_round
 case rel=>exact⟨k+1,Ab,by go_num,Dk⟩
 case measure=>first|(simp [intOf];done)|(simp [intOf];omega)):p:=h
theorem Tuu{p q:Prop}(k:q)(h:Hd q->p:=by
 intro kz
 have hset1:(setBlock w1 r (.mapIter (some b) since (seen.push e.born) clock)).heap[r]? = some (.mapIter (some b) since (seen.push e.born) clock):=aS (aF.1 F7).1
 have hset2:∀i,i≠r->(setBlock w1 r (.mapIter (some b) since (seen.push e.born) clock)).heap[i]? = w1.heap[i]?:=fun i hi=>aD (fun e1=>hi e1.symm)
 have Es:=(hset2 b (fun e1=>Cu e1.symm)).trans B9
 revert hset1 hset2 Es
 exact kz.1):p:=h ⟨k⟩
theorem Ggv{p:Prop}(h:p:=by
 obtain⟨es,clock,since,seen,c0,hb,_,_,hr,_⟩:=h.ex
 intro e1
 subst e1
 rw [hb] at hr
 cases hr):p:=h
theorem Sga{p:Prop}(h:p:=by
 rcases hal with rfl|rfl <;> exact⟨rfl,rfl,rfl,by simp [setBlock],fun i _ hi=>hset2 i (fun e1=>hi (by rw [e1]))⟩):p:=h
theorem Azp{p:Prop}(h:p:=by
 obtain⟨es,clock,since,seen,c0,h1,h2,h3,h4,h5⟩:=h.ex
 exact⟨es,clock,since,seen,c0,by rw [hb];exact h1,h2,h3,by rw [hr];exact h4,h5⟩):p:=h
theorem Wt0{p:Prop}(h:p:=by
 go_wp2_with (go_at_call 105;refine HP.out.mono ?_;rintro e w1 ⟨⟨ov,rfl,ho⟩,hb⟩;have HO:=Bc ho;have HB:=Bc hb;clear ho hb)
 go_ret
 exact⟨⟨_,rfl,HO.out⟩,HB.out⟩):p:=h
namespace Go.Proofs.YtjoblhlkfmeckaaGreatDoor
open Go.RowKit
theorem Lr{w:qq}{a:Addr}{x:tj}(h:w.cell? a=lp x):a.block<w.heap.size:=by
 unfold World.cell? at h
 cases hb:w.heap[a.block]? with
 | none=>rw [hb] at h;cases h
 | some o=>exact(aF.1 hb).1
theorem Y2{w w':qq}{B off:Nat}{b:List UInt8}(h:Bytes w B off b)(hb:ug w.heap.size w w'):Bytes w' B off b:=fun j hj=>by
 have h1:=h j hj
 rw [World.cell?_of_block (w:=w) (hb.block B (Lr h1))]
 exact h1
set_option maxRecDepth 10000 in
theorem Zs(w:qq)(g c:Nat)(bs:List UInt8)(hb:Bytes w g 0 bs)(hg:g<w.heap.size)(hl:bs.length<=1000) :
  xi ly 157 #[cf (lp ⟨g,0,od⟩) bs.length c] w fun e w'=>∃v',e=pd (fh #[v',gf s7])/\w'.ownsRow w.heap.size 5 1 v' (Orch.be bs.length 4++bs).length (A0 (Orch.be bs.length 4++bs))/\ug w.heap.size w w':=by
 have HB:=Bc hb
 clear hb
 go_enter func157,ntmps157
 have hz:¬(1000:Int)<(bs.length:Int):=Ab
 obtain⟨i0,hi0,hz0,hz1,hz2⟩:=info_parts Tryz.info5
 have hmk:=run_make (P:=ly) w 35 5 i0 _ dn hi0 hz0 .i64 .i64 (0:Int) (4+(bs.length:Int)) Ab Ab (by rw [hz2];omega) Ab
 go_wp2_with fail
 clear hmk
 have hO0:(w.alloc (ye (yz #[rl dc 0] (4+bs.length)) 5)).ownsRow w.heap.size 5 1 (cf (lp ⟨w.heap.size,0,od⟩) 0 (4+bs.length)) ([]:List UInt8).length (A0 []):=
  ⟨rfl,.inr ⟨w.heap.size,4+bs.length,_,rfl,aA _,tw w _,cC _,by unfold maxLen;omega,by simp [yz],by simp [A0]⟩⟩
 have hA:=Sm _ w.heap.size _ (bs.length:Int) 4 [] Ab hO0 Ae Ae
 have HA:=Bc hA
 have HW0:=Bc (Bh w (ye (yz #[rl dc 0] (4+bs.length)) 5))
 clear hO0 hA
 refine HA.out.mono ?_
 rintro e w1 ⟨v1,rfl,Db,hout⟩
 have hbel:ug w.heap.size w w1:=HW0.out.trans (hout.low (base:=w.heap.size) Ae (fun g hg=>by simp [Value.ownBlock] at hg;omega))
 have hlen4:([]++Orch.be (bs.length:Int) 4).length=4:=by rw [aP,Orch.be_length]
 rw [hlen4,aP] at Db
 obtain⟨qa,qc,hqv⟩:∃a c,v1=cf a 4 c:=by
  rcases Db.2 with⟨e,h⟩|⟨g,cap,cur,e,_⟩
  ·omega
  ·exact⟨_,_,e⟩
 subst hqv
 have HO:=Bc Db
 have HW:=Bc hbel
 have hby1:=Y2 HB.out hbel
 have Cs:=Bc hby1
 have hs1:=hbel.size
 clear Db hbel hby1 HA HW0 hout hlen4
 go_wp2_with (at_builtin;refine wpList_append_own _ rfl _ _ 35 rfl w.heap.size 5 i0 (rl dc 0) 1 1 dn hi0 hz0 hz1 hz2 rfl Ad _ _ _ rfl HO.out ⟨g,0,od⟩ bs.length c (A0 bs) rfl ?hl ?hn ?h1 ?c3 ?c4 ?c5 ?_)
 case hl=>simp [A0]
 case hn=>
  intro j u hj
  have hj':j<bs.length:=by have:=(aW.1 hj).1;simpa [A0] using this
  have h1:=Cs.out j hj'
  rw [aM] at h1
  have h2:u=rl dc bs[j].toNat:=by simp [A0,hj'] at hj;exact hj.symm
  rw [h2,←h1]
  cases j <;> simp [Addr.add]
 case h1=>intro u hu;simp [A0] at hu;obtain⟨x,_,rfl⟩:=hu;rfl
 case c3=>unfold maxLen;omega
 case c4=>omega
 case c5=>omega
 intro v' w2 Db hgrow _
 have hlen:(Orch.be bs.length 4++bs).length=4+bs.length:=by rw [aH,Orch.be_length]
 have hcat:A0 (Orch.be bs.length 4++bs)=A0 (Orch.be bs.length 4)++A0 bs:=by simp [A0]
 have HO2:Hid (w2.ownsRow w.heap.size 5 1 v' (Orch.be bs.length 4++bs).length (A0 (Orch.be bs.length 4++bs))):=by show World.ownsRow _ _ _ _ _ _ _;rw [hlen,hcat];exact Db
 have Fh:Hid (ug w.heap.size w w2):=HW.out.grown hgrow hs1 (fun j hj=>(HO.out.lt j hj).1)
 clear Db hgrow hlen hcat
 go_wp2
 exact zg (v:=fh #[v',gf s7]) (by simp [results,results157,go_sem]) rfl ⟨v',rfl,HO2.out,Fh.out⟩
theorem TO(w:qq)(R o:Nat)(pa:Option Addr)(pn pc:Nat)(hc:w.cell? ⟨R,o,od⟩=lp (cf pa pn pc))(h:pn<4) :
  xi ly 88 #[om (lp ⟨R,o,od⟩)] w fun e w'=>e=pd (rl .u64 0)/\w'=w:=by
 have h4:(pn:Int)<4:=Ab
 go_enter func88,ntmps88
 go_wp2
 go_ret
 exact⟨rfl,rfl⟩
theorem Uh(w:qq)(R o g off pn pc:Nat)(hc:w.cell? ⟨R,o,od⟩=lp (cf (lp ⟨g,off,od⟩) pn pc))(h:4<=pn)(hpc:pn<=pc)(l:List UInt8)(hl:l.length=4)(hb:Bytes w g off l) :
  xi ly 88 #[om (lp ⟨R,o,od⟩)] w fun e w'=>e=pd (rl .u64 (Orch.uns l))/\w'=w:=by
 have h4:¬((pn:Int)<4):=Ab
 have h5:(4:Int)<=(pc:Int):=Ab
 have HU:=Bc (Ha w g off 4 pc l hl Ab hb)
 clear hb hl
 go_enter func88,ntmps88
 go_wp2_with (go_at_call 140;refine HU.out.mono ?_;rintro e w1 ⟨rfl,rfl⟩)
 go_ret
 exact⟨rfl,rfl⟩
theorem Vn(w:qq)(R o:Nat)(pa:Option Addr)(pn pc:Nat)(hc:w.cell? ⟨R,o,od⟩=lp (cf pa pn pc))(h:pn<4) :
  xi ly 87 #[om (lp ⟨R,o,od⟩)] w fun e w'=>e=pd (rl tz (4 - pn))/\w'=w:=by
 have h4:(pn:Int)<4:=Ab
 go_enter func87,ntmps87
 go_wp2
 go_ret
 exact⟨rfl,rfl⟩
theorem Zw(w:qq)(R o g off pn pc:Nat)(hc:w.cell? ⟨R,o,od⟩=lp (cf (lp ⟨g,off,od⟩) pn pc))(h:4<=pn)(hpc:pn<=pc)(hp1:pn<=5000)(l:List UInt8)(hl:l.length=4)(hb:Bytes w g off l) :
  xi ly 87 #[om (lp ⟨R,o,od⟩)] w fun e w'=>e=pd (rl tz (4+Orch.uns l - pn))/\ug w.heap.size w w':=by
 have h4:¬((pn:Int)<4):=Ab
 have Cg:(Orch.uns l:Int)<4294967296:=by
  have:=Orch.uns_lt l
  rw [hl] at this
  omega
 have HU:Hid (xi ly 88 #[om (lp ⟨R,o,od⟩)] w.drew fun e w'=>e=pd (rl .u64 (Orch.uns l))/\w'=w.drew):=Uh w.drew R o g off pn pc hc h hpc l hl hb
 clear hb hl
 generalize Orch.uns l=U at *
 go_enter func87,ntmps87
 go_wp2
 go_region_held3 (fun w'=>w'.cell? ⟨R,o,od⟩=lp (cf (lp ⟨g,off,od⟩) pn pc)) (first|(go_keep;done)|assumption) ((go_at_call 88;refine HU.out.mono ?_;rintro e w1 ⟨rfl,rfl⟩))
 have hw:∀x:Int,-9223372036854775808<=x->x<=9223372036854775807->IntKind.i64.wrap x=x:=fun x h1 h2=>by rw [yq];omega
 go_wp2
 go_ret
 exact⟨Mt (by rw [hw U Ab Ab,hw (4+U) Ab Ab,hw _ Ab Ab]),(Below.refl _ _).drew⟩
open Go.Maps
open Go.ChangeMaps (setBlock map_eraseIdx modify_eq_set)
def kv(e:MapEntry):tj×tj:=(e.key,e.val)
structure Bm(P:Program)(k:s8)(w:qq)(b:Nat)(m:List (tj×tj)):Prop where
 ex:∃es clock,w.heap[b]? = lp (.map es clock)/\wj es clock/\es.toList.map kv=m
 keys:∀p∈m,∃l,wh P k p.1=lp l
section
variable {P:Program} {k t e:s8} {w:qq} {b:Nat} {m:List (tj×tj)}
theorem Bm.nodup(h:Bm P k w b m):(m.map xo).Nodup:=by
 obtain⟨es,clock,_,hs,rfl⟩:=h.ex
 rw [List.map_map]
 exact hs.2.2
theorem Bm.one(h:Bm P k w b m){key u v:tj}(hu:(key,u)∈m)(hv:(key,v)∈m):u=v:=by
 have hn:=h.nodup
 clear h
 induction m with
 | nil=>cases hu
 | cons p r ih=>
  rw [bY,List.nodup_cons] at hn
  rcases bI.1 hu with e1|hu2
  ·subst e1
   rcases bI.1 hv with hv2|hv2
   ·injection hv2 with _ h;exact h.symm
   ·exact absurd (bE.2 ⟨(key,v),hv2,rfl⟩:key∈r.map xo) hn.1
  ·rcases bI.1 hv with e1|hv2
   ·subst e1
    exact absurd (bE.2 ⟨(key,u),hu2,rfl⟩:key∈r.map xo) hn.1
   ·exact ih hu2 hv2 hn.2
theorem Bm.of_block{w':qq}(h:Bm P k w b m)(hb:w'.heap[b]? = w.heap[b]?):Bm P k w' b m:=by
 obtain⟨es,clock,h1,h2,h3⟩:=h.ex
 exact⟨⟨es,clock,by rw [hb];exact h1,h2,h3⟩,h.keys⟩
theorem Bm.lt(h:Bm P k w b m):b<w.heap.size:=by
 obtain⟨es,clock,h1,_⟩:=h.ex
 exact(aF.1 h1).1
theorem Bm.made(w:qq):Bm P k (w.alloc (.map #[] 0)) w.heap.size []:=by
 refine⟨⟨#[],0,tw w _,⟨?_,?_,?_⟩,rfl⟩,fun p hp=>by cases hp⟩ <;> simp
theorem Re(o:Obj):w.grownBy (setBlock w b o) (lp b):=
 ⟨rfl,rfl,rfl,by simp [setBlock],fun i hi Cu=>by
  show(w.heap.setIfInBounds b o)[i]? = _
  rw [aD (fun e=>Cu (by rw [e]))]⟩
theorem V7(K:Keyed P k){key:tj}{kl:Lit}(hkey:wh P k key=lp kl){es:Array MapEntry}(hk:∀p∈es.toList.map kv,∃l,wh P k p.1=lp l)(hno:∀p∈es.toList.map kv,p.1≠key):(Instr.findKey k key es.toList).run P w=.ok od w:=by
 rcases K.find w hkey es.toList (fun x hx=>hk (kv x) (bE.2 ⟨x,hx,rfl⟩)) with⟨h1,_⟩|⟨j,e0,_,h2,h3⟩
 ·exact h1
 ·exact absurd h3 (hno (kv e0) (bE.2 ⟨e0,cD h2,rfl⟩))
theorem Qz(K:Keyed P k){key v:tj}{kl:Lit}(hkey:wh P k key=lp kl){es:Array MapEntry}(hk:∀p∈es.toList.map kv,∃l,wh P k p.1=lp l)(hin:(key,v)∈es.toList.map kv):∃j e0,(Instr.findKey k key es.toList).run P w=.ok (lp (j,e0.val)) w/\es.toList[j]? = lp e0/\e0.key=key:=by
 rcases K.find w hkey es.toList (fun x hx=>hk (kv x) (bE.2 ⟨x,hx,rfl⟩)) with⟨h1,h2⟩|⟨j,e0,h1,h2,h3⟩
 ·obtain⟨x,hx,e⟩:=bE.1 hin
  exact absurd (by have:=aG xo e;exact this) (h2 x hx)
 ·exact⟨j,e0,h1,h2,h3⟩
theorem Bm.look_none(c:Bool)(h:Bm P k w b m)(K:Keyed P k)(ht:P.underlying t=lp (.map k e)){z:tj}(hz:(zeroValue e).run P w=.ok z w){key:tj}{kl:Lit}(hkey:wh P k key=lp kl)(hno:∀p∈m,p.1≠key) :
  (ry t (.map (lp b)) key c).run P w=.ok (if c then fh #[z,gf vp] else z) w:=by
 obtain⟨es,clock,hb,hs,rfl⟩:=h.ex
 have h1:=V7 (w:=w) K hkey h.keys hno
 simp [ry,mw ht,oh hb,K.check w _ hkey,h1,hz,qd]
theorem Bm.look_some(c:Bool)(h:Bm P k w b m)(K:Keyed P k)(ht:P.underlying t=lp (.map k e)){key v:tj}{kl:Lit}(hkey:wh P k key=lp kl)(hin:(key,v)∈m) :
  (ry t (.map (lp b)) key c).run P w=.ok (if c then fh #[v,gf s7] else v) w:=by
 have h':=h
 obtain⟨es,clock,hb,hs,rfl⟩:=h.ex
 obtain⟨j,e0,h1,h2,h3⟩:=Qz (w:=w) K hkey h.keys hin
 have hv:e0.val=v:=h'.one (key:=key) (bE.2 ⟨e0,cD h2,by simp [kv,h3]⟩) hin
 simp [ry,mw ht,oh hb,K.check w _ hkey,h1,hv,qd]
theorem Bm.put_new(h:Bm P k w b m)(K:Keyed P k)(ht:P.underlying t=lp (.map k e)){key val:tj}{kl:Lit}(hkey:wh P k key=lp kl)(hno:∀p∈m,p.1≠key) :
  ∃w',(yr t (.map (lp b)) key val).run P w=.ok () w'/\Bm P k w' b (m ++ [(key,val)])/\w.grownBy w' (lp b):=by
 obtain⟨es,clock,hb,hs,rfl⟩:=h.ex
 have h1:=V7 (w:=w) K hkey h.keys hno
 refine⟨setBlock w b (.map (es.push ⟨key,val,clock⟩) (clock+1)),?_,⟨⟨es.push ⟨key,val,clock⟩,clock+1,?_,MapKept.stamped_push hs (fun x hx=>hno (kv x) (bE.2 ⟨x,hx,rfl⟩)),?_⟩,?_⟩,Re _⟩
 ·simp [yr,mw ht,oh hb,K.check w vp hkey,h1,vy _ hb,qd,setBlock]
 ·exact aS h.lt
 ·simp [kv]
 ·intro p hp
  rcases cH.1 hp with hp|hp
  ·exact h.keys p hp
  ·rw [dH] at hp
   subst hp
   exact⟨_,hkey⟩
theorem Bm.put_old(h:Bm P k w b m)(K:Keyed P k)(ht:P.underlying t=lp (.map k e)){key val v:tj}{kl:Lit}(hkey:wh P k key=lp kl){A C:List (tj×tj)}(hm:m=A++(key,v) :: C) :
  ∃w',(yr t (.map (lp b)) key val).run P w=.ok () w'/\Bm P k w' b (A++(key,val) :: C)/\w.grownBy w' (lp b):=by
 have h':=h
 obtain⟨es,clock,hb,hs,he⟩:=h.ex
 subst hm
 have hin:(key,v)∈es.toList.map kv:=by rw [he];simp
 obtain⟨j,e0,h1,h2,h3⟩:=Qz (w:=w) K hkey (by rw [he];exact h.keys) hin
 have hjl:j<es.toList.length:=(aW.1 h2).1
 have hj:j<es.size:=by simpa using hjl
 have hlist:(es.modify j (fun e'=>{ e' with key:=key,val:=val })).toList=es.toList.set j { e0 with key:=key,val:=val }:=by rw [Array.toList_modify,modify_eq_set _ _ _ _ h2]
 refine H41 ?_;intro hjA
 have hmap:(es.toList.set j { e0 with key:=key,val:=val }).map kv=A++(key,val) :: C:=by
  rw [oo,he,hjA]
  simp [kv]
 refine⟨setBlock w b (.map (es.modify j (fun e'=>{ e' with key:=key,val:=val })) clock),?_,⟨⟨_,_,aS h.lt,?_,by rw [hlist,hmap]⟩,?_⟩,Re _⟩
 ·have hj0:es[j]'hj=e0:=by
   obtain⟨_,h⟩:=aW.1 h2
   simpa using h
  simp [yr,mw ht,oh hb,K.check w vp hkey,h1,hj,hj0,h3,K.stays w hkey,vy _ hb,qd,setBlock]
 ·have hborn:(es.toList.set j { e0 with key:=key,val:=val }).map (·.born)=es.toList.map (·.born):=by
   rw [oo]
   refine List.ext_getElem? fun i=>?_
   rw [List.getElem?_set]
   split
   ·rename_i hij;subst hij;rw [aQ (by simpa using hjl),bX,h2];rfl
   ·rfl
  have hkeys:(es.toList.set j { e0 with key:=key,val:=val }).map (·.key)=es.toList.map (·.key):=by
   rw [oo]
   refine List.ext_getElem? fun i=>?_
   rw [List.getElem?_set]
   split
   ·rename_i hij;subst hij;rw [aQ (by simpa using hjl),bX,h2];simp [h3]
   ·rfl
  unfold wj
  rw [hlist,hborn,hkeys]
  refine⟨fun x hx=>?_,hs.2⟩
  have:x.born∈(es.toList.set j { e0 with key:=key,val:=val }).map (·.born):=bE.2 ⟨x,hx,rfl⟩
  rw [hborn] at this
  obtain⟨y,hy,e⟩:=bE.1 this
  rw [←e]
  exact hs.1 y hy
 ·intro p hp
  rcases cH.1 hp with hp|hp
  ·exact h.keys p (dZ _ hp)
  ·rcases bI.1 hp with rfl|hp
   ·exact⟨_,hkey⟩
   ·exact h.keys p (eP _ (eW _ hp))
theorem Bm.drop_some{ty:s8}(h:Bm P k w b m)(K:Keyed P k)(ht:P.underlying t=lp (.map k e)){key v:tj}{kl:Lit}(hkey:wh P k key=lp kl){A C:List (tj×tj)}(hm:m=A++(key,v) :: C) :
  ∃w',(al #[t,k] ty #[.map (lp b),key]).run P w=.ok (fh #[]) w'/\Bm P k w' b (A++C)/\w.grownBy w' (lp b):=by
 have h':=h
 obtain⟨es,clock,hb,hs,he⟩:=h.ex
 subst hm
 have hin:(key,v)∈es.toList.map kv:=by rw [he];simp
 obtain⟨j,e0,h1,h2,h3⟩:=Qz (w:=w) K hkey (by rw [he];exact h.keys) hin
 have hjl:j<es.toList.length:=(aW.1 h2).1
 have hjs:j<es.size:=by simpa using hjl
 have hsub:(es.eraseIdxIfInBounds j).toList=es.toList.eraseIdx j:=by
  unfold Array.eraseIdxIfInBounds
  rw [dif_pos hjs]
  simp
 refine H41 ?_;intro hjA
 refine⟨setBlock w b (.map (es.eraseIdxIfInBounds j) clock),?_,⟨⟨_,_,aS h.lt,MapKept.stamped_erase hs j,?_⟩,?_⟩,Re _⟩
 ·simp [al,mw ht,oh hb,K.check w _ hkey,h1,vy _ hb,qd,setBlock]
 ·rw [hsub,map_eraseIdx,he,hjA,List.eraseIdx_append_of_length_le (aA _)]
  simp
 ·intro p hp
  rcases cH.1 hp with hp|hp
  ·exact h.keys p (dZ _ hp)
  ·exact h.keys p (eP _ (eW _ hp))
theorem Bm.len(h:Bm P k w b m)(ht:P.underlying t=lp (.map k e))(ty:s8):(Builtin.len_ #[t] ty #[.map (lp b)]).run P w=.ok (rl tz m.length) w:=by
 obtain⟨es,clock,hb,hs,rfl⟩:=h.ex
 simp [Builtin.len_,mw ht,oh hb,qd]
 rfl
end
theorem Abp(w:qq)(str:ByteArray)(la:Option Addr)(ln lc:Nat)(sg sh sz:Nat)(lo hi:Int)(tx:Bool)(fn:Nat)(q:Option Addr->Nat->Nat->qq->Prop)(r:qq->Option Addr->Nat->Nat->qq->Prop)(z:qq->tj->qq->Prop)(HC:Hid (xi ly 121 #[pt str] w fun e w'=>(∃p m n,e=pd (fh #[Gl sg sh sz lo hi tx fn (cf p m n),gf s7])/\q p m n w')/\ug w.heap.size w w'))(HE:Hid (∀wb W p m n,q p m n wb->ug wb.heap.size wb W->ug w.heap.size w W->xi ly 156 #[Gl sg sh sz lo hi tx fn (cf p m n),vv 0 ⟨#[]⟩ (cf la ln lc)] W fun e w'=>(∃a i j,e=pd (fh #[cf a i j,gf s7])/\r W a i j w')/\ug W.heap.size W w'))(HM:Hid (∀W a i j W',r W a i j W'->ug w.heap.size w W'->xi ly 157 #[cf a i j] W' fun e w'=>(∃ov,e=pd (fh #[ov,gf s7])/\z W' ov w')/\ug W'.heap.size W' w')) :
  xi ly 105 #[pt str,cf la ln lc] w fun e w'=>(∃ov W,e=pd ov/\z W ov w'/\w.heap.size<=W.heap.size)/\ug w.heap.size w w':=by
 go_enter func105,ntmps105
 go_wp2_with (first
  | (go_at_call 121;refine HC.out.mono ?_;rintro e w1 ⟨⟨p,m,n,rfl,hq⟩,B9⟩;have HQ:=Bc hq;have Cs:Hid (ug w.heap.size w w1):=B9;clear B9 hq)
  | (go_at_call 156;refine(HE.out w1 _ p m n HQ.out (Bh _ _) (Cs.out.alloc Cs.out.size _)).mono ?_;rintro e w2 ⟨⟨a,i,j,rfl,hr⟩,Fs⟩;have HR:=Bc hr;have Fh:Hid (ug w.heap.size w w2):=(Cs.out.alloc Cs.out.size _).trans (Fs.mono (by have:=Cs.out.size;simp;omega));clear Fs hr)
  | (go_at_call 157;refine(HM.out _ a i j _ HR.out Fh.out).mono ?_;rintro e w3 ⟨⟨ov,rfl,hz⟩,hb3⟩;have HZ:=Bc hz;have HB3:Hid (ug w.heap.size w w3):=Fh.out.trans (hb3.mono (by have:=Fh.out.size;omega));have Di:=Fh.out.size;clear hb3 hz))
 go_ret
 exact⟨⟨_,_,rfl,HZ.out,Di⟩,HB3.out⟩
theorem Px{w:qq}{base:Nat}{ov:tj}{bs:List UInt8}(h:w.ownsRow base 5 1 ov bs.length (A0 bs))(h0:0<bs.length) :
  ∃g cap,ov=cf (lp ⟨g,0,od⟩) bs.length cap/\base<=g/\g<w.heap.size/\Bytes w g 0 bs:=by
 rcases h.2 with⟨_,h⟩|⟨g,cap,cur,e,h1,h2,h3,h4,h5,h6⟩
 ·omega
 ·refine⟨g,cap,e,h1,(aF.1 h2).1,fun j hj=>?_⟩
  have h7:(cur.toList.take (bs.length * 1))[j]? = (A0 bs)[j]?:=by rw [h6]
  have h8:cur[j]? = lp (rl dc bs[j].toNat):=by
   rw [dI,aQ Ab] at h7
   simp [A0,hj] at h7
   simpa using h7
  rw [aM]
  exact cellOf h2 h8
section
variable {valid:ByteArray->Bool} {Tabs:qq->Prop}
theorem Qf(U:Jk valid Tabs)(w:qq)(hT:Tabs w)(hL:Table w)(str:ByteArray)(l:List Orch.V)(S:Nat->Prop)(lv:tj)(hvs:Er w S l lv)(hS:∀b,S b->b<w.heap.size)(t:Orch.Ty)(hp:Orch.parse str.data.toList=lp t)(body:List UInt8)(hq:Orch.put valid 9 [] t ⟨0,⟨#[]⟩,l⟩=lp body)(h0:0<body.length)(hl:body.length<=1000) :
  xi ly 105 #[pt str,lv] w fun e w'=>(∃ov,e=pd ov/\w'.ownsRow w.heap.size 5 1 ov (Orch.be body.length 4++body).length (A0 (Orch.be body.length 4++body)))/\ug w.heap.size w w':=by
 obtain⟨la,lc,rfl⟩:=hvs.shape
 have E6:=Ut hp
 have hc:=Q9 w str hL
 rw [hp] at hc
 refine(Abp w str la _ lc t.l.sign.toNat t.l.shape t.l.size t.l.least t.l.most t.l.text t.l.fin.toNat (fun p m n w'=>El w' (fun b=>b<w'.heap.size) t.ps (cf p m n)) (fun W a i j w'=>∃g,a=lp ⟨g,0,od⟩/\i=body.length/\g<w'.heap.size/\Bytes w' g 0 body)
  (fun W ov w'=>w'.ownsRow W.heap.size 5 1 ov (Orch.be body.length 4++body).length (A0 (Orch.be body.length 4++body))) (hc.mono ?_) (fun wb W p m n hts hbW hbw=>?_) (fun W a i j W' hr hbW=>?_)).mono ?_
 ·exact Lfx
 ·have:=QO U W (U.kept (U.size hT) hbw hT) t E6 (fun b=>b<W.heap.size) _ (hts.congr (fun b h=>aB h hbW.size) (fun b hb=>hbW.block b hb)) ⟨0,⟨#[]⟩,l⟩ _ (hvs.congr (fun b h=>aB (hS b h) hbw.size) (fun b h=>hbw.block b (hS b h))) (fun _ h=>h)
  rw [hq] at this
  refine this.mono ?_
  rintro e w' ⟨⟨ov,rfl,ho⟩,hb⟩
  obtain⟨g,cap,rfl,_,hg,hby⟩:=Px ho h0
  exact⟨⟨_,_,_,rfl,g,rfl,rfl,hg,hby⟩,hb⟩
 ·obtain⟨g,rfl,rfl,hg,hby⟩:=hr
  refine(Zs W' g j body hby hg hl).mono ?_
  rintro e w' ⟨v',rfl,ho,hb⟩
  exact⟨⟨v',rfl,ho⟩,hb⟩
 ·rintro e w' ⟨⟨ov,W,rfl,ho,hs⟩,hb⟩
  refine⟨⟨ov,rfl,ho.1,?_⟩,hb⟩
  rcases ho.2 with h|⟨g,cap,cur,h1,h2,h3⟩
  ·exact Or.inl h
  ·exact Or.inr ⟨g,cap,cur,h1,aE hs h2,h3⟩
end
def Tryz.ren146:Go.Shelf.Ren:=⟨fun|138=>238|143=>239|146=>197|195=>249|197=>250|217=>256|218=>251|219=>252|221=>213|224=>258|225=>257|260=>255|266=>260|267=>259|268=>237|314=>261|n=>n,fun|0=>0|3=>3|4=>4|5=>5|9=>9|21=>21|31=>224|46=>63|51=>113|105=>316|119=>301|138=>303|139=>304|146=>320|n=>n,fun|1=>1|3=>6|4=>7|n=>n⟩
set_option maxRecDepth 100000 in
theorem Tryz.lays146:Go.Proofs.Lays.n146 ly Tryz.ren146:=
 {mixed:=Aa,
  f138:=func238.trans (aG lp Aa),
  f143:=func239.trans (aG lp Aa),
  f146:=func197.trans (aG lp Aa),
  f195:=func249.trans (aG lp Aa),
  f197:=func250.trans (aG lp Aa),
  f217:=func256.trans (aG lp Aa),
  f218:=func251.trans (aG lp Aa),
  f219:=func252.trans (aG lp Aa),
  f221:=func213.trans (aG lp Aa),
  f224:=func258.trans (aG lp Aa),
  f225:=func257.trans (aG lp Aa),
  f260:=func255.trans (aG lp Aa),
  f266:=func260.trans (aG lp Aa),
  f267:=func259.trans (aG lp Aa),
  f268:=func237.trans (aG lp Aa),
  f314:=func261.trans (aG lp Aa),
  t0:=underlying0,
  a0:=isAgg0,
  z0:=sizeOf0,
  v0:=zeroValue0,
  t3:=underlying3,
  a3:=isAgg3,
  z3:=sizeOf3,
  v3:=zeroValue3,
  t4:=underlying4,
  a4:=isAgg4,
  z4:=sizeOf4,
  v4:=zeroValue4,
  t5:=underlying5,
  a5:=isAgg5,
  z5:=sizeOf5,
  v5:=zeroValue5,
  t9:=underlying9,
  a9:=isAgg9,
  z9:=sizeOf9,
  v9:=zeroValue9,
  t21:=underlying21,
  a21:=isAgg21,
  z21:=sizeOf21,
  v21:=zeroValue21,
  t31:=underlying224,
  a31:=isAgg224,
  z31:=sizeOf224,
  v31:=zeroValue224,
  t46:=underlying63,
  a46:=isAgg63,
  z46:=sizeOf63,
  v46:=zeroValue63,
  t51:=vu,
  a51:=isAgg113,
  z51:=sizeOf113,
  v51:=zeroValue113,
  t105:=underlying316,
  a105:=isAgg316,
  z105:=sizeOf316,
  v105:=zeroValue316,
  t119:=underlying301,
  a119:=isAgg301,
  z119:=sizeOf301,
  t138:=underlying303,
  a138:=isAgg303,
  z138:=sizeOf303,
  v138:=zeroValue303,
  t139:=underlying304,
  a139:=isAgg304,
  z139:=sizeOf304,
  v139:=zeroValue304,
  t146:=underlying320,
  a146:=isAgg320,
  z146:=sizeOf320,
  v146:=zeroValue320,
  g1:=Aa,
  g3:=Aa,
  g4:=by kernel_rfl }
theorem Tryz.info9':(prog.info? 9).map (fun i=>(i.zero,i.size,i.bytes))=lp (lp (pt ByteArray.empty),1,16):=Aa
theorem KD(s sep:ByteArray)(m:Int)(w:qq)(hs:s.size<4294967281)(hm:w.cell? ⟨1,0,od⟩=lp (rl tz m))(h1:1<=sep.size) :
  xi ly 197 #[pt s,pt sep] w fun e w'=>e=pd (cf (lp ⟨w.heap.size,0,od⟩) (Lib.countB s sep+1) (Lib.countB s sep+1))/\w'=w.alloc (ye ((Lib.splitB sep 0 (Lib.countB s sep) s).map pt).toArray 9):=
 Any.strings_Split Tryz.lays146 Tryz.info9' s sep m w hs hm h1
def Kt(c:Nat):Bool:=decide (97<=c/\c<=122) || decide (48<=c/\c<=57) || decide (c=45) || decide (c=46)
def Nj(s:ByteArray):Bool:=decide (s≠⟨#[]⟩/\s≠⟨#[46]⟩/\s≠⟨#[46,46]⟩) && s.data.toList.all fun c=>Kt c.toNat
theorem Uo(w:qq)(c:Nat)(hc:c<256):xi ly 214 #[rl dc c] w fun e w'=>e=pd (gf (Kt c))/\w'=w:=by
 by_cases h1:(97:Int)<=c <;> by_cases h2:(c:Int)<=122 <;> by_cases h3:(48:Int)<=c <;> by_cases h4:(c:Int)<=57 <;> by_cases h5:(c:Int)=45 <;> by_cases h6:(c:Int)=46
 all_goals first
  | (exfalso;omega)
  | (
    rw [show Kt c=s7 by simp [Kt];omega]
    go_enter func214,ntmps214
    go_wp2
    go_ret
    exact⟨by first|rfl|simp_all,rfl⟩)
  | (
    rw [show Kt c=vp by simp [Kt];omega]
    go_enter func214,ntmps214
    go_wp2
    go_ret
    exact⟨by first|rfl|simp_all,rfl⟩)
theorem LS(l:List UInt8)(k:Nat)(h:k<l.length):(l.take (k+1)).all (fun c=>Kt c.toNat)=((l.take k).all (fun c=>Kt c.toNat) && Kt l[k].toNat):=by
 rw [dQ h,eX]
 simp
theorem Kg(s:ByteArray)(l:List UInt8):(s.toList == l)=decide (s=⟨l.toArray⟩):=by
 rw [Lib.toList_data,dS,beq_iff_eq,decide_eq_true_iff]
 constructor
 ·intro h
  apply ByteArray.ext
  apply Array.toList_inj.1
  simpa using h
 ·intro h
  rw [h]
theorem CU(w:qq)(s:ByteArray)(hs:s.size<=1000):xi ly 198 #[pt s] w fun e w'=>e=pd (gf (Nj s))/\w'=w:=by
 by_cases h0:s.toList == []
 ·have hn:Nj s=vp:=by
   rw [Kg] at h0
   simp [Nj,of_decide_eq_true h0]
  exact Ki2
 ·by_cases h1:s.toList == [46]
  ·have hn:Nj s=vp:=by
    rw [Kg] at h1
    simp [Nj,of_decide_eq_true h1]
   exact Ki2
  ·by_cases h2:s.toList == [46,46]
   ·have hn:Nj s=vp:=by
     rw [Kg] at h2
     simp [Nj,of_decide_eq_true h2]
    exact Ki2
   ·have HN:Hid (Nj s=s.data.toList.all fun c=>Kt c.toNat):=by
     show _=_
     have g0:=h0
     have g1:=h1
     have g2:=h2
     rw [Kg,decide_eq_true_iff] at g0 g1 g2
     unfold Nj
     rw [decide_eq_true ⟨g0,g1,g2⟩,pf]
    have hsl:s.data.toList.length=s.size:=(Lib.size_eq s).symm
    go_enter func198,ntmps198
    go_wp2
    go_loop [16] (fun i=>∃k:Nat,k<=s.size/\i=rl tz k/\Hid ((s.data.toList.take k).all (fun c=>Kt c.toNat)=s7)) (fun i=>s.size - (intOf i).toNat)
    case atStart=>exact⟨0,cC _,rfl,by show _=_;simp⟩
    case round=>
     obtain⟨k,hk,rfl,HA⟩:=hrel
     by_cases Cg:k<s.size
     ·have hkz:(k:Int)<(s.size:Int):=Ab
      have hlt':k<s.data.toList.length:=Ab
      have Dk:Hid ((s.data.toList.take (k+1)).all (fun c=>Kt c.toNat)=Kt s[k].toNat):=by
       show _=_
       rw [LS _ _ hlt',HA.out,pf]
       rfl
      cases hc:Kt s[k].toNat with
      | true=>
       rw [hc] at Dk
       go_wp2_with (go_at_call 214;refine(Uo w s[k].toNat (eY _)).mono ?_;rintro e w1 ⟨rfl,rfl⟩;rw [hc])
       exact Wqn
      | false=>
       have HF:Hid (Nj s=vp):=by
        show _=_
        rw [HN.out]
        have h3:=Dk.out
        rw [hc] at h3
        rw [←cZ (k+1) s.data.toList,eX,h3,eJ]
       go_wp2_with (go_at_call 214;refine(Uo w s[k].toNat (eY _)).mono ?_;rintro e w1 ⟨rfl,rfl⟩;rw [hc])
       go_ret
       exact⟨Fg HF.out.symm,rfl⟩
     ·have hkz:¬(k:Int)<(s.size:Int):=Ab
      have HF:Hid (Nj s=s7):=by
       show _=_
       rw [HN.out,←HA.out,bO Ab]
      go_wp2
      go_ret
      exact⟨Fg HF.out.symm,rfl⟩
def Dj(s:ByteArray):Bool:=decide (1<=s.size) && ((s.extract 0 1).toList == [47])
theorem O0(w:qq)(s:ByteArray):xi ly 236 #[pt s,pt ⟨#[47]⟩] w fun e w'=>e=pd (gf (Dj s))/\w'=w:=by
 by_cases h1:(1:Int)<=s.size
 ·have h1':1<=s.size:=Ab
  cases h2:((s.extract 0 1).toList == [47]) with
  | true=>
   rw [show Dj s=s7 by simp only [Dj,h2,decide_eq_true h1'];rfl]
   exact L7b
  | false=>
   rw [show Dj s=vp by simp only [Dj,h2,decide_eq_true h1'];rfl]
   exact L7b
 ·have h1':¬1<=s.size:=Ab
  rw [show Dj s=vp by simp only [Dj,decide_eq_false h1'];rfl]
  go_enter func236,ntmps236
  go_wp2
  go_ret
  exact⟨rfl,rfl⟩
theorem Xf(w:qq)(s:ByteArray):xi ly 212 #[pt s,pt ⟨#[47]⟩] w fun e w'=>e=pd (if Dj s=s7 then fh #[pt (s.extract 1 s.size),gf s7] else fh #[pt s,gf vp])/\w'=w:=by
 cases h:Dj s with
 | true=>
  have hz:(1:Int)<=s.size:=by
   have:1<=s.size:=by
    unfold Dj at h
    rw [bD] at h
    exact of_decide_eq_true h.1
   omega
  go_enter func212,ntmps212
  go_wp2_with (go_at_call 236;refine(O0 w s).mono ?_;rintro e w1 ⟨rfl,rfl⟩;rw [h])
  exact zg (v:=fh #[pt (s.extract 1 s.size),gf s7]) (by simp [results,results212,go_sem]) rfl ⟨rfl,rfl⟩
 | false=>
  go_enter func212,ntmps212
  go_wp2_with (go_at_call 236;refine(O0 w s).mono ?_;rintro e w1 ⟨rfl,rfl⟩;rw [h])
  exact zg (v:=fh #[pt s,gf vp]) (by simp [results,results212,go_sem]) rfl ⟨rfl,rfl⟩
theorem Vi(w:qq)(s:ByteArray):xi ly 196 #[pt s,pt ⟨#[47]⟩] w fun e w'=>e=pd (if Dj s=s7 then fh #[pt (s.extract 1 s.size),gf s7] else fh #[pt s,gf vp])/\w'=w:=by
 have hc:=Xf w s
 cases h:Dj s with
 | true=>
  rw [h] at hc
  have HC:Hid (xi ly 212 #[pt s,pt ⟨#[47]⟩] w fun e w'=>e=pd (fh #[pt (s.extract 1 s.size),gf s7])/\w'=w):=hc
  clear hc
  go_enter func196,ntmps196
  go_wp2_with (go_at_call 212;refine HC.out.mono ?_;rintro e w1 ⟨rfl,rfl⟩)
  exact zg (v:=fh #[pt (s.extract 1 s.size),gf s7]) (by simp [results,results196,go_sem]) rfl ⟨rfl,rfl⟩
 | false=>
  rw [h] at hc
  have HC:Hid (xi ly 212 #[pt s,pt ⟨#[47]⟩] w fun e w'=>e=pd (fh #[pt s,gf vp])/\w'=w):=hc
  clear hc
  go_enter func196,ntmps196
  go_wp2_with (go_at_call 212;refine HC.out.mono ?_;rintro e w1 ⟨rfl,rfl⟩)
  exact zg (v:=fh #[pt s,gf vp]) (by simp [results,results196,go_sem]) rfl ⟨rfl,rfl⟩
def names(s:ByteArray):List ByteArray:=Lib.splitB ⟨#[47]⟩ 0 (Lib.countB s ⟨#[47]⟩) s
theorem Rw(sep:ByteArray):∀(k:Nat) (s p:ByteArray),p∈Lib.splitB sep 0 k s->p.size<=s.size
 | 0,s,p,h=>by
  simp only [Lib.splitB,dH] at h
  rw [h]
  exact aA _
 | k+1,s,p,h=>by
  unfold Lib.splitB at h
  split at h
  ·simp only [dH] at h
   rw [h]
   exact aA _
  ·rcases bI.1 h with h|h
   ·rw [h,cQ]
    omega
   ·have:=Rw sep k _ p h
    rw [cQ] at this
    omega
def Hq(s:ByteArray):Bool:=decide (s.size<=24) && ((s.toList == [47]) || (Dj s && (names (s.extract 1 s.size)).all Nj))
theorem IU(s:ByteArray):(names s).length=Lib.countB s ⟨#[47]⟩+1:=Lib.splitB_all ⟨#[47]⟩ Ad 0 _ s rfl
theorem Ue(w:qq)(m:Int)(hm:w.cell? ⟨1,0,od⟩=lp (rl tz m))(s:ByteArray)(hs:s.size<=140737488355328):xi ly 180 #[pt s] w fun e w'=>e=pd (gf (Hq s))/\ug w.heap.size w w':=by
 by_cases h0:(24:Int)<s.size
 ·rw [show Hq s=vp by simp only [Hq,decide_eq_false (show ¬s.size<=24 by omega)];rfl]
  exact X7i
 ·cases h1:(s.toList == [47]) with
  | true=>
   rw [show Hq s=s7 by simp only [Hq,decide_eq_true (show s.size<=24 by omega),h1];rfl]
   exact X7i
  | false=>
   have hcp:=Vi w s
   cases h2:Dj s with
   | false=>
    rw [h2] at hcp
    have HC:Hid (xi ly 196 #[pt s,pt ⟨#[47]⟩] w fun e w'=>e=pd (fh #[pt s,gf vp])/\w'=w):=hcp
    rw [show Hq s=vp by simp only [Hq,decide_eq_true (show s.size<=24 by omega),h1,h2];rfl]
    clear hcp
    go_enter func180,ntmps180
    go_wp2_with (go_at_call 196;refine HC.out.mono ?_;rintro e w1 ⟨rfl,rfl⟩)
    go_ret
    exact⟨rfl,Below.refl _ _⟩
   | true=>
    rw [h2] at hcp
    have HC:Hid (xi ly 196 #[pt s,pt ⟨#[47]⟩] w fun e w'=>e=pd (fh #[pt (s.extract 1 s.size),gf s7])/\w'=w):=hcp
    have HIS:Hid (Hq s=(names (s.extract 1 s.size)).all Nj):=by
     show _=_
     simp only [Hq,decide_eq_true (show s.size<=24 by omega),h1,h2]
     rfl
    have hr:(s.extract 1 s.size).size<=24:=by rw [cQ];omega
    generalize s.extract 1 s.size=r at *
    have HSP:=Bc (KD r ⟨#[47]⟩ m w Ab hm Ad)
    have hnl:=IU r
    have hcl:Lib.countB r ⟨#[47]⟩<=24:=aE (Lib.countB_le ⟨#[47]⟩ Ad r.size r (aA _)) hr
    have hnew:=tw w (ye ((names r).map pt).toArray 9)
    have HCELL:Hid (∀i (h:i<(names r).length),(w.alloc (ye ((names r).map pt).toArray 9)).cell? ⟨w.heap.size,i,od⟩=lp (pt (names r)[i])):=fun i h=>by
     refine cellOf hnew ?_
     simp [h]
    have HNS:Hid (∀i (h:i<(names r).length),((names r)[i]).size<=1000):=fun i h=>aE (Rw _ _ _ _ (dF h)) Ab
    have HB:Hid (ug w.heap.size w (w.alloc (ye ((names r).map pt).toArray 9))):=Bh _ _
    have HWN:Hid (w.alloc (ye ((Lib.splitB ⟨#[47]⟩ 0 (Lib.countB r ⟨#[47]⟩) r).map pt).toArray 9)=w.alloc (ye ((names r).map pt).toArray 9)):=rfl
    clear hcp hnew
    go_enter func180,ntmps180
    go_wp2_with (first
     | (go_at_call 196;refine HC.out.mono ?_;rintro e w1 ⟨rfl,hw1⟩;have hw2:=hw1.symm;clear hw1;subst hw2)
     | (go_at_call 197;refine HSP.out.mono ?_;rintro e w1 ⟨rfl,rfl⟩;rw [HWN.out]))
    have hnl24:(names r).length<=25:=Ab
    have HFIN:Hid (∀{x:qq},x=w.alloc (ye ((names r).map pt).toArray 9)->ug w.heap.size w x):=fun h=>by rw [h];exact HB.out
    have hB:=HB.out
    clear HSP HC HWN hcl hm HFIN HB
    generalize w.alloc (ye ((names r).map pt).toArray 9)=W at *
    have HB:=Bc hB
    clear hB
    generalize names r=L at *
    generalize Lib.countB r ⟨#[47]⟩=C at *
    go_loop [22] (fun i=>∃k:Nat,k<=L.length/\i=rl tz k/\Hid ((L.take k).all Nj=s7)) (fun i=>L.length - (intOf i).toNat)
    case atStart=>exact⟨0,cC _,rfl,by show _=_;simp⟩
    case round=>
     obtain⟨k,hk,rfl,HA⟩:=hrel
     by_cases Cg:k<L.length
     ·have hkz:(k:Int)<(C:Int)+1:=Ab
      have hck:=HCELL.out k Cg
      have Dk:Hid ((L.take (k+1)).all Nj=Nj L[k]):=by
       show _=_
       rw [dQ Cg,eX,HA.out,pf]
       simp
      have HNM:=Bc (CU W L[k] (HNS.out k Cg))
      generalize L[k]=P at *
      cases hc:Nj P with
      | true=>
       rw [hc] at Dk HNM
       go_wp2_with (go_at_call 198;refine HNM.out.mono ?_;rintro e w1 ⟨rfl,hw1⟩;have hw2:=hw1.symm;clear hw1;subst hw2)
       exact Wqn
      | false=>
       have HF:Hid (Hq s=vp):=by
        show _=_
        have h3:=Dk.out
        rw [hc] at h3
        rw [HIS.out,←cZ (k+1) L,eX,h3,eJ]
       rw [hc] at HNM
       go_wp2_with (go_at_call 198;refine HNM.out.mono ?_;rintro e w1 ⟨rfl,hw1⟩;have hw2:=hw1.symm;clear hw1;subst hw2)
       go_ret
       exact⟨Fg HF.out.symm,HB.out⟩
     ·have hkz:¬(k:Int)<(C:Int)+1:=Ab
      have HF:Hid (Hq s=s7):=by
       show _=_
       rw [HIS.out,←HA.out,bO Ab]
      go_wp2
      go_ret
      exact⟨Fg HF.out.symm,HB.out⟩
def E8(l:List UInt8):Nat->Int
 | 0=>-1
 | k+1=>if l[k]? = lp 47 then(k:Int) else E8 l k
theorem Q5(l:List UInt8):∀k,-1<=E8 l k/\E8 l k<(k:Int)
 | 0=>by simp [E8]
 | k+1=>by
  have:=Q5 l k
  unfold E8
  split <;> omega
theorem Pn(l:List UInt8)(h:l[0]? = lp 47):∀k,0<k->0<=E8 l k
 | 0,h0=>Ab
 | k+1,_=>by
  unfold E8
  split
  ·omega
  ·rename_i hn
   cases k with
   | zero=>exact absurd h hn
   | succ k=>exact Pn l h (k+1) Ab
theorem Zq(w:qq)(s:ByteArray)(hs:s.size<=140737488355328):xi ly 209 #[pt s,rl dc 47] w fun e w'=>e=pd (rl tz (E8 s.data.toList s.size))/\w'=w:=by
 have hsl:s.data.toList.length=s.size:=(Lib.size_eq s).symm
 go_enter func209,ntmps209
 go_wp2
 go_loop [5] (fun vi=>∃k:Nat,k<=s.size/\vi=rl tz ((k:Int) - 1)/\Hid (E8 s.data.toList k=E8 s.data.toList s.size)) (fun vi=>(intOf vi+1).toNat)
 case atStart=>exact⟨s.size,aA _,rfl,rfl⟩
 case round=>
  obtain⟨k,hk,rfl,HH⟩:=hrel
  cases k with
  | zero=>
   go_wp2
   go_ret
   exact⟨Mt (by rw [←HH.out];rfl),rfl⟩
  | succ k=>
   rw [show((k+1:Nat):Int) - 1=(k:Int) by omega]
   have Cg:k<s.size:=Ab
   have hget:s.data.toList[k]? = lp s[k]:=by
    rw [aR Ab]
    rfl
   have hc8:(s[k]).toNat<256:=eY _
   by_cases hc:((s[k]).toNat:Int)=47
   ·have HR:Hid (E8 s.data.toList s.size=(k:Int)):=by
     show _=_
     rw [←HH.out]
     unfold E8
     rw [hget,aQ]
     congr 1
     apply eV.1
     show(s[k]).toNat=47
     omega
    go_wp2
    go_ret
    exact⟨Mt HR.out.symm,rfl⟩
   ·have HR:Hid (E8 s.data.toList k=E8 s.data.toList s.size):=by
     show _=_
     rw [←HH.out]
     conv=>rhs;unfold E8
     rw [hget,aO]
     intro e
     injection e with e
     rw [e] at hc
     exact hc rfl
    go_wp2
    go_round
    case rel=>exact⟨k,Ab,by first|rfl|go_num,HR⟩
    case measure=>first|(simp [intOf];done)|(simp [intOf];omega)
theorem P7(w:qq)(s:ByteArray)(hs:s.size<=140737488355328):xi ly 191 #[pt s,rl dc 47] w fun e w'=>e=pd (rl tz (E8 s.data.toList s.size))/\w'=w:=by
 go_enter func191,ntmps191
 go_wp2_with (go_at_call 209;refine(Zq w s hs).mono ?_;rintro e w1 ⟨rfl,rfl⟩)
 go_ret
 exact⟨rfl,rfl⟩
def Ds(s:ByteArray):ByteArray:=if E8 s.data.toList s.size=0 then⟨#[47]⟩ else s.extract 0 (E8 s.data.toList s.size).toNat
theorem Wk{s:ByteArray}(h:Dj s=s7):s.data.toList[0]? = lp 47/\0<s.size:=by
 unfold Dj at h
 rw [bD,decide_eq_true_iff,beq_iff_eq,Lib.toList_data] at h
 obtain⟨h1,h2⟩:=h
 refine⟨?_,Ab⟩
 have:=aG (fun l=>l[0]?) h2
 simpa using this
theorem Mr(w:qq)(s:ByteArray)(hs:s.size<=140737488355328)(hsl:Dj s=s7):xi ly 169 #[pt s] w fun e w'=>e=pd (pt (Ds s))/\w'=w:=by
 obtain⟨h0,h1⟩:=Wk hsl
 have hp:=Pn _ h0 s.size h1
 have hle:=(Q5 s.data.toList s.size).2
 have HL:=Bc (P7 w s hs)
 have HP:Hid (Ds s=if E8 s.data.toList s.size=0 then⟨#[47]⟩ else s.extract 0 (E8 s.data.toList s.size).toNat):=rfl
 obtain⟨i,hi⟩:∃i:Nat,E8 s.data.toList s.size=(i:Int):=⟨(E8 s.data.toList s.size).toNat,Ab⟩
 rw [hi] at HL HP hle
 by_cases hz:(i:Int)=0
 ·rw [aQ hz] at HP
  go_enter func169,ntmps169
  go_wp2_with (go_at_call 191;refine HL.out.mono ?_;rintro e w1 ⟨rfl,rfl⟩)
  go_ret
  exact⟨by rw [HP.out];rfl,rfl⟩
 ·rw [aO hz] at HP
  have hiz:(i:Int)<=(s.size:Int):=Ab
  go_enter func169,ntmps169
  go_wp2_with (go_at_call 191;refine HL.out.mono ?_;rintro e w1 ⟨rfl,rfl⟩)
  go_ret
  exact⟨by rw [HP.out];first|rfl|simp,rfl⟩
def Tryz.ren189:Go.Shelf.Ren:=⟨fun|125=>58|128=>114|129=>115|189=>194|215=>248|216=>233|257=>211|294=>227|295=>228|296=>229|297=>230|298=>231|299=>232|300=>234|301=>235|328=>245|329=>159|330=>160|331=>246|332=>247|343=>254|n=>n,fun|0=>0|3=>3|4=>4|5=>5|9=>9|28=>248|46=>63|51=>113|53=>110|131=>155|182=>174|183=>175|218=>231|222=>234|228=>261|229=>262|n=>n,fun n=>n⟩
set_option maxRecDepth 100000 in
theorem Tryz.lays189:Go.Proofs.Lays.n189 ly Tryz.ren189:=
 {mixed:=Aa,
  f125:=func58.trans (aG lp Aa),
  f128:=func114.trans (aG lp Aa),
  f129:=func115.trans (aG lp Aa),
  f189:=func194.trans (aG lp Aa),
  f215:=func248.trans (aG lp Aa),
  f216:=func233.trans (aG lp Aa),
  f257:=func211.trans (aG lp Aa),
  f294:=func227.trans (aG lp Aa),
  f295:=func228.trans (aG lp Aa),
  f296:=func229.trans (aG lp Aa),
  f297:=func230.trans (aG lp Aa),
  f298:=func231.trans (aG lp Aa),
  f299:=func232.trans (aG lp Aa),
  f300:=func234.trans (aG lp Aa),
  f301:=func235.trans (aG lp Aa),
  f328:=func245.trans (aG lp Aa),
  f329:=func159.trans (aG lp Aa),
  f330:=func160.trans (aG lp Aa),
  f331:=func246.trans (aG lp Aa),
  f332:=func247.trans (aG lp Aa),
  f343:=func254.trans (aG lp Aa),
  t0:=underlying0,
  a0:=isAgg0,
  z0:=sizeOf0,
  v0:=zeroValue0,
  t3:=underlying3,
  a3:=isAgg3,
  z3:=sizeOf3,
  v3:=zeroValue3,
  t4:=underlying4,
  a4:=isAgg4,
  z4:=sizeOf4,
  v4:=zeroValue4,
  t5:=underlying5,
  a5:=isAgg5,
  z5:=sizeOf5,
  v5:=zeroValue5,
  t9:=underlying9,
  a9:=isAgg9,
  z9:=sizeOf9,
  v9:=zeroValue9,
  t28:=underlying248,
  a28:=isAgg248,
  z28:=sizeOf248,
  v28:=zeroValue248,
  t46:=underlying63,
  a46:=isAgg63,
  z46:=sizeOf63,
  v46:=zeroValue63,
  t51:=vu,
  a51:=isAgg113,
  z51:=sizeOf113,
  v51:=zeroValue113,
  t53:=underlying110,
  a53:=isAgg110,
  z53:=sizeOf110,
  v53:=zeroValue110,
  t131:=underlying155,
  a131:=isAgg155,
  z131:=sizeOf155,
  v131:=zeroValue155,
  t182:=underlying174,
  a182:=isAgg174,
  z182:=sizeOf174,
  v182:=zeroValue174,
  t183:=underlying175,
  a183:=isAgg175,
  z183:=sizeOf175,
  v183:=zeroValue175,
  t218:=underlying231,
  a218:=isAgg231,
  z218:=sizeOf231,
  v218:=zeroValue231,
  t222:=underlying234,
  a222:=isAgg234,
  z222:=sizeOf234,
  v222:=zeroValue234,
  t228:=underlying261,
  a228:=isAgg261,
  z228:=sizeOf261,
  v228:=zeroValue261,
  t229:=underlying262,
  a229:=isAgg262,
  z229:=sizeOf262,
  v229:=zeroValue262 }
theorem JX(w:qq)(g cap:Nat)(zs:List Int)(cur:Array tj)(t:s8)(hg:w.heap[g]? = lp (ye cur t))(hz:∀j (h:j<zs.length),cur[j]? = lp (rl tz zs[j]))(hl:zs.length<=1000) :
  xi ly 194 #[cf (lp ⟨g,0,od⟩) zs.length cap] w fun e w'=>e=pd (fh #[])/\w.grownBy w' (lp g)/\∀j (h:j<zs.length),w'.cell? ⟨g,j,od⟩=lp (rl tz ((zs.mergeSort fun x y=>decide (x<=y))[j]'(by rw [eQ];exact h))):=by
 have hH:Go.Sort.Holds (rl tz) w g 0 zs.toArray:=fun j hj=>by
  have hj':j<zs.length:=by simpa using hj
  rw [aM]
  refine⟨?_,Ay hg⟩
  rw [cellOf hg (hz j hj')]
  simp [hj']
 refine(Any.slices_Sort_int Tryz.lays189 g 0 cap zs w hH (ltOf hg) Ab).mono ?_
 rintro e w' ⟨rfl,n,os,rfl⟩
 have hgl:=ltOf hg
 refine⟨rfl,⟨rfl,rfl,rfl,?_,fun k hk Cu=>?_⟩,fun j hj=>?_⟩
 ·simp [Go.Sort.grow,Go.Sort.putRow,Go.Sort.mapBlock,Go.Sort.ahead]
 ·show((w.heap.modify g _)++os)[k]? = _
  rw [dK (by simpa using hk),bJ,aO (fun e=>Cu (by rw [e]))]
 ·have hb:(Go.Sort.grow (Go.Sort.putRow (rl tz) (Go.Sort.ahead w n) g 0 (zs.mergeSort fun x y=>decide (x<=y)).toArray) os).heap[g]? = lp (ye (ui (rl tz) 0 (zs.mergeSort fun x y=>decide (x<=y)).toArray cur) t):=by
   show((w.heap.modify g _)++os)[g]? = _
   rw [dK (by simpa using hgl),bJ,aQ rfl,hg]
   rfl
  refine cellOf hb ?_
  have hcj:=hz j hj
  have hjc:=(aF.1 hcj).1
  have hms:j<(zs.mergeSort fun x y=>decide (x<=y)).length:=by rw [eQ];exact hj
  unfold ui
  rw [Array.getElem?_mapIdx,hcj]
  simp [hj,hms]
theorem MC(w:qq)(R o g pn pc:Nat)(hc:w.cell? ⟨R,o,od⟩=lp (cf (lp ⟨g,0,od⟩) pn pc))(h:4<pn)(hpc:pn<=pc)(hp1:pn<=5000)(hR:R<w.heap.size)(l:List UInt8)(hl:l.length=pn)(hg:g<w.heap.size)(hb:Bytes w g 0 l) :
  xi ly 89 #[om (lp ⟨R,o,od⟩)] w fun e w'=>e=pd (cf (lp ⟨w.heap.size,0,od⟩) (pn - 4) (pn - 4))/\w'.heap[w.heap.size]? = lp (ye (A0 (l.drop 4)).toArray 5)/\ug w.heap.size w w':=by
 obtain⟨i0,hi0,hz0,hz1,hz2⟩:=info_parts Tryz.info5
 have hmk:=run_make (P:=ly) w 35 5 i0 _ dn hi0 hz0 .i64 .i64 ((pn:Int) - 4) ((pn:Int) - 4) Ab Ab (by rw [hz2];omega) Ab
 rw [show((pn:Int) - 4).toNat=pn - 4 by omega,hz1,eZ] at hmk
 have hn:=tw w (ye (yz #[rl dc 0] (pn - 4)) 5)
 have hlen:(A0 (l.drop 4)).length=pn - 4:=by simp [A0,hl]
 have hcp:=run_copy_row (P:=ly) (w.alloc (ye (yz #[rl dc 0] (pn - 4)) 5)) 35 35 3 5 w.heap.size 0 (pn - 4) (pn - 4) ⟨g,4,od⟩ (pn - 4) (pc - 4) _ 5 (A0 (l.drop 4)) dn (by rw [hi0];simp [hz1]) hn (by rw [hlen];exact(Nat.min_self _).symm)
  (fun j u hj=>by
   have hj4:j<(l.drop 4).length:=by have:=(aW.1 hj).1;simpa [A0] using this
   have hj5:4+j<l.length:=by simp at hj4;omega
   have h1:=hb (4+j) hj5
   have e2:u=rl dc (l[4+j].toNat):=by
    simp only [A0,bX,List.getElem?_drop,aR hj5,bA,aL] at hj
    exact hj.symm
   rw [Addr.add_lit,je _ _ _ (by exact hg),e2]
   rwa [aM] at h1) (by rw [hlen,size_madeCells];omega) (fun u hu=>by
    obtain⟨x,_,rfl⟩:=bE.1 hu
    rfl)
 have e1:(List.take 0 (yz #[rl dc 0] (pn - 4)).toList++A0 (l.drop 4)++List.drop (0+(A0 (l.drop 4)).length) (yz #[rl dc 0] (pn - 4)).toList).toArray=(A0 (l.drop 4)).toArray:=by
  congr 1
  rw [toList_madeCells_one,List.drop_replicate,hlen,show pn - 4 - (0+(pn - 4))=0 by omega]
  simp
 rw [e1,World.setRow_alloc_new] at hcp
 have c2:(w.alloc (ye (yz #[rl dc 0] (pn - 4)) 5)).cell? ⟨R,o,od⟩=lp (cf (lp ⟨g,0,od⟩) pn pc):=by rw [je _ _ _ hR];exact hc
 have HR:=Bc (tw w (ye (A0 (l.drop 4)).toArray 5))
 have HB:=Bc (Bh w (ye (A0 (l.drop 4)).toArray 5))
 have hw:IntKind.i64.wrap ((pn:Int) - 4)=pn - 4:=by rw [yq];omega
 have k1:(4:Int)<=(pn:Int):=Ab
 have k2:¬pc=4:=Ab
 clear e1 hn hb hl hlen
 generalize w.alloc (ye (A0 (l.drop 4)).toArray 5)=W0 at *
 generalize hW1:w.alloc (ye (yz #[rl dc 0] (pn - 4)) 5)=W1 at *
 go_enter func89,ntmps89
 go_wp2
 go_ret
 exact⟨rfl,HR.out,HB.out⟩
end Go.Proofs.YtjoblhlkfmeckaaGreatDoor
namespace Orch
variable (valid:ByteArray->Bool)
def Yp(k:Nat)(t:Ty)(v:V)(bs:List UInt8):Prop:=∀out:List UInt8,out.length+bs.length<=1000->put valid k out t v=lp (out++bs)
inductive Rj(k:Nat):List Ty->List V->List UInt8->Prop
 | nil:Rj k [] [] []
 | cons {t v b ts vs bs} (h:Yp valid k t v b) (r:Rj k ts vs bs):Rj k (t :: ts) (v :: vs) (b++bs)
theorem Ma{k:Nat}{t:Ty}{v:V}(hf:fits valid t v=s7)(hl:v.l = []):Yp valid (k+1) t v (head t v):=fun out ho=>by
 rw [put,aQ hf,hl,putE]
 simp only
 rw [aQ (by rw [aH];exact ho)]
theorem Rj.len{k:Nat}{ts:List Ty}{vs:List V}{bs:List UInt8}(h:Rj valid k ts vs bs):vs.length=ts.length:=by
 induction h with
 | nil=>rfl
 | cons _ _ ih=>simp [ih]
theorem Rj.run{k:Nat}{t:Ty}(hsh:t.l.shape≠2){ts:List Ty}{vs:List V}{bs:List UInt8}(h:Rj valid k ts vs bs) :
  ∀(pre:List Ty),t.ps=pre++ts->∀out:List UInt8,out.length+bs.length<=1000->putE (put valid k) t vs pre.length out=lp (out++bs):=by
 induction h with
 | nil=>intro pre _ out _;simp [putE]
 | @cons t' v b ts vs bs hp hr ih=>
  intro pre hps out ho
  rw [aH] at ho
  have hpart:part t pre.length=t':=by
   unfold part
   rw [aO hsh,hps]
   simp
  rw [putE,hpart,hp out Ab]
  simp only
  have:=ih (pre ++ [t']) (by rw [hps];simp) (out++b) (by rw [aH];omega)
  rw [aH,eO] at this
  rw [this,bM]
theorem puts_rec{k:Nat}{l:Lt}(hsh:l.shape=3){ps:List Ty}{vs:List V}{bs:List UInt8}(h:Rj valid k ps vs bs) :
  Yp valid (k+1) (.mk l ps) (.mk 0 ⟨#[]⟩ vs) bs:=fun out ho=>by
 have hf:fits valid (.mk l ps) (.mk 0 ⟨#[]⟩ vs)=s7:=by
  have h1:(pe #[]).size=0:=rfl
  simp [fits,Ty.l,Ty.ps,V.n,V.s,V.l,hsh,h.len,h1]
 have hh:head (.mk l ps) (.mk 0 ⟨#[]⟩ vs) = []:=by simp [head,Ty.l,hsh]
 rw [put,aQ hf,hh,bU]
 have:=h.run valid (t:=.mk l ps) (by show l.shape≠2;omega) [] rfl out ho
 rw [aI] at this
 show(match putE (put valid k) (.mk l ps) vs 0 out with|none=>od|some o=>if o.length<=1000 then lp o else od)=_
 rw [this]
 simp only
 rw [aQ (by rw [aH];exact ho)]
abbrev lq:Lt:=⟨63,0,1,0,1,vp,0⟩
abbrev l4:Lt:=⟨52,0,4,-2147483648,2147483647,vp,0⟩
abbrev l8:Lt:=⟨56,0,8,-9223372036854775808,9223372036854775807,vp,0⟩
abbrev lb:Lt:=⟨98,1,0,0,0,vp,0⟩
abbrev lt:Lt:=⟨116,1,0,0,0,s7,0⟩
abbrev lr:Lt:=⟨40,3,0,0,0,vp,41⟩
abbrev tq:Ty:=.mk lq []
abbrev t4:Ty:=.mk l4 []
abbrev t8:Ty:=.mk l8 []
abbrev tb:Ty:=.mk lb []
abbrev tt:Ty:=.mk lt []
abbrev num(n:Int):V:=.mk n ⟨#[]⟩ []
abbrev txt(s:ByteArray):V:=.mk 0 s []
theorem puts_4{k:Nat}{n:Int}(h1:-2147483648<=n)(h2:n<=2147483647):Yp valid (k+1) t4 (num n) (be n 4):=by
 have hs:(pe #[]).size=0:=rfl
 exact Ma valid (t:=t4) (v:=num n) (by simp [fits,Ty.l,V.n,V.s,V.l,h1,h2,hs]) rfl
theorem puts_8{k:Nat}{n:Int}(h1:-9223372036854775808<=n)(h2:n<=9223372036854775807):Yp valid (k+1) t8 (num n) (be n 8):=by
 have hs:(pe #[]).size=0:=rfl
 exact Ma valid (t:=t8) (v:=num n) (by simp [fits,Ty.l,V.n,V.s,V.l,h1,h2,hs]) rfl
theorem puts_t{k:Nat}{s:ByteArray}(h1:s.size<=200)(h2:valid s=s7):Yp valid (k+1) tt (txt s) (be s.size 4++s.data.toList):=
 Ma valid (t:=tt) (v:=txt s) (by simp [fits,Ty.l,V.n,V.s,V.l,h1,h2]) rfl
theorem parse_hello:parse [40,52,41]=lp (.mk lr [t4]):=Ac
theorem parse_error:parse [40,52,56,52,41]=lp (.mk lr [t4,t8,t4]):=Ac
theorem parse_event:parse [40,52,56,52,52,116,41]=lp (.mk lr [t4,t8,t4,t4,tt]):=Ac
theorem parse_path:parse [40,52,56,52,116,41]=lp (.mk lr [t4,t8,t4,tt]):=Ac
theorem parse_state:parse [40,52,56,52,40,56,56,52,52,41,41]=lp (.mk lr [t4,t8,t4,.mk lr [t8,t8,t4,t4]]):=Ac
theorem puts_hello{n:Int}(h1:-2147483648<=n)(h2:n<=2147483647):put valid 9 [] (.mk lr [t4]) (.mk 0 ⟨#[]⟩ [num n])=lp (be n 4):=by
 have:=puts_rec valid (k:=8) (l:=lr) rfl (.cons (puts_4 valid h1 h2) .nil) [] (by simp [be_length])
 simpa using this
theorem puts_error{m z e:Int}(hm1:-2147483648<=m)(hm2:m<=2147483647)(hz1:-9223372036854775808<=z)(hz2:z<=9223372036854775807)(he1:-2147483648<=e)(he2:e<=2147483647) :
  put valid 9 [] (.mk lr [t4,t8,t4]) (.mk 0 ⟨#[]⟩ [num m,num z,num e])=lp (be m 4++be z 8++be e 4):=by
 have:=puts_rec valid (k:=8) (l:=lr) rfl (.cons (puts_4 valid hm1 hm2) (.cons (puts_8 valid hz1 hz2) (.cons (puts_4 valid he1 he2) .nil))) [] (by simp [be_length])
 simpa using this
theorem puts_event{m z e x:Int}{p:ByteArray}(hm1:-2147483648<=m)(hm2:m<=2147483647)(hz1:-9223372036854775808<=z)(hz2:z<=9223372036854775807)(he1:-2147483648<=e)(he2:e<=2147483647)(hx1:-2147483648<=x)(hx2:x<=2147483647)(hp:p.size<=200)(hv:valid p=s7) :
  put valid 9 [] (.mk lr [t4,t8,t4,t4,tt]) (.mk 0 ⟨#[]⟩ [num m,num z,num e,num x,txt p])=lp (be m 4++be z 8++be e 4++be x 4++be p.size 4++p.data.toList):=by
 have hd:p.data.toList.length=p.size:=rfl
 have:=puts_rec valid (k:=8) (l:=lr) rfl (.cons (puts_4 valid hm1 hm2) (.cons (puts_8 valid hz1 hz2) (.cons (puts_4 valid he1 he2) (.cons (puts_4 valid hx1 hx2) (.cons (puts_t valid hp hv) .nil))))) [] (by simp only [aH,be_length,hd,aI];omega)
 simpa using this
theorem puts_path{m z e:Int}{p:ByteArray}(hm1:-2147483648<=m)(hm2:m<=2147483647)(hz1:-9223372036854775808<=z)(hz2:z<=9223372036854775807)(he1:-2147483648<=e)(he2:e<=2147483647)(hp:p.size<=200)(hv:valid p=s7) :
  put valid 9 [] (.mk lr [t4,t8,t4,tt]) (.mk 0 ⟨#[]⟩ [num m,num z,num e,txt p])=lp (be m 4++be z 8++be e 4++be p.size 4++p.data.toList):=by
 have hd:p.data.toList.length=p.size:=rfl
 have:=puts_rec valid (k:=8) (l:=lr) rfl (.cons (puts_4 valid hm1 hm2) (.cons (puts_8 valid hz1 hz2) (.cons (puts_4 valid he1 he2) (.cons (puts_t valid hp hv) .nil)))) [] (by simp only [aH,be_length,hd,aI];omega)
 simpa using this
theorem puts_state{m z e a b c d:Int}(hm1:-2147483648<=m)(hm2:m<=2147483647)(hz1:-9223372036854775808<=z)(hz2:z<=9223372036854775807)(he1:-2147483648<=e)(he2:e<=2147483647)(ha1:-9223372036854775808<=a)(ha2:a<=9223372036854775807)(B9:-9223372036854775808<=b)(Fs:b<=9223372036854775807)(hc1:-2147483648<=c)(hc2:c<=2147483647)(hd1:-2147483648<=d)(hd2:d<=2147483647) :
  put valid 9 [] (.mk lr [t4,t8,t4,.mk lr [t8,t8,t4,t4]]) (.mk 0 ⟨#[]⟩ [num m,num z,num e,.mk 0 ⟨#[]⟩ [num a,num b,num c,num d]])=lp (be m 4++be z 8++be e 4++be a 8++be b 8++be c 4++be d 4):=by
 have:=puts_rec valid (k:=8) (l:=lr) rfl (.cons (puts_4 valid hm1 hm2) (.cons (puts_8 valid hz1 hz2) (.cons (puts_4 valid he1 he2) (.cons (puts_rec valid (k:=7) (l:=lr) rfl (.cons (puts_8 valid ha1 ha2) (.cons (puts_8 valid B9 Fs) (.cons (puts_4 valid hc1 hc2) (.cons (puts_4 valid hd1 hd2) .nil))))) .nil)))) [] (by simp [be_length])
 simpa using this
end Orch
namespace Go.Proofs.YtjoblhlkfmeckaaGreatDoor
open Go.RowKit Go.Maps
open Go.ChangeMaps (setBlock)
structure Xb(w:qq)(b r:Nat)(m:List (tj×tj))(cnt:Nat):Prop where
 ex:∃es clock since seen c0,w.heap[b]? = lp (.map es clock)/\wj es clock/\es.toList.map kv=m/\w.heap[r]? = lp (.mapIter (lp b) since seen c0)/\(∀x∈es.toList,x.born<since)/\(leftOf es seen).size=cnt/\since<=c0/\since<=clock
section
variable {P:Program} {k t e:s8} {w:qq} {b r cnt:Nat} {m:List (tj×tj)}
theorem Bm.range(h:Bm P k w b m)(ht:P.underlying t=lp (.map k e)) :
  ∃o,(Instr.range t (.map (lp b))).run P w=.ok (om (lp ⟨w.heap.size,0,od⟩)) (w.alloc o)/\Xb (w.alloc o) b w.heap.size m m.length:=by
 have Cg:=h.lt
 obtain⟨es,clock,hb,hs,rfl⟩:=h.ex
 refine⟨_,run_range_map w t k e b es clock ht hb,⟨es,clock,clock,#[],clock,(Below.heap_alloc _ _ _ Cg).trans hb,hs,rfl,tw _ _,hs.1,?_,aA _,aA _⟩⟩
 simp [leftOf]
theorem Xb.ne(h:Xb w b r m cnt):r≠b:=by
 exact Ggv
theorem Xb.keep{w':qq}(h:Xb w b r m cnt)(hb:w'.heap[b]? = w.heap[b]?)(hr:w'.heap[r]? = w.heap[r]?):Xb w' b r m cnt:=by
 exact Azp
theorem Xb.next(h:Xb w b r m cnt)(ty:s8) :
  (cnt=0/\(Instr.next (om (lp ⟨r,0,od⟩)) vp ty).run P w=.ok (fh #[gf vp]) w) ∨
  ∃p∈m,∃w' cnt',(Instr.next (om (lp ⟨r,0,od⟩)) vp ty).run P w=.ok (fh #[gf s7,p.1,p.2]) w'/\Xb w' b r m cnt'/\cnt'<cnt/\w.grownBy w' (lp r)/\w'.heap.size=w.heap.size/\(Instr.entry (om (lp ⟨r,0,od⟩))).run P w'=.ok (fh #[p.1,p.2]) w':=by
 have Cu:=h.ne
 obtain⟨es,clock,since,seen,c0,hb,hs,rfl,hr,hold,rfl,hsc,hsk⟩:=h.ex
 rcases run_next_at (P:=P) w ty r b since c0 seen es clock hr hb hold hsc with⟨h0,D1⟩|⟨e,he,w1,hal,D1⟩
 ·exact Or.inl ⟨h0,D1⟩
 ·obtain⟨hem,Hf⟩:=mem_left he
  have F7:w1.heap[r]? = lp (.mapIter (lp b) since seen c0):=by rcases hal with rfl|rfl <;> exact hr
  have B9:w1.heap[b]? = lp (.map es clock):=by rcases hal with rfl|rfl <;> exact hb
  refine Tuu ?_;intro hset1 hset2 Es
  refine Or.inr ⟨kv e,bE.2 ⟨e,hem,rfl⟩,_,_,D1,⟨es,clock,since,seen.push e.born,clock,Es,hs,rfl,hset1,hold,rfl,hsk,hsk⟩,left_shrinks es seen e he,?_,?_,run_entry_at _ r b since seen es clock e hset1 Es hem hs.2.1⟩
  ·exact Sga
  ·rcases hal with rfl|rfl <;> simp [setBlock]
end
theorem Ps(w:qq)(ps:List (Orch.V×tj))(S:Nat->Prop)(h0:ps≠[])(cs:Array tj)(hcs:cs.toList=ps.flatMap Fe)(ty:s8)(n:Nat)(hn:n=ps.length)(l:List Orch.V)(hl:l=ps.map xo)(hS:S w.heap.size)(hr:∀p,p∈ps->Er (w.alloc (ye cs ty)) S p.1.l p.2) :
  Er (w.alloc (ye cs ty)) S l (cf (lp ⟨w.heap.size,0,od⟩) n n):=by
 subst hn hl
 refine .row ps _ _ h0 (aA _) hS (fun j u hj=>?_) hr
 rw [←hcs] at hj
 exact cellOf (tw w _) (by simpa using hj)
def Fr(base:Nat)(w':qq)(e:Ending)(body:List UInt8):Prop:=∃ov,e=pd ov/\w'.ownsRow base 5 1 ov (Orch.be body.length 4++body).length (A0 (Orch.be body.length 4++body))
theorem Fr.low{b b':Nat}{w':qq}{e:Ending}{body:List UInt8}(h:Fr b w' e body)(hb:b'<=b):Fr b' w' e body:=by
 obtain⟨ov,rfl,ho⟩:=h
 refine⟨ov,rfl,ho.1,?_⟩
 rcases ho.2 with h|⟨g,cap,cur,h1,h2,h3⟩
 ·exact Or.inl h
 ·exact Or.inr ⟨g,cap,cur,h1,aE hb h2,h3⟩
section
variable {valid:ByteArray->Bool} {Tabs:qq->Prop}
theorem IL(U:Jk valid Tabs)(w:qq)(hT:Tabs w)(hL:Table w)(n:Int)(h1:-2147483648<=n)(h2:n<=2147483647) :
  xi ly 96 #[rl tz n] w fun e w'=>Fr w.heap.size w' e (Orch.be n 4)/\ug w.heap.size w w':=by
 have HP:Hid (xi ly 105 #[pt ⟨#[40,52,41]⟩,cf (lp ⟨w.heap.size,0,od⟩) 1 1] (w.alloc (ye #[rl tz n,pt ⟨#[]⟩,cf od 0 0] 164)) fun e w'=>Fr w.heap.size w' e (Orch.be n 4)/\ug w.heap.size w w'):=by
  refine(Qf U _ (U.kept (U.size hT) (Bh w _) hT) (hL.below (Bh w _) hL.pos) ⟨#[40,52,41]⟩ [Orch.num n] (fun b=>b<(w.alloc (ye #[rl tz n,pt ⟨#[]⟩,cf od 0 0] 164)).heap.size) _ (Ps w [(Orch.num n,cf od 0 0)] _ Ae _ (by simp [Fe,Orch.V.n,Orch.V.s]) 164 1 rfl _ rfl Ae ?_) (fun _ h=>h) _ Orch.parse_hello _ (Orch.puts_hello valid h1 h2) (by simp [Orch.be_length]) (by simp [Orch.be_length])).mono ?_
  ·intro p hp
   simp at hp
   subst hp
   exact .nil od 0
  ·rintro e w' ⟨h,hb⟩
   exact⟨Fr.low h Ae,(Bh w _).trans (hb.mono Ae)⟩
 go_enter func96,ntmps96
 exact Wt0
abbrev Mv(kind mark:Int)(p d n:ByteArray)(ver:Int)(wt:Bool):tj:=.agg #[rl tz kind,rl tz mark,pt p,pt d,pt n,rl tz ver,gf wt]
abbrev Bb(kind mark:Int)(p d n:ByteArray)(ver:Int)(wt:Bool):Array tj:=#[rl tz kind,rl tz mark,pt p,pt d,pt n,rl tz ver,gf wt]
theorem IG(U:Jk valid Tabs)(w:qq)(hT:Tabs w)(hL:Table w)(kind m:Int)(p d n:ByteArray)(ver:Int)(wt:Bool)(z e:Int)(hm1:-2147483648<=m)(hm2:m<=2147483647)(hz1:-9223372036854775808<=z)(hz2:z<=9223372036854775807)(he1:-2147483648<=e)(he2:e<=2147483647) :
  xi ly 173 #[Mv kind m p d n ver wt,rl tz z,rl tz e] w fun x w'=>Fr w.heap.size w' x (Orch.be m 4++Orch.be z 8++Orch.be e 4)/\ug w.heap.size w w':=by
 have HP:Hid (xi ly 105 #[pt ⟨#[40,52,56,52,41]⟩,cf (lp ⟨w.heap.size+1,0,od⟩) 3 3] ((w.alloc (ye (Bb kind m p d n ver wt) 119)).alloc (ye #[rl tz m,pt ⟨#[]⟩,cf od 0 0,rl tz z,pt ⟨#[]⟩,cf od 0 0,rl tz e,pt ⟨#[]⟩,cf od 0 0] 164)) fun x w'=>Fr w.heap.size w' x (Orch.be m 4++Orch.be z 8++Orch.be e 4)/\ug w.heap.size w w'):=by
  have hb0:ug w.heap.size w ((w.alloc (ye (Bb kind m p d n ver wt) 119)).alloc (ye #[rl tz m,pt ⟨#[]⟩,cf od 0 0,rl tz z,pt ⟨#[]⟩,cf od 0 0,rl tz e,pt ⟨#[]⟩,cf od 0 0] 164)):=(Bh w _).alloc Ae _
  have hv:=Ps (w.alloc (ye (Bb kind m p d n ver wt) 119)) [(Orch.num m,cf od 0 0),(Orch.num z,cf od 0 0),(Orch.num e,cf od 0 0)] (fun b=>b<w.heap.size+2) Ae #[rl tz m,pt ⟨#[]⟩,cf od 0 0,rl tz z,pt ⟨#[]⟩,cf od 0 0,rl tz e,pt ⟨#[]⟩,cf od 0 0] (by simp [Fe,Orch.V.n,Orch.V.s]) 164 3 rfl _ rfl Ae (by
   intro p hp
   simp at hp
   rcases hp with rfl|rfl|rfl <;> exact .nil od 0)
  rw [show(w.alloc (ye (Bb kind m p d n ver wt) 119)).heap.size=w.heap.size+1 by simp] at hv
  refine(Qf U _ (U.kept (U.size hT) hb0 hT) (hL.below hb0 hL.pos) ⟨#[40,52,56,52,41]⟩ _ _ _ hv (fun b h=>Ai) _ Orch.parse_error _ (Orch.puts_error valid hm1 hm2 hz1 hz2 he1 he2) (by simp [Orch.be_length]) (by simp [Orch.be_length])).mono ?_
  rintro e w' ⟨h,hb⟩
  exact⟨Fr.low h Ag,hb0.trans (hb.mono Ag)⟩
 go_enter func173,ntmps173
 exact Wt0
theorem IH(U:Jk valid Tabs)(w:qq)(hT:Tabs w)(hL:Table w)(z x:Int)(p:ByteArray)(hz1:-9223372036854775808<=z)(hz2:z<=9223372036854775807)(hx1:-2147483648<=x)(hx2:x<=2147483647)(hp:p.size<=200)(hv:valid p=s7) :
  xi ly 178 #[rl tz z,rl tz x,pt p] w fun y w'=>Fr w.heap.size w' y (Orch.be (-1) 4++Orch.be z 8++Orch.be 0 4++Orch.be x 4++Orch.be p.size 4++p.data.toList)/\ug w.heap.size w w':=by
 have HP:Hid (xi ly 105 #[pt ⟨#[40,52,56,52,52,116,41]⟩,cf (lp ⟨w.heap.size,0,od⟩) 5 5] (w.alloc (ye #[rl tz (-1),pt ⟨#[]⟩,cf od 0 0,rl tz z,pt ⟨#[]⟩,cf od 0 0,rl tz 0,pt ⟨#[]⟩,cf od 0 0,rl tz x,pt ⟨#[]⟩,cf od 0 0,rl tz 0,pt p,cf od 0 0] 164)) fun y w'=>Fr w.heap.size w' y (Orch.be (-1) 4++Orch.be z 8++Orch.be 0 4++Orch.be x 4++Orch.be p.size 4++p.data.toList)/\ug w.heap.size w w'):=by
  have hd:p.data.toList.length=p.size:=rfl
  have hv0:=Ps w [(Orch.num (-1),cf od 0 0),(Orch.num z,cf od 0 0),(Orch.num 0,cf od 0 0),(Orch.num x,cf od 0 0),(Orch.txt p,cf od 0 0)] (fun b=>b<w.heap.size+1) Ae #[rl tz (-1),pt ⟨#[]⟩,cf od 0 0,rl tz z,pt ⟨#[]⟩,cf od 0 0,rl tz 0,pt ⟨#[]⟩,cf od 0 0,rl tz x,pt ⟨#[]⟩,cf od 0 0,rl tz 0,pt p,cf od 0 0] (by simp [Fe,Orch.V.n,Orch.V.s]) 164 5 rfl _ rfl Ae (by
   intro p hp
   simp at hp
   rcases hp with rfl|rfl|rfl|rfl|rfl <;> exact .nil od 0)
  refine(Qf U _ (U.kept (U.size hT) (Bh w _) hT) (hL.below (Bh w _) hL.pos) ⟨#[40,52,56,52,52,116,41]⟩ _ _ _ hv0 (fun b h=>Ai) _ Orch.parse_event _ (Orch.puts_event valid Ab Ab hz1 hz2 Ab Ab hx1 hx2 hp hv) (by simp only [aH,Orch.be_length];omega) (by simp only [aH,Orch.be_length,hd];omega)).mono ?_
  rintro e w' ⟨h,hb⟩
  exact⟨Fr.low h Ae,(Bh w _).trans (hb.mono Ae)⟩
 go_enter func178,ntmps178
 exact Wt0
end
end Go.Proofs.YtjoblhlkfmeckaaGreatDoor
